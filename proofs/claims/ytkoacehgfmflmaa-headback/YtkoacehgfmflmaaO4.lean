/- Contracts of the document's own plain and Put, of layer 7. -/
import Derived.Test.YtkoacehgfmflmaaO2
namespace Go.Proofs.Ytkoacehgfmflmaa
open Go.RowKit Go.Deep
set_option linter.unusedVariables false
set_option linter.unusedSimpArgs false

namespace Oct
/-- the plain form of n in W bytes -/
def plainF (n W i : Nat) : Nat := if i + 1 < W then 48 + n / 8 ^ (W - 2 - i) % 8 else 0
/-- the wide form of n in W bytes -/
def wideF (n W i : Nat) : Nat := if i = 0 then 128 else n / 256 ^ (W - 1 - i) % 256
/-- the form of n in W bytes -/
def formF (n W i : Nat) : Int := if n < 8 ^ (W - 1) then ((plainF n W i : Nat) : Int) else ((wideF n W i : Nat) : Int)
theorem plainF_lt (n W i : Nat) : plainF n W i < 256 := by unfold plainF; split <;> omega
theorem wideF_lt (n W i : Nat) : wideF n W i < 256 := by unfold wideF; split; decide; exact Nat.mod_lt _ (by decide)
theorem formF_bd (n W i : Nat) : 0 ≤ formF n W i ∧ formF n W i < 256 := by
  have a := plainF_lt n W i
  have b := wideF_lt n W i
  unfold formF; split <;> omega
end Oct

theorem nat_pow8_le {k : Nat} (h : k ≤ 11) : 8 ^ k ≤ 8589934592 := by
  have h12 : k = 0 ∨ k = 1 ∨ k = 2 ∨ k = 3 ∨ k = 4 ∨ k = 5 ∨ k = 6 ∨ k = 7 ∨ k = 8 ∨ k = 9 ∨ k = 10 ∨ k = 11 := by omega
  rcases h12 with rfl | rfl | rfl | rfl | rfl | rfl | rfl | rfl | rfl | rfl | rfl | rfl <;> decide
theorem pow8_cast (k : Nat) : (8 : Int) ^ k = ((8 ^ k : Nat) : Int) := by rw [Int.natCast_pow]; rfl

set_option maxHeartbeats 2000000 in
theorem plain_any (n W : Nat) (h1 : 2 ≤ W) (h2 : W ≤ 12) (hn : n < 8 ^ (W - 1)) (w : World) :
    Calls Try.prog 56 #[.int .i64 (n : Int), .int .i64 (W : Int)] w fun e w' => ∃ g cap, e = .returned (.slice (some ⟨g, 0, none⟩) W cap) ∧ Own w' g W (fun i => ((Oct.plainF n W i : Nat) : Int)) ∧ w.heap.size ≤ g ∧ W ≤ cap ∧ cap ≤ maxLen ∧ Bw w w' := by
  obtain ⟨i0, hi0, hz0, hz1, hz2⟩ := info_parts info_u8
  obtain ⟨P, hP⟩ : ∃ P : Nat, Hid (P = 8 ^ (W - 1)) := ⟨8 ^ (W - 1), rfl⟩
  have hPb : P ≤ 8589934592 := by rw [hP.out]; exact nat_pow8_le (by omega)
  have hP8 : P = 8 * 8 ^ (W - 2) := by rw [hP.out, show W - 1 = (W - 2) + 1 by omega, Nat.pow_succ, Nat.mul_comm]
  have hnP : n < P := by rw [hP.out]; exact hn
  have hM : (8 : Int) ^ (W - 1) = (P : Int) := by rw [pow8_cast, hP.out]
  obtain ⟨F, hF⟩ : ∃ F : Nat → Int, Hid (F = fun i => ((Oct.plainF n W i : Nat) : Int)) := ⟨_, rfl⟩
  have hMH : Hid ((8 : Int) ^ (W - 1) = (P : Int)) := hM
  obtain ⟨Q, hQ⟩ : ∃ Q : Nat, Hid (Q = 8 ^ (W - 2)) := ⟨8 ^ (W - 2), rfl⟩
  have hPQ : Hid (P = 8 * Q) := by show _ = _; rw [hQ.out]; exact hP8
  have hq1 : ((P : Int) - 1 + 1) / 8 = (Q : Int) := by have := hPQ.out; omega
  have hq2 : (P : Int) / 8 = (Q : Int) := by have := hPQ.out; omega
  have hq3 : (P : Int).tdiv 8 = (Q : Int) := by rw [Int.tdiv_eq_ediv_of_nonneg (by omega)]; exact hq2
  have hQ0 : 0 < Q := by rw [hQ.out]; exact Nat.pow_pos (by decide)
  have hP0 : (0 : Int) < (P : Int) := by have := hPQ.out; omega
  clear hP8 hM hn
  go_enter Try.func56, Try.ntmps56
  go_wp2_with (go_at_call 55; refine (rmost_yes W h1 h2 _).mono ?_; rintro e w' ⟨rfl, hw'⟩; subst w'; rw [hMH.out])
  clear hq1 hq2 hq3
  go_loopw [5, 6, 7] (fun v x i wr => ∃ (k U : Nat), k + 1 ≤ W ∧ i = .int .i64 ((k : Int) + 1) ∧ x = .int .i64 (U : Int) ∧ Hid (U = if k + 2 ≤ W then 8 ^ (W - 2 - k) else 1) ∧ wr.ownsRow w.heap.size 5 1 v k (cellsU F k) ∧ Bw w wr) (fun _ _ i _ => W - (intOf i).toNat)
  case atStart => exact ⟨0, Q, by omega, rfl, rfl, by show _ = _; rw [if_pos (by omega)]; exact hQ.out, World.ownsRow_nil _ _ _ _, Bw.refl _⟩
  case round =>
    obtain ⟨k, U, hk, rfl, rfl, hU, hown, hbw⟩ := hrel
    have szr := hbw.size
    have k0 : (0 : Int) ≤ (k : Int) := Int.natCast_nonneg _
    by_cases hlt : k + 1 < W
    · have t1 : (k : Int) + 1 < (W : Int) := by omega
      have hUe : Hid (U = 8 ^ (W - 2 - k)) := by show _ = _; rw [hU.out, if_pos (by omega)]
      have hU0 : 0 < U := by rw [hUe.out]; exact Nat.pow_pos (by decide)
      have hUb : U ≤ 8589934592 := by rw [hUe.out]; exact nat_pow8_le (by omega)
      have u0 : (0 : Int) < (U : Int) := by omega
      have u1 : ¬ (U : Int) = 0 := by omega
      obtain ⟨E, hE⟩ : ∃ E : Nat, Hid (E = n / U) := ⟨n / U, rfl⟩
      have d1 : (n : Int) / (U : Int) = (E : Int) := by rw [hE.out, Int.natCast_ediv]
      have d2 : (n : Int).tdiv (U : Int) = (E : Int) := by rw [Int.tdiv_eq_ediv_of_nonneg (by omega)]; exact d1
      have hEn : E ≤ n := by rw [hE.out]; exact Nat.div_le_self _ _
      have e0 : (0 : Int) ≤ (E : Int) := Int.natCast_nonneg _
      have hval : Hid (48 + (E : Int) % 8 = F k) := by
        show _ = _
        rw [hF.out]
        dsimp only
        unfold Oct.plainF
        rw [if_pos (by omega), ← hUe.out, ← hE.out]
        omega
      have hvb : (48 + (E : Int) % 8) % 256 = 48 + (E : Int) % 8 := by omega
      by_cases hl2 : k + 2 < W
      · obtain ⟨V, hV⟩ : ∃ V : Nat, Hid (V = 8 ^ (W - 2 - (k + 1))) := ⟨8 ^ (W - 2 - (k + 1)), rfl⟩
        have hUV : Hid (U = 8 * V) := by show _ = _; rw [hUe.out, hV.out, show W - 2 - k = (W - 2 - (k + 1)) + 1 by omega, Nat.pow_succ, Nat.mul_comm]
        have hV0 : 0 < V := by rw [hV.out]; exact Nat.pow_pos (by decide)
        have d3 : (U : Int) / 8 = (V : Int) := by have := hUV.out; omega
        have d4 : (U : Int).tdiv 8 = (V : Int) := by rw [Int.tdiv_eq_ediv_of_nonneg (by omega)]; exact d3
        have d5 : ((V : Int) == 0) = false := by rw [beq_eq_false_iff_ne]; omega
        go_wp2_with (at_builtin; refine wpList_append_lies _ (by rfl) (.tmp 17) (.tmp 24) _ (by rfl) w.heap.size 5 i0 _ 1 1 Try.underlying24 hi0 hz0 hz1 hz2 rfl (by omega) _ _ _ (by rfl) (hown.alloc _) ⟨wr.heap.size, 0, none⟩ 1 1 [_] (by rfl) (by rfl) (World.news_of_block (cs := #[_]) (t := 5) (fr := (0, 0)) (heap_alloc_new wr _)) (by simp [Value.oneCell']) (by omega) (by unfold maxLen; omega) (by omega) (by simp; omega) (wr.heap.size + 1) (by simp) ?_; intro g4 c4 w4 hown4 hgrow4 hat4 hlt4)
        go_roundw
        case rel => exact ⟨k + 1, V, by omega, by go_num, rfl, by show _ = _; rw [if_pos (by omega)]; exact hV.out, by rw [cellsU_succ, ← hval.out]; exact hown4, bw_grow hgrow4 (Below.alloc hbw szr _) (by rw [size_alloc]; omega) (hown.alloc _)⟩
        case measure => simp [intOf]; omega
      · have hU1 : U = 1 := by rw [hUe.out, show W - 2 - k = 0 by omega, Nat.pow_zero]
        have d3 : (U : Int) / 8 = 0 := by omega
        have d4 : (U : Int).tdiv 8 = 0 := by rw [Int.tdiv_eq_ediv_of_nonneg (by omega)]; exact d3
        clear hU1
        go_wp2_with (at_builtin; refine wpList_append_lies _ (by rfl) (.tmp 17) (.tmp 24) _ (by rfl) w.heap.size 5 i0 _ 1 1 Try.underlying24 hi0 hz0 hz1 hz2 rfl (by omega) _ _ _ (by rfl) (hown.alloc _) ⟨wr.heap.size, 0, none⟩ 1 1 [_] (by rfl) (by rfl) (World.news_of_block (cs := #[_]) (t := 5) (fr := (0, 0)) (heap_alloc_new wr _)) (by simp [Value.oneCell']) (by omega) (by unfold maxLen; omega) (by omega) (by simp; omega) (wr.heap.size + 1) (by simp) ?_; intro g4 c4 w4 hown4 hgrow4 hat4 hlt4)
        go_roundw
        case rel => exact ⟨k + 1, 1, by omega, by go_num, rfl, by show _ = _; rw [if_neg (by omega)], by rw [cellsU_succ, ← hval.out]; exact hown4, bw_grow hgrow4 (Below.alloc hbw szr _) (by rw [size_alloc]; omega) (hown.alloc _)⟩
        case measure => simp [intOf]; omega
    · have t1 : ¬ (k : Int) + 1 < (W : Int) := by omega
      have hval : Hid (F k = 0) := by
        show _ = _
        rw [hF.out]
        dsimp only
        unfold Oct.plainF
        rw [if_neg (by omega)]
        rfl
      go_wp2_with (at_builtin; refine wpList_append_lies _ (by rfl) (.tmp 30) (.tmp 31) _ (by rfl) w.heap.size 5 i0 _ 1 1 Try.underlying24 hi0 hz0 hz1 hz2 rfl (by omega) _ _ _ (by rfl) (hown.alloc _) ⟨wr.heap.size, 0, none⟩ 1 1 [_] (by rfl) (by rfl) (World.news_of_block (cs := #[_]) (t := 5) (fr := (0, 0)) (heap_alloc_new wr _)) (by simp [Value.oneCell']) (by omega) (by unfold maxLen; omega) (by omega) (by simp; omega) (wr.heap.size + 1) (by simp) ?_; intro g4 c4 w4 hown4 hgrow4 hat4 hlt4)
      go_ret
      have hown5 : w4.ownsRow w.heap.size 5 1 (.slice (some ⟨g4, 0, none⟩) (k + 1) c4) (k + 1) (cellsU F (k + 1)) := by rw [cellsU_succ, hval.out]; exact hown4
      obtain ⟨g5, c5, e5, hg5, hc5, hc5', ho5⟩ := Own.of hown5 (by omega)
      cases e5
      have eW : k + 1 = W := by omega
      subst eW
      refine ⟨g4, c4, rfl, by rw [← hF.out]; exact ho5, hg5, hc5, hc5', bw_grow hgrow4 (Below.alloc hbw szr _) (by rw [size_alloc]; omega) (hown.alloc _)⟩

theorem rput_arg (n z : Int) (h : ¬ (2 ≤ z ∧ z ≤ 12) ∨ n < 0) (w : World) :
    Calls Try.prog 48 #[.int .i64 n, .int .i64 z] w fun e w' => e = .returned (.tuple #[.slice none 0 0, .int .i64 1]) ∧ w' = w := by
  by_cases hz : 2 ≤ z ∧ z ≤ 12
  · have hn : n < 0 := h.resolve_left (fun h => h hz)
    go_enter Try.func48, Try.ntmps48
    go_wp2_with (go_at_call 53; refine (field_yes z hz.1 hz.2 _).mono ?_; rintro e w' ⟨rfl, hw'⟩; subst w')
    go_ret2
    exact ⟨rfl, rfl⟩
  · go_enter Try.func48, Try.ntmps48
    go_wp2_with (go_at_call 53; refine (field_no z hz _).mono ?_; rintro e w' ⟨rfl, hw'⟩; subst w')
    go_ret2
    exact ⟨rfl, rfl⟩
theorem rput_plain (n W : Nat) (h1 : 2 ≤ W) (h2 : W ≤ 12) (hn : n < 8 ^ (W - 1)) (w : World) :
    Calls Try.prog 48 #[.int .i64 (n : Int), .int .i64 (W : Int)] w fun e w' => ∃ g cap, e = .returned (.tuple #[.slice (some ⟨g, 0, none⟩) W cap, .int .i64 0]) ∧ Own w' g W (Oct.formF n W) ∧ w.heap.size ≤ g ∧ W ≤ cap ∧ cap ≤ maxLen ∧ Bw w w' := by
  have hP : (n : Int) ≤ (8 : Int) ^ (W - 1) - 1 := by rw [pow8_cast]; omega
  have hPb : (8 : Int) ^ (W - 1) ≤ 8589934592 := pow8_le (by omega)
  obtain ⟨P, hPe⟩ : ∃ P : Int, Hid (P = (8 : Int) ^ (W - 1) - 1) := ⟨_, rfl⟩
  rw [← hPe.out] at hP
  have n0 : (0 : Int) ≤ (n : Int) := Int.natCast_nonneg _
  have n1 : ¬ (n : Int) < 0 := by omega
  go_enter Try.func48, Try.ntmps48
  go_wp2_with (first
    | (go_at_call 53; refine (field_yes (W : Int) (by omega) (by omega) _).mono ?_; rintro e w' ⟨rfl, hw'⟩; subst w')
    | (go_at_call 55; refine (rmost_yes W h1 h2 _).mono ?_; rintro e w' ⟨rfl, hw'⟩; subst w'; rw [← hPe.out])
    | (go_at_call 56; refine (plain_any n W h1 h2 hn _).mono ?_; rintro e w1 ⟨g, cap, rfl, hown, hg, hcap, hcm, hw1⟩))
  go_ret2
  exact ⟨g, cap, rfl, hown.congr (fun c _ => by unfold Oct.formF; rw [if_pos hn]), hg, hcap, hcm, hw1⟩
end Go.Proofs.Ytkoacehgfmflmaa
