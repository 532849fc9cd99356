/- Texts of mine, put together. -/
import Derived.Test.YtldkhbkgmiicbaaGreatDoorBu20

/- Contracts of the document's own Field, Most and own, of layer 7. -/
namespace Go.Proofs.YtldkhbkgmiicbaaGreatDoor
open Go.RowKit Go.Deep
set_option linter.unusedVariables false
set_option linter.unusedSimpArgs false

theorem field_no (z : Int) (h : ¬ (2 ≤ z ∧ z ≤ 12)) (w : World) : Calls Tryz.prog 148 #[.int .i64 z] w fun e w' => e = .returned (.bool false) ∧ w' = w := by
  by_cases h1 : 2 ≤ z
  · have h2 : ¬ z ≤ 12 := fun h2 => h ⟨h1, h2⟩
    go_enter Tryz.func148, Tryz.ntmps148
    go_wp2
    go_ret
    exact ⟨rfl, rfl⟩
  · go_enter Tryz.func148, Tryz.ntmps148
    go_wp2
    go_ret
    exact ⟨rfl, rfl⟩
theorem field_yes (z : Int) (h1 : 2 ≤ z) (h2 : z ≤ 12) (w : World) : Calls Tryz.prog 148 #[.int .i64 z] w fun e w' => e = .returned (.bool true) ∧ w' = w := by
  go_enter Tryz.func148, Tryz.ntmps148
  go_wp2
  go_ret
  exact ⟨rfl, rfl⟩

theorem pow8_le {k : Nat} (h : k ≤ 11) : (8 : Int) ^ k ≤ 8589934592 := by
  have h12 : k = 0 ∨ k = 1 ∨ k = 2 ∨ k = 3 ∨ k = 4 ∨ k = 5 ∨ k = 6 ∨ k = 7 ∨ k = 8 ∨ k = 9 ∨ k = 10 ∨ k = 11 := by omega
  rcases h12 with rfl | rfl | rfl | rfl | rfl | rfl | rfl | rfl | rfl | rfl | rfl | rfl <;> decide
theorem pow8_pos (k : Nat) : (0 : Int) < 8 ^ k := Int.pow_pos (by decide)
theorem rmost_yes (W : Nat) (h1 : 2 ≤ W) (h2 : W ≤ 12) (w : World) : Calls Tryz.prog 149 #[.int .i64 (W : Int)] w fun e w' => e = .returned (.int .i64 ((8 : Int) ^ (W - 1) - 1)) ∧ w' = w := by
  go_enter Tryz.func149, Tryz.ntmps149
  go_wp2_with (go_at_call 148; refine (field_yes (W : Int) (by omega) (by omega) _).mono ?_; rintro e w' ⟨rfl, hw'⟩; subst w')
  go_loop [3, 4] (fun n i => ∃ (k : Nat) (u : Int), k + 1 ≤ W ∧ i = .int .i64 ((k : Int) + 1) ∧ n = .int .i64 u ∧ Hid (u = 8 ^ k)) (fun _ i => W - (intOf i).toNat)
  case atStart => exact ⟨0, 1, by omega, rfl, rfl, rfl⟩
  case round =>
    obtain ⟨k, u, hk, rfl, rfl, hu⟩ := hrel
    have u1 : u ≤ 8589934592 := by rw [hu.out]; exact pow8_le (by omega)
    have u0 : 0 < u := by rw [hu.out]; exact pow8_pos k
    have k0 : (0 : Int) ≤ (k : Int) := Int.natCast_nonneg _
    by_cases hlt : k + 1 < W
    · have t1 : (k : Int) + 1 < (W : Int) := by omega
      go_wp2
      go_round
      case rel => exact ⟨k + 1, 8 * u, by omega, by go_num, by go_num, by show _ = _; rw [hu.out, Int.pow_succ, Int.mul_comm]⟩
      case measure => simp [intOf]; omega
    · have t1 : ¬ (k : Int) + 1 < (W : Int) := by omega
      have ek : W - 1 = k := by omega
      go_wp2
      go_ret
      exact ⟨ret_int (by first | rw [ek, hu.out] | rw [hu.out]), rfl⟩

/-- what own answers -/
def OwnSays (L : Nat) (f : Nat → Int) (e : Ending) : Prop := ∃ n x, e = .returned (.tuple #[.int .i64 n, .bool x]) ∧ (Oct.num f L ≤ 9223372036854775807 → n = Oct.num f L ∧ x = true) ∧ (¬ Oct.num f L ≤ 9223372036854775807 → n = 0 ∧ x = false)
end Go.Proofs.YtldkhbkgmiicbaaGreatDoor

/- Contracts of the document's own plain and Put, of layer 7. -/
namespace Go.Proofs.YtldkhbkgmiicbaaGreatDoor
open Go.RowKit Go.Deep
set_option linter.unusedVariables false
set_option linter.unusedSimpArgs false

namespace Oct
/-- the plain form of n in W bytes -/
def plainF (n W i : Nat) : Nat := if i + 1 < W then 48 + n / 8 ^ (W - 2 - i) % 8 else 0
/-- the wide form of n in W bytes -/
def wideF (n W i : Nat) : Nat := if i = 0 then 128 else n / 256 ^ (W - 1 - i) % 256
/-- the form of n in W bytes -/
def formF (n W i : Nat) : Int := if n < 8 ^ (W - 1) then ((plainF n W i : Nat) : Int) else ((wideF n W i : Nat) : Int)
theorem plainF_lt (n W i : Nat) : plainF n W i < 256 := by unfold plainF; split <;> omega
theorem wideF_lt (n W i : Nat) : wideF n W i < 256 := by unfold wideF; split; decide; exact Nat.mod_lt _ (by decide)
theorem formF_bd (n W i : Nat) : 0 ≤ formF n W i ∧ formF n W i < 256 := by
  have a := plainF_lt n W i
  have b := wideF_lt n W i
  unfold formF; split <;> omega
end Oct

theorem nat_pow8_le {k : Nat} (h : k ≤ 11) : 8 ^ k ≤ 8589934592 := by
  have h12 : k = 0 ∨ k = 1 ∨ k = 2 ∨ k = 3 ∨ k = 4 ∨ k = 5 ∨ k = 6 ∨ k = 7 ∨ k = 8 ∨ k = 9 ∨ k = 10 ∨ k = 11 := by omega
  rcases h12 with rfl | rfl | rfl | rfl | rfl | rfl | rfl | rfl | rfl | rfl | rfl | rfl <;> decide
theorem pow8_cast (k : Nat) : (8 : Int) ^ k = ((8 ^ k : Nat) : Int) := by rw [Int.natCast_pow]; rfl

set_option maxHeartbeats 2000000 in
theorem plain_any (n W : Nat) (h1 : 2 ≤ W) (h2 : W ≤ 12) (hn : n < 8 ^ (W - 1)) (w : World) :
    Calls Tryz.prog 150 #[.int .i64 (n : Int), .int .i64 (W : Int)] w fun e w' => ∃ g cap, e = .returned (.slice (some ⟨g, 0, none⟩) W cap) ∧ Own w' g W (fun i => ((Oct.plainF n W i : Nat) : Int)) ∧ w.heap.size ≤ g ∧ W ≤ cap ∧ cap ≤ maxLen ∧ Bw w w' := by
  obtain ⟨i0, hi0, hz0, hz1, hz2⟩ := info_parts info_u8
  obtain ⟨P, hP⟩ : ∃ P : Nat, Hid (P = 8 ^ (W - 1)) := ⟨8 ^ (W - 1), rfl⟩
  have hPb : P ≤ 8589934592 := by rw [hP.out]; exact nat_pow8_le (by omega)
  have hP8 : P = 8 * 8 ^ (W - 2) := by rw [hP.out, show W - 1 = (W - 2) + 1 by omega, Nat.pow_succ, Nat.mul_comm]
  have hnP : n < P := by rw [hP.out]; exact hn
  have hM : (8 : Int) ^ (W - 1) = (P : Int) := by rw [pow8_cast, hP.out]
  obtain ⟨F, hF⟩ : ∃ F : Nat → Int, Hid (F = fun i => ((Oct.plainF n W i : Nat) : Int)) := ⟨_, rfl⟩
  have hMH : Hid ((8 : Int) ^ (W - 1) = (P : Int)) := hM
  obtain ⟨Q, hQ⟩ : ∃ Q : Nat, Hid (Q = 8 ^ (W - 2)) := ⟨8 ^ (W - 2), rfl⟩
  have hPQ : Hid (P = 8 * Q) := by show _ = _; rw [hQ.out]; exact hP8
  have hq1 : ((P : Int) - 1 + 1) / 8 = (Q : Int) := by have := hPQ.out; omega
  have hq2 : (P : Int) / 8 = (Q : Int) := by have := hPQ.out; omega
  have hq3 : (P : Int).tdiv 8 = (Q : Int) := by rw [Int.tdiv_eq_ediv_of_nonneg (by omega)]; exact hq2
  have hQ0 : 0 < Q := by rw [hQ.out]; exact Nat.pow_pos (by decide)
  have hP0 : (0 : Int) < (P : Int) := by have := hPQ.out; omega
  clear hP8 hM hn
  go_enter Tryz.func150, Tryz.ntmps150
  go_wp2_with (go_at_call 149; refine (rmost_yes W h1 h2 _).mono ?_; rintro e w' ⟨rfl, hw'⟩; subst w'; rw [hMH.out])
  clear hq1 hq2 hq3
  go_loopw [5, 6, 7] (fun v x i wr => ∃ (k U : Nat), k + 1 ≤ W ∧ i = .int .i64 ((k : Int) + 1) ∧ x = .int .i64 (U : Int) ∧ Hid (U = if k + 2 ≤ W then 8 ^ (W - 2 - k) else 1) ∧ wr.ownsRow w.heap.size 5 1 v k (cellsU F k) ∧ Bw w wr) (fun _ _ i _ => W - (intOf i).toNat)
  case atStart => exact ⟨0, Q, by omega, rfl, rfl, by show _ = _; rw [if_pos (by omega)]; exact hQ.out, World.ownsRow_nil _ _ _ _, Bw.refl _⟩
  case round =>
    obtain ⟨k, U, hk, rfl, rfl, hU, hown, hbw⟩ := hrel
    have szr := hbw.size
    have k0 : (0 : Int) ≤ (k : Int) := Int.natCast_nonneg _
    by_cases hlt : k + 1 < W
    · have t1 : (k : Int) + 1 < (W : Int) := by omega
      have hUe : Hid (U = 8 ^ (W - 2 - k)) := by show _ = _; rw [hU.out, if_pos (by omega)]
      have hU0 : 0 < U := by rw [hUe.out]; exact Nat.pow_pos (by decide)
      have hUb : U ≤ 8589934592 := by rw [hUe.out]; exact nat_pow8_le (by omega)
      have u0 : (0 : Int) < (U : Int) := by omega
      have u1 : ¬ (U : Int) = 0 := by omega
      obtain ⟨E, hE⟩ : ∃ E : Nat, Hid (E = n / U) := ⟨n / U, rfl⟩
      have d1 : (n : Int) / (U : Int) = (E : Int) := by rw [hE.out, Int.natCast_ediv]
      have d2 : (n : Int).tdiv (U : Int) = (E : Int) := by rw [Int.tdiv_eq_ediv_of_nonneg (by omega)]; exact d1
      have hEn : E ≤ n := by rw [hE.out]; exact Nat.div_le_self _ _
      have e0 : (0 : Int) ≤ (E : Int) := Int.natCast_nonneg _
      have hval : Hid (48 + (E : Int) % 8 = F k) := by
        show _ = _
        rw [hF.out]
        dsimp only
        unfold Oct.plainF
        rw [if_pos (by omega), ← hUe.out, ← hE.out]
        omega
      have hvb : (48 + (E : Int) % 8) % 256 = 48 + (E : Int) % 8 := by omega
      by_cases hl2 : k + 2 < W
      · obtain ⟨V, hV⟩ : ∃ V : Nat, Hid (V = 8 ^ (W - 2 - (k + 1))) := ⟨8 ^ (W - 2 - (k + 1)), rfl⟩
        have hUV : Hid (U = 8 * V) := by show _ = _; rw [hUe.out, hV.out, show W - 2 - k = (W - 2 - (k + 1)) + 1 by omega, Nat.pow_succ, Nat.mul_comm]
        have hV0 : 0 < V := by rw [hV.out]; exact Nat.pow_pos (by decide)
        have d3 : (U : Int) / 8 = (V : Int) := by have := hUV.out; omega
        have d4 : (U : Int).tdiv 8 = (V : Int) := by rw [Int.tdiv_eq_ediv_of_nonneg (by omega)]; exact d3
        have d5 : ((V : Int) == 0) = false := by rw [beq_eq_false_iff_ne]; omega
        go_wp2_with (at_builtin; refine wpList_append_lies _ (by rfl) (.tmp 17) (.tmp 24) _ (by rfl) w.heap.size 5 i0 _ 1 1 Tryz.underlying24 hi0 hz0 hz1 hz2 rfl (by omega) _ _ _ (by rfl) (hown.alloc _) ⟨wr.heap.size, 0, none⟩ 1 1 [_] (by rfl) (by rfl) (World.news_of_block (cs := #[_]) (t := 5) (fr := (0, 0)) (heap_alloc_new wr _)) (by simp [Value.oneCell']) (by omega) (by unfold maxLen; omega) (by omega) (by simp; omega) (wr.heap.size + 1) (by simp) ?_; intro g4 c4 w4 hown4 hgrow4 hat4 hlt4)
        go_roundw
        case rel => exact ⟨k + 1, V, by omega, by go_num, rfl, by show _ = _; rw [if_pos (by omega)]; exact hV.out, by rw [cellsU_succ, ← hval.out]; exact hown4, bw_grow hgrow4 (Below.alloc hbw szr _) (by rw [size_alloc]; omega) (hown.alloc _)⟩
        case measure => simp [intOf]; omega
      · have hU1 : U = 1 := by rw [hUe.out, show W - 2 - k = 0 by omega, Nat.pow_zero]
        have d3 : (U : Int) / 8 = 0 := by omega
        have d4 : (U : Int).tdiv 8 = 0 := by rw [Int.tdiv_eq_ediv_of_nonneg (by omega)]; exact d3
        clear hU1
        go_wp2_with (at_builtin; refine wpList_append_lies _ (by rfl) (.tmp 17) (.tmp 24) _ (by rfl) w.heap.size 5 i0 _ 1 1 Tryz.underlying24 hi0 hz0 hz1 hz2 rfl (by omega) _ _ _ (by rfl) (hown.alloc _) ⟨wr.heap.size, 0, none⟩ 1 1 [_] (by rfl) (by rfl) (World.news_of_block (cs := #[_]) (t := 5) (fr := (0, 0)) (heap_alloc_new wr _)) (by simp [Value.oneCell']) (by omega) (by unfold maxLen; omega) (by omega) (by simp; omega) (wr.heap.size + 1) (by simp) ?_; intro g4 c4 w4 hown4 hgrow4 hat4 hlt4)
        go_roundw
        case rel => exact ⟨k + 1, 1, by omega, by go_num, rfl, by show _ = _; rw [if_neg (by omega)], by rw [cellsU_succ, ← hval.out]; exact hown4, bw_grow hgrow4 (Below.alloc hbw szr _) (by rw [size_alloc]; omega) (hown.alloc _)⟩
        case measure => simp [intOf]; omega
    · have t1 : ¬ (k : Int) + 1 < (W : Int) := by omega
      have hval : Hid (F k = 0) := by
        show _ = _
        rw [hF.out]
        dsimp only
        unfold Oct.plainF
        rw [if_neg (by omega)]
        rfl
      go_wp2_with (at_builtin; refine wpList_append_lies _ (by rfl) (.tmp 30) (.tmp 31) _ (by rfl) w.heap.size 5 i0 _ 1 1 Tryz.underlying24 hi0 hz0 hz1 hz2 rfl (by omega) _ _ _ (by rfl) (hown.alloc _) ⟨wr.heap.size, 0, none⟩ 1 1 [_] (by rfl) (by rfl) (World.news_of_block (cs := #[_]) (t := 5) (fr := (0, 0)) (heap_alloc_new wr _)) (by simp [Value.oneCell']) (by omega) (by unfold maxLen; omega) (by omega) (by simp; omega) (wr.heap.size + 1) (by simp) ?_; intro g4 c4 w4 hown4 hgrow4 hat4 hlt4)
      go_ret
      have hown5 : w4.ownsRow w.heap.size 5 1 (.slice (some ⟨g4, 0, none⟩) (k + 1) c4) (k + 1) (cellsU F (k + 1)) := by rw [cellsU_succ, hval.out]; exact hown4
      obtain ⟨g5, c5, e5, hg5, hc5, hc5', ho5⟩ := Own.of hown5 (by omega)
      cases e5
      have eW : k + 1 = W := by omega
      subst eW
      refine ⟨g4, c4, rfl, by rw [← hF.out]; exact ho5, hg5, hc5, hc5', bw_grow hgrow4 (Below.alloc hbw szr _) (by rw [size_alloc]; omega) (hown.alloc _)⟩

theorem rput_arg (n z : Int) (h : ¬ (2 ≤ z ∧ z ≤ 12) ∨ n < 0) (w : World) :
    Calls Tryz.prog 124 #[.int .i64 n, .int .i64 z] w fun e w' => e = .returned (.tuple #[.slice none 0 0, .int .i64 1]) ∧ w' = w := by
  by_cases hz : 2 ≤ z ∧ z ≤ 12
  · have hn : n < 0 := h.resolve_left (fun h => h hz)
    go_enter Tryz.func124, Tryz.ntmps124
    go_wp2_with (go_at_call 148; refine (field_yes z hz.1 hz.2 _).mono ?_; rintro e w' ⟨rfl, hw'⟩; subst w')
    go_ret2
    exact ⟨rfl, rfl⟩
  · go_enter Tryz.func124, Tryz.ntmps124
    go_wp2_with (go_at_call 148; refine (field_no z hz _).mono ?_; rintro e w' ⟨rfl, hw'⟩; subst w')
    go_ret2
    exact ⟨rfl, rfl⟩
theorem rput_plain (n W : Nat) (h1 : 2 ≤ W) (h2 : W ≤ 12) (hn : n < 8 ^ (W - 1)) (w : World) :
    Calls Tryz.prog 124 #[.int .i64 (n : Int), .int .i64 (W : Int)] w fun e w' => ∃ g cap, e = .returned (.tuple #[.slice (some ⟨g, 0, none⟩) W cap, .int .i64 0]) ∧ Own w' g W (Oct.formF n W) ∧ w.heap.size ≤ g ∧ W ≤ cap ∧ cap ≤ maxLen ∧ Bw w w' := by
  have hP : (n : Int) ≤ (8 : Int) ^ (W - 1) - 1 := by rw [pow8_cast]; omega
  have hPb : (8 : Int) ^ (W - 1) ≤ 8589934592 := pow8_le (by omega)
  obtain ⟨P, hPe⟩ : ∃ P : Int, Hid (P = (8 : Int) ^ (W - 1) - 1) := ⟨_, rfl⟩
  rw [← hPe.out] at hP
  have n0 : (0 : Int) ≤ (n : Int) := Int.natCast_nonneg _
  have n1 : ¬ (n : Int) < 0 := by omega
  go_enter Tryz.func124, Tryz.ntmps124
  go_wp2_with (first
    | (go_at_call 148; refine (field_yes (W : Int) (by omega) (by omega) _).mono ?_; rintro e w' ⟨rfl, hw'⟩; subst w')
    | (go_at_call 149; refine (rmost_yes W h1 h2 _).mono ?_; rintro e w' ⟨rfl, hw'⟩; subst w'; rw [← hPe.out])
    | (go_at_call 150; refine (plain_any n W h1 h2 hn _).mono ?_; rintro e w1 ⟨g, cap, rfl, hown, hg, hcap, hcm, hw1⟩))
  go_ret2
  exact ⟨g, cap, rfl, hown.congr (fun c _ => by unfold Oct.formF; rw [if_pos hn]), hg, hcap, hcm, hw1⟩
end Go.Proofs.YtldkhbkgmiicbaaGreatDoor

/- The contract of the document's own Put, further: numbers that have no plain form. -/
namespace Go.Proofs.YtldkhbkgmiicbaaGreatDoor
open Go.RowKit Go.Deep
set_option linter.unusedVariables false
set_option linter.unusedSimpArgs false

theorem own_lit1 (W : World) (B : Nat → Int) (z : Int) (hB : B 0 = z) : (W.alloc (.cells #[.int .u8 z] 5)).ownsRow W.heap.size 5 1 (.slice (some ⟨W.heap.size, 0, none⟩) 1 1) 1 (cellsU B 1) := by
  refine ⟨by rw [cellsU_len, Nat.mul_one], Or.inr ⟨W.heap.size, 1, _, rfl, Nat.le_refl _, heap_alloc_new _ _, Nat.le_refl _, by unfold maxLen; omega, rfl, ?_⟩⟩
  rw [← hB]; rfl

set_option maxRecDepth 100000 in
set_option maxHeartbeats 2000000 in
theorem rput_wide (n W : Nat) (h1 : 2 ≤ W) (h2 : W ≤ 12) (hn : ¬ n < 8 ^ (W - 1)) (hn63 : n ≤ 9223372036854775807) (w : World) :
    Calls Tryz.prog 124 #[.int .i64 (n : Int), .int .i64 (W : Int)] w fun e w' => (256 ^ (W - 1) ≤ n → e = .returned (.tuple #[.slice none 0 0, .int .i64 2])) ∧ (n < 256 ^ (W - 1) → ∃ g cap, e = .returned (.tuple #[.slice (some ⟨g, 0, none⟩) W cap, .int .i64 0]) ∧ Own w' g W (Oct.formF n W) ∧ w.heap.size ≤ g ∧ W ≤ cap ∧ cap ≤ maxLen) ∧ Bw w w' := by
  obtain ⟨i0, hi0, hz0, hz1, hz2⟩ := info_parts info_u8
  have hP : ¬ (n : Int) ≤ (8 : Int) ^ (W - 1) - 1 := by rw [pow8_cast]; omega
  obtain ⟨P, hPe⟩ : ∃ P : Int, Hid (P = (8 : Int) ^ (W - 1) - 1) := ⟨_, rfl⟩
  rw [← hPe.out] at hP
  have n0 : (0 : Int) ≤ (n : Int) := Int.natCast_nonneg _
  have n1 : ¬ (n : Int) < 0 := by omega
  obtain ⟨F, hF⟩ : ∃ F : Nat → Int, Hid (F = fun c => ((n / 256 ^ c % 256 : Nat) : Int)) := ⟨_, rfl⟩
  have hFb : Hid (∀ i, 0 ≤ F i ∧ F i < 256) := by show ∀ i, _; intro i; rw [hF.out]; have := Nat.mod_lt (n / 256 ^ i) (show 0 < 256 by decide); dsimp only; omega
  obtain ⟨G, hG⟩ : ∃ G : Nat → Int, Hid (G = Oct.formF n W) := ⟨_, rfl⟩
  have hG0 : G 0 = 128 := by rw [hG.out]; unfold Oct.formF Oct.wideF; rw [if_neg hn, if_pos rfl]; rfl
  have hGt : Hid (∀ t, 1 ≤ t → G t = F (W - 1 - t)) := fun t ht => by rw [hG.out, hF.out]; unfold Oct.formF Oct.wideF; rw [if_neg hn, if_neg (by omega)]
  go_enter Tryz.func124, Tryz.ntmps124
  go_wp2_with (first
    | (go_at_call 148; refine (field_yes (W : Int) (by omega) (by omega) _).mono ?_; rintro e w' ⟨rfl, hw'⟩; subst w')
    | (go_at_call 149; refine (rmost_yes W h1 h2 _).mono ?_; rintro e w' ⟨rfl, hw'⟩; subst w'; rw [← hPe.out]))
  go_loopw [0, 7, 8] (fun x v i wr => ∃ (k E : Nat), k + 1 ≤ W ∧ i = .int .i64 ((k : Int) + 1) ∧ x = .int .i64 (E : Int) ∧ Hid (E = n / 256 ^ k) ∧ wr.ownsRow w.heap.size 5 1 v k (cellsU F k) ∧ Bw w wr) (fun _ _ i _ => W - (intOf i).toNat)
  case atStart => exact ⟨0, n, by omega, rfl, rfl, by show _ = _; rw [Nat.pow_zero, Nat.div_one], World.ownsRow_nil _ _ _ _, Bw.refl _⟩
  case round =>
    obtain ⟨k, E, hk, rfl, rfl, hE, hown, hbw⟩ := hrel
    have szr := hbw.size
    have k0 : (0 : Int) ≤ (k : Int) := Int.natCast_nonneg _
    have e0 : (0 : Int) ≤ (E : Int) := Int.natCast_nonneg _
    have hEn : E ≤ n := by rw [hE.out]; exact Nat.div_le_self _ _
    by_cases hlt : k + 1 < W
    · have t1 : (k : Int) + 1 < (W : Int) := by omega
      have hval : Hid ((E : Int) % 256 = F k) := by show _ = _; rw [hF.out]; dsimp only; rw [← hE.out]; omega
      have d1 : (E : Int).tdiv 256 = ((E / 256 : Nat) : Int) := by rw [Int.tdiv_eq_ediv_of_nonneg (by omega)]; omega
      have d2 : (E : Int) / 256 = ((E / 256 : Nat) : Int) := by omega
      have d3 : (E : Int).tmod 256 = (E : Int) % 256 := Int.tmod_eq_emod_of_nonneg (by omega)
      have hE2 : Hid (E / 256 = n / 256 ^ (k + 1)) := by show _ = _; rw [hE.out, Nat.pow_succ, Nat.div_div_eq_div_mul]
      obtain ⟨V, hV⟩ : ∃ V : Nat, Hid (V = E / 256) := ⟨E / 256, rfl⟩
      rw [← hV.out] at d1 d2 hE2
      go_wp2_with (at_builtin; refine wpList_append_lies _ (by rfl) (.tmp 31) (.tmp 35) _ (by rfl) w.heap.size 5 i0 _ 1 1 Tryz.underlying24 hi0 hz0 hz1 hz2 rfl (by omega) _ _ _ (by rfl) (hown.alloc _) ⟨wr.heap.size, 0, none⟩ 1 1 [_] (by rfl) (by rfl) (World.news_of_block (cs := #[_]) (t := 5) (fr := (0, 0)) (heap_alloc_new wr _)) (by simp [Value.oneCell']) (by omega) (by unfold maxLen; omega) (by omega) (by simp; omega) (wr.heap.size + 1) (by simp) ?_; intro g4 c4 w4 hown4 hgrow4 hat4 hlt4)
      go_roundw
      case rel => exact ⟨k + 1, V, by omega, by go_num, rfl, hE2, by rw [cellsU_succ, ← hval.out]; exact hown4, bw_grow hgrow4 (Below.alloc hbw szr _) (by rw [size_alloc]; omega) (hown.alloc _)⟩
      case measure => simp [intOf]; omega
    · have t1 : ¬ (k : Int) + 1 < (W : Int) := by omega
      have ek : W = k + 1 := by omega
      subst ek
      obtain ⟨g1, c1, e1, hg1, hc1, hc1', ho1⟩ := Own.of hown (by omega)
      subst e1
      by_cases hpos : 0 < E
      · have t2 : (0 : Int) < (E : Int) := by omega
        have hbig : Hid (256 ^ k ≤ n) := by
          show _ ≤ _
          rcases Nat.lt_or_ge n (256 ^ k) with h | h
          · have := Nat.div_eq_of_lt h; have := hE.out; omega
          · exact h
        go_wp2
        go_ret2
        exact ⟨fun _ => rfl, fun h => absurd h (by have := hbig.out; first | omega | (rw [Nat.add_sub_cancel]; omega)), hbw⟩
      · have t2 : ¬ (0 : Int) < (E : Int) := by omega
        have hsm : Hid (n < 256 ^ k) := by
          show _ < _
          rcases Nat.lt_or_ge n (256 ^ k) with h | h
          · exact h
          · have h3 : 0 < n / 256 ^ k := Nat.div_pos h (Nat.pow_pos (by decide))
            have := hE.out; omega
        rename World => wl
        have hown0 := own_lit1 wl G 128 hG0
        clear hown
        go_wp2
        go_loopw [9, 10] (fun v i wr => ∃ (y t g cap : Nat), y + t = k ∧ i = .int .i64 ((y : Int) - 1) ∧ v = .slice (some ⟨g, 0, none⟩) (1 + t) cap ∧ wr.ownsRow wl.heap.size 5 1 (.slice (some ⟨g, 0, none⟩) (1 + t) cap) (1 + t) (cellsU G (1 + t)) ∧ Bw wl wr) (fun _ i _ => (intOf i + 1).toNat)
        case atStart => exact ⟨k, 0, wl.heap.size, 1, rfl, by go_num, rfl, hown0, Below.alloc (Bw.refl _) (Nat.le_refl _) _⟩
        case round =>
          clear hown0
          obtain ⟨y, t, g, cap, hyt, rfl, rfl, hown, hb2⟩ := hrel
          have sz2 := hb2.size
          rcases y with _ | y
          · have et : t = k := by omega
            subst et
            obtain ⟨g5, c5, e5, hg5, hc5, hc5', ho5⟩ := Own.of hown (by omega)
            cases e5
            go_wp2
            go_ret2
            refine ⟨fun h => absurd h (by have := hsm.out; first | omega | (rw [Nat.add_sub_cancel]; omega)), fun _ => ⟨g, cap, by rw [Nat.add_comm 1 t]; rfl, ?_, by omega, by omega, hc5'⟩, hbw.trans hb2⟩
            rw [← hG.out, Nat.add_comm t 1]; exact ho5
          · have ey : ((y + 1 : Nat) : Int) - 1 = (y : Int) := by omega
            rw [ey]
            clear ey
            have y0 : (0 : Int) ≤ (y : Int) := Int.natCast_nonneg _
            have y1 : (y : Int) < (k : Int) := by omega
            have cy := ((ho1.keep hb2).cell (c := y) (by omega)).1
            have hval : Hid (F y = G (1 + t)) := by show _ = _; rw [hGt.out (1 + t) (by omega), show k + 1 - 1 - (1 + t) = y by omega]
            go_wp2_with (at_builtin; refine wpList_append_lies _ (by rfl) (.tmp 49) (.tmp 54) _ (by rfl) wl.heap.size 5 i0 _ 1 1 Tryz.underlying24 hi0 hz0 hz1 hz2 rfl (by omega) _ _ _ (by rfl) (hown.alloc _) ⟨wr.heap.size, 0, none⟩ 1 1 [_] (by rfl) (by rfl) (World.news_of_block (cs := #[_]) (t := 5) (fr := (0, 0)) (heap_alloc_new wr _)) (by simp [Value.oneCell']) (by omega) (by unfold maxLen; omega) (by omega) (by simp; omega) (wr.heap.size + 1) (by simp) ?_; intro g4 c4 w4 hown4 hgrow4 hat4 hlt4)
            go_roundw
            case rel => exact ⟨y, t + 1, g4, c4, by omega, by go_num, rfl, by rw [show 1 + (t + 1) = 1 + t + 1 from rfl, cellsU_succ, ← hval.out]; exact hown4, bw_grow hgrow4 (Below.alloc hb2 sz2 _) (by rw [size_alloc]; omega) (hown.alloc _)⟩
            case measure => simp [intOf]
end Go.Proofs.YtldkhbkgmiicbaaGreatDoor

/- The contract of the document's own Get, of layer 7. -/
namespace Go.Proofs.YtldkhbkgmiicbaaGreatDoor
open Go.RowKit Go.Deep
set_option linter.unusedVariables false
set_option linter.unusedSimpArgs false

/-- what Get answers -/
def GetSays7 (L : Nat) (f : Nat → Int) (e : Ending) : Prop := ∃ n a er, e = .returned (.tuple #[.int .i64 n, .int .i64 a, .int .i64 er]) ∧ Oct.Says L f n a er

end Go.Proofs.YtldkhbkgmiicbaaGreatDoor

/- Forms are read as their numbers; the document's own Put, whatever the arguments. -/
namespace Go.Proofs.YtldkhbkgmiicbaaGreatDoor
open Go.RowKit Go.Deep
set_option linter.unusedVariables false
set_option linter.unusedSimpArgs false

namespace Oct
end Oct

/-- what Put answers -/
structure PutSays7 (n z : Int) (w : World) (e : Ending) (w' : World) : Prop where
  arg : ¬ (2 ≤ z ∧ z ≤ 12) ∨ n < 0 → e = .returned (.tuple #[.slice none 0 0, .int .i64 1])
  long : 2 ≤ z → z ≤ 12 → 0 ≤ n → ¬ (n.toNat < 8 ^ (z.toNat - 1) ∨ n.toNat < 256 ^ (z.toNat - 1)) → e = .returned (.tuple #[.slice none 0 0, .int .i64 2])
  form : 2 ≤ z → z ≤ 12 → 0 ≤ n → (n.toNat < 8 ^ (z.toNat - 1) ∨ n.toNat < 256 ^ (z.toNat - 1)) → ∃ g cap, e = .returned (.tuple #[.slice (some ⟨g, 0, none⟩) z.toNat cap, .int .i64 0]) ∧ Own w' g z.toNat (Oct.formF n.toNat z.toNat) ∧ w.heap.size ≤ g ∧ z.toNat ≤ cap ∧ cap ≤ maxLen
  keeps : Bw w w'
theorem rput7_any (n z : Int) (hn : n ≤ 9223372036854775807) (w : World) : Calls Tryz.prog 124 #[.int .i64 n, .int .i64 z] w fun e w' => PutSays7 n z w e w' := by
  by_cases h : ¬ (2 ≤ z ∧ z ≤ 12) ∨ n < 0
  · refine (rput_arg n z h w).mono ?_
    rintro e w' ⟨rfl, hw'⟩
    subst w'
    exact ⟨fun _ => rfl, fun h1 h2 h3 => absurd h (by omega), fun h1 h2 h3 => absurd h (by omega), Bw.refl _⟩
  · obtain ⟨W, rfl⟩ := Int.eq_ofNat_of_zero_le (show 0 ≤ z by omega)
    obtain ⟨m, rfl⟩ := Int.eq_ofNat_of_zero_le (show 0 ≤ n by omega)
    by_cases hp : m < 8 ^ (W - 1)
    · refine (rput_plain m W (by omega) (by omega) hp w).mono ?_
      rintro e w' ⟨g, cap, he, ho, hg, hc, hm, hw⟩
      exact ⟨fun h' => absurd h' h, fun _ _ _ h' => absurd (Or.inl hp) h', fun _ _ _ _ => ⟨g, cap, he, ho, hg, hc, hm⟩, hw⟩
    · refine (rput_wide m W (by omega) (by omega) hp (by omega) w).mono ?_
      rintro e w' ⟨ha, hb, hw⟩
      refine ⟨fun h' => absurd h' h, fun _ _ _ h' => ha ?_, fun _ _ _ h' => hb (h'.resolve_left hp), hw⟩
      rcases Nat.lt_or_ge m (256 ^ (W - 1)) with h3 | h3
      · exact absurd (Or.inr h3) h'
      · exact h3
end Go.Proofs.YtldkhbkgmiicbaaGreatDoor
