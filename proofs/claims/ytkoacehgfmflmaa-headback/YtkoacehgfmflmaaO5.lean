/- The contract of the document's own Put, further: numbers that have no plain form. -/
import Derived.Test.YtkoacehgfmflmaaO4
namespace Go.Proofs.Ytkoacehgfmflmaa
open Go.RowKit Go.Deep
set_option linter.unusedVariables false
set_option linter.unusedSimpArgs false

theorem own_lit1 (W : World) (B : Nat → Int) (z : Int) (hB : B 0 = z) : (W.alloc (.cells #[.int .u8 z] 5)).ownsRow W.heap.size 5 1 (.slice (some ⟨W.heap.size, 0, none⟩) 1 1) 1 (cellsU B 1) := by
  refine ⟨by rw [cellsU_len, Nat.mul_one], Or.inr ⟨W.heap.size, 1, _, rfl, Nat.le_refl _, heap_alloc_new _ _, Nat.le_refl _, by unfold maxLen; omega, rfl, ?_⟩⟩
  rw [← hB]; rfl

set_option maxRecDepth 100000 in
set_option maxHeartbeats 2000000 in
theorem rput_wide (n W : Nat) (h1 : 2 ≤ W) (h2 : W ≤ 12) (hn : ¬ n < 8 ^ (W - 1)) (hn63 : n ≤ 9223372036854775807) (w : World) :
    Calls Try.prog 48 #[.int .i64 (n : Int), .int .i64 (W : Int)] w fun e w' => (256 ^ (W - 1) ≤ n → e = .returned (.tuple #[.slice none 0 0, .int .i64 2])) ∧ (n < 256 ^ (W - 1) → ∃ g cap, e = .returned (.tuple #[.slice (some ⟨g, 0, none⟩) W cap, .int .i64 0]) ∧ Own w' g W (Oct.formF n W) ∧ w.heap.size ≤ g ∧ W ≤ cap ∧ cap ≤ maxLen) ∧ Bw w w' := by
  obtain ⟨i0, hi0, hz0, hz1, hz2⟩ := info_parts info_u8
  have hP : ¬ (n : Int) ≤ (8 : Int) ^ (W - 1) - 1 := by rw [pow8_cast]; omega
  obtain ⟨P, hPe⟩ : ∃ P : Int, Hid (P = (8 : Int) ^ (W - 1) - 1) := ⟨_, rfl⟩
  rw [← hPe.out] at hP
  have n0 : (0 : Int) ≤ (n : Int) := Int.natCast_nonneg _
  have n1 : ¬ (n : Int) < 0 := by omega
  obtain ⟨F, hF⟩ : ∃ F : Nat → Int, Hid (F = fun c => ((n / 256 ^ c % 256 : Nat) : Int)) := ⟨_, rfl⟩
  have hFb : Hid (∀ i, 0 ≤ F i ∧ F i < 256) := by show ∀ i, _; intro i; rw [hF.out]; have := Nat.mod_lt (n / 256 ^ i) (show 0 < 256 by decide); dsimp only; omega
  obtain ⟨G, hG⟩ : ∃ G : Nat → Int, Hid (G = Oct.formF n W) := ⟨_, rfl⟩
  have hG0 : G 0 = 128 := by rw [hG.out]; unfold Oct.formF Oct.wideF; rw [if_neg hn, if_pos rfl]; rfl
  have hGt : Hid (∀ t, 1 ≤ t → G t = F (W - 1 - t)) := fun t ht => by rw [hG.out, hF.out]; unfold Oct.formF Oct.wideF; rw [if_neg hn, if_neg (by omega)]
  go_enter Try.func48, Try.ntmps48
  go_wp2_with (first
    | (go_at_call 53; refine (field_yes (W : Int) (by omega) (by omega) _).mono ?_; rintro e w' ⟨rfl, hw'⟩; subst w')
    | (go_at_call 55; refine (rmost_yes W h1 h2 _).mono ?_; rintro e w' ⟨rfl, hw'⟩; subst w'; rw [← hPe.out]))
  go_loopw [0, 7, 8] (fun x v i wr => ∃ (k E : Nat), k + 1 ≤ W ∧ i = .int .i64 ((k : Int) + 1) ∧ x = .int .i64 (E : Int) ∧ Hid (E = n / 256 ^ k) ∧ wr.ownsRow w.heap.size 5 1 v k (cellsU F k) ∧ Bw w wr) (fun _ _ i _ => W - (intOf i).toNat)
  case atStart => exact ⟨0, n, by omega, rfl, rfl, by show _ = _; rw [Nat.pow_zero, Nat.div_one], World.ownsRow_nil _ _ _ _, Bw.refl _⟩
  case round =>
    obtain ⟨k, E, hk, rfl, rfl, hE, hown, hbw⟩ := hrel
    have szr := hbw.size
    have k0 : (0 : Int) ≤ (k : Int) := Int.natCast_nonneg _
    have e0 : (0 : Int) ≤ (E : Int) := Int.natCast_nonneg _
    have hEn : E ≤ n := by rw [hE.out]; exact Nat.div_le_self _ _
    by_cases hlt : k + 1 < W
    · have t1 : (k : Int) + 1 < (W : Int) := by omega
      have hval : Hid ((E : Int) % 256 = F k) := by show _ = _; rw [hF.out]; dsimp only; rw [← hE.out]; omega
      have d1 : (E : Int).tdiv 256 = ((E / 256 : Nat) : Int) := by rw [Int.tdiv_eq_ediv_of_nonneg (by omega)]; omega
      have d2 : (E : Int) / 256 = ((E / 256 : Nat) : Int) := by omega
      have d3 : (E : Int).tmod 256 = (E : Int) % 256 := Int.tmod_eq_emod_of_nonneg (by omega)
      have hE2 : Hid (E / 256 = n / 256 ^ (k + 1)) := by show _ = _; rw [hE.out, Nat.pow_succ, Nat.div_div_eq_div_mul]
      obtain ⟨V, hV⟩ : ∃ V : Nat, Hid (V = E / 256) := ⟨E / 256, rfl⟩
      rw [← hV.out] at d1 d2 hE2
      go_wp2_with (at_builtin; refine wpList_append_lies _ (by rfl) (.tmp 31) (.tmp 35) _ (by rfl) w.heap.size 5 i0 _ 1 1 Try.underlying24 hi0 hz0 hz1 hz2 rfl (by omega) _ _ _ (by rfl) (hown.alloc _) ⟨wr.heap.size, 0, none⟩ 1 1 [_] (by rfl) (by rfl) (World.news_of_block (cs := #[_]) (t := 5) (fr := (0, 0)) (heap_alloc_new wr _)) (by simp [Value.oneCell']) (by omega) (by unfold maxLen; omega) (by omega) (by simp; omega) (wr.heap.size + 1) (by simp) ?_; intro g4 c4 w4 hown4 hgrow4 hat4 hlt4)
      go_roundw
      case rel => exact ⟨k + 1, V, by omega, by go_num, rfl, hE2, by rw [cellsU_succ, ← hval.out]; exact hown4, bw_grow hgrow4 (Below.alloc hbw szr _) (by rw [size_alloc]; omega) (hown.alloc _)⟩
      case measure => simp [intOf]; omega
    · have t1 : ¬ (k : Int) + 1 < (W : Int) := by omega
      have ek : W = k + 1 := by omega
      subst ek
      obtain ⟨g1, c1, e1, hg1, hc1, hc1', ho1⟩ := Own.of hown (by omega)
      subst e1
      by_cases hpos : 0 < E
      · have t2 : (0 : Int) < (E : Int) := by omega
        have hbig : Hid (256 ^ k ≤ n) := by
          show _ ≤ _
          rcases Nat.lt_or_ge n (256 ^ k) with h | h
          · have := Nat.div_eq_of_lt h; have := hE.out; omega
          · exact h
        go_wp2
        go_ret2
        exact ⟨fun _ => rfl, fun h => absurd h (by have := hbig.out; first | omega | (rw [Nat.add_sub_cancel]; omega)), hbw⟩
      · have t2 : ¬ (0 : Int) < (E : Int) := by omega
        have hsm : Hid (n < 256 ^ k) := by
          show _ < _
          rcases Nat.lt_or_ge n (256 ^ k) with h | h
          · exact h
          · have h3 : 0 < n / 256 ^ k := Nat.div_pos h (Nat.pow_pos (by decide))
            have := hE.out; omega
        rename World => wl
        have hown0 := own_lit1 wl G 128 hG0
        clear hown
        go_wp2
        go_loopw [9, 10] (fun v i wr => ∃ (y t g cap : Nat), y + t = k ∧ i = .int .i64 ((y : Int) - 1) ∧ v = .slice (some ⟨g, 0, none⟩) (1 + t) cap ∧ wr.ownsRow wl.heap.size 5 1 (.slice (some ⟨g, 0, none⟩) (1 + t) cap) (1 + t) (cellsU G (1 + t)) ∧ Bw wl wr) (fun _ i _ => (intOf i + 1).toNat)
        case atStart => exact ⟨k, 0, wl.heap.size, 1, rfl, by go_num, rfl, hown0, Below.alloc (Bw.refl _) (Nat.le_refl _) _⟩
        case round =>
          clear hown0
          obtain ⟨y, t, g, cap, hyt, rfl, rfl, hown, hb2⟩ := hrel
          have sz2 := hb2.size
          rcases y with _ | y
          · have et : t = k := by omega
            subst et
            obtain ⟨g5, c5, e5, hg5, hc5, hc5', ho5⟩ := Own.of hown (by omega)
            cases e5
            go_wp2
            go_ret2
            refine ⟨fun h => absurd h (by have := hsm.out; first | omega | (rw [Nat.add_sub_cancel]; omega)), fun _ => ⟨g, cap, by rw [Nat.add_comm 1 t]; rfl, ?_, by omega, by omega, hc5'⟩, hbw.trans hb2⟩
            rw [← hG.out, Nat.add_comm t 1]; exact ho5
          · have ey : ((y + 1 : Nat) : Int) - 1 = (y : Int) := by omega
            rw [ey]
            clear ey
            have y0 : (0 : Int) ≤ (y : Int) := Int.natCast_nonneg _
            have y1 : (y : Int) < (k : Int) := by omega
            have cy := ((ho1.keep hb2).cell (c := y) (by omega)).1
            have hval : Hid (F y = G (1 + t)) := by show _ = _; rw [hGt.out (1 + t) (by omega), show k + 1 - 1 - (1 + t) = y by omega]
            go_wp2_with (at_builtin; refine wpList_append_lies _ (by rfl) (.tmp 49) (.tmp 54) _ (by rfl) wl.heap.size 5 i0 _ 1 1 Try.underlying24 hi0 hz0 hz1 hz2 rfl (by omega) _ _ _ (by rfl) (hown.alloc _) ⟨wr.heap.size, 0, none⟩ 1 1 [_] (by rfl) (by rfl) (World.news_of_block (cs := #[_]) (t := 5) (fr := (0, 0)) (heap_alloc_new wr _)) (by simp [Value.oneCell']) (by omega) (by unfold maxLen; omega) (by omega) (by simp; omega) (wr.heap.size + 1) (by simp) ?_; intro g4 c4 w4 hown4 hgrow4 hat4 hlt4)
            go_roundw
            case rel => exact ⟨y, t + 1, g4, c4, by omega, by go_num, rfl, by rw [show 1 + (t + 1) = 1 + t + 1 from rfl, cellsU_succ, ← hval.out]; exact hown4, bw_grow hgrow4 (Below.alloc hb2 sz2 _) (by rw [size_alloc]; omega) (hown.alloc _)⟩
            case measure => simp [intOf]
end Go.Proofs.Ytkoacehgfmflmaa
