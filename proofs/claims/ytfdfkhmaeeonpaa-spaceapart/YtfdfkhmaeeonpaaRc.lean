/- Layer 16: a run asked. -/
import Derived.Test.YtfdfkhmaeeonpaaRb
namespace Go.Proofs.Ytfdfkhmaeeonpaa
open Go.RowKit Go.Deep
set_option linter.unusedVariables false
set_option linter.unusedSimpArgs false

/-- a run as a value -/
abbrev rv (r : Sp.Rn) : Value := .agg #[.int .i64 (r.1 : Int), .int .i64 (r.2 : Int)]
theorem bw_alloc16 {w W : World} (h : Bw w W) (o : Obj) : Bw w (W.alloc o) := h.trans (Below.alloc (Bw.refl _) (Nat.le_refl _) _)
theorem cells2_new (w : World) (x y : Value) (t : Nat) : (w.alloc (.cells #[x, y] t)).cell? ⟨w.heap.size, 0, none⟩ = some x ∧ (w.alloc (.cells #[x, y] t)).cell? ⟨w.heap.size, 1, none⟩ = some y := by
  have h := (Go.MapKept.heap_alloc w (.cells #[x, y] t)).1
  exact ⟨cell_of_row _ _ 0 _ _ _ h, cell_of_row _ _ 1 _ _ _ h⟩
theorem keep_cell16 {w w' : World} {b o : Nat} {v : Value} (h : w.cell? ⟨b, o, none⟩ = some v) (k : Bw w w') : w'.cell? ⟨b, o, none⟩ = some v := by
  rw [k.cell (p := ⟨b, o, none⟩) (block_lt_of_cell h)]; exact h

set_option maxRecDepth 100000 in
theorem end_any (r : Sp.Rn) (hr : r.1 + r.2 ≤ 1099511627776) (w : World) :
    Calls Try.prog 37 #[rv r] w fun e w' => e = .returned (.int .i64 ((r.1 + r.2 : Nat) : Int)) ∧ Bw w w' := by
  obtain ⟨a, c⟩ := r
  dsimp only at hr ⊢
  rw [Int.natCast_add]
  have h0 : (0 : Int) ≤ (a : Int) + (c : Int) := by omega
  have h1 : (a : Int) + (c : Int) ≤ 1099511627776 := by omega
  go_enter Try.func37, Try.ntmps37
  go_wp2
  go_ret
  exact ⟨rfl, bw_alloc16 (Bw.refl _) _⟩
set_option maxRecDepth 100000 in
theorem has_any (r : Sp.Rn) (hr : r.1 + r.2 ≤ 1099511627776) (i : Nat) (w : World) :
    Calls Try.prog 43 #[rv r, .int .i64 (i : Int)] w fun e w' => e = .returned (.bool (decide (r.1 ≤ i ∧ i < r.1 + r.2))) ∧ Bw w w' := by
  have HE : Hid (∀ u, Calls Try.prog 37 #[rv r] u fun e w' => e = .returned (.int .i64 ((r.1 + r.2 : Nat) : Int)) ∧ Bw u w') := fun u => end_any r hr u
  obtain ⟨a, c⟩ := r
  dsimp only at hr HE ⊢
  obtain ⟨q, hq⟩ : ∃ q, Hid (a + c = q) := ⟨_, rfl⟩
  rw [hq.out] at HE hr ⊢
  have k1 : Bw w (w.alloc (.cells #[.int .i64 (a : Int), .int .i64 (c : Int)] 48)) := bw_alloc16 (Bw.refl _) _
  by_cases h1 : a ≤ i
  · have d1 : decide ((a : Int) ≤ (i : Int)) = true := by rw [decide_eq_true_eq]; omega
    have e : decide (a ≤ i ∧ i < q) = decide ((i : Int) < (q : Int)) := by rw [decide_eq_decide]; omega
    rw [e]
    clear e
    go_enter Try.func43, Try.ntmps43
    go_wp2_with (go_at_call 37; refine (HE.out _).mono ?_; rintro e w1 ⟨rfl, hb1⟩)
    go_ret
    exact ⟨by simp, k1.trans hb1⟩
  · have d1 : decide ((a : Int) ≤ (i : Int)) = false := by rw [decide_eq_false_iff_not]; omega
    have e : decide (a ≤ i ∧ i < q) = false := by rw [decide_eq_false_iff_not]; omega
    rw [e]
    clear e
    go_enter Try.func43, Try.ntmps43
    go_wp2
    go_ret
    exact ⟨rfl, k1⟩
set_option maxRecDepth 100000 in
theorem fits_any (x k : Int) (r : Sp.Rn) (w : World) :
    Calls Try.prog 24 #[.agg #[.int .i64 x, .int .i64 k], rv r] w fun e w' => e = .returned (.bool (decide (k ≤ (r.2 : Int)))) ∧ Bw w w' := by
  obtain ⟨a, c⟩ := r
  go_enter Try.func24, Try.ntmps24
  go_wp2
  go_ret
  exact ⟨rfl, bw_alloc16 (bw_alloc16 (Bw.refl _) _) _⟩
set_option maxRecDepth 100000 in
theorem none_any (r : Sp.Rn) (w : World) :
    Calls Try.prog 36 #[rv r] w fun e w' => e = .returned (.bool (decide (r.2 = 0))) ∧ Bw w w' := by
  obtain ⟨a, c⟩ := r
  go_enter Try.func36, Try.ntmps36
  go_wp2
  go_ret
  refine ⟨?_, bw_alloc16 (Bw.refl _) _⟩
  refine ret_bool ?_
  by_cases h : c = 0
  · subst h; rfl
  · rw [decide_eq_false h, beq_eq_false_iff_ne]; omega
end Go.Proofs.Ytfdfkhmaeeonpaa
