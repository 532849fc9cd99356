/- Layer 16: the document's own Hold and Give. -/
import Derived.Test.YtfdfkhmaeeonpaaRv
import Derived.Test.YtfdfkhmaeeonpaaRt
namespace Go.Proofs.Ytfdfkhmaeeonpaa
open Go.RowKit Go.Deep
set_option linter.unusedVariables false
set_option linter.unusedSimpArgs false

theorem RfAt.box {w : World} {x k : Int} {W : World} (hW : W = w.alloc (.cells #[.int .i64 x, .int .i64 k] 32)) {z : Nat} (hz : w.heap.size = z) : Bw w W ∧ ∀ u, Bw W u → u.cell? ⟨z, 0, none⟩ = some (.int .i64 x) ∧ u.cell? ⟨z, 1, none⟩ = some (.int .i64 k) := by
  subst hz
  refine ⟨by rw [hW]; exact bw_alloc16 (Bw.refl _) _, fun u ku => ?_⟩
  have h := cells2_new w (.int .i64 x) (.int .i64 k) 32
  rw [← hW] at h
  exact ⟨keep_cell16 h.1 ku, keep_cell16 h.2 ku⟩
set_option maxRecDepth 100000 in
set_option maxHeartbeats 1000000 in
theorem rright_yes {w : World} {g b n : Nat} {f : Nat → Bool} (hs : RfAt w g b n f) (x k : Int) (h : Sp.Right n x k) :
    Calls Try.prog 31 #[.pointer (some ⟨g, 0, none⟩), .agg #[.int .i64 x, .int .i64 k]] w fun e w' => e = .returned (.bool true) ∧ Bw w w' := by
  obtain ⟨W, hW⟩ : ∃ W, W = w.alloc (.cells #[.int .i64 x, .int .i64 k] 32) := ⟨_, rfl⟩
  obtain ⟨kW, hc⟩ := RfAt.box hW rfl
  have hn := hs.n1
  have c0 := (hs.keep kW).c0
  obtain ⟨z0, z1⟩ := hc W (Bw.refl _)
  clear hs hc
  unfold Sp.Right at h
  have d1 : decide (1 ≤ k) = true := by rw [decide_eq_true_eq]; omega
  have d2 : decide (0 ≤ x) = true := by rw [decide_eq_true_eq]; omega
  have d3 : decide (k ≤ (n : Int) - x) = true := by rw [decide_eq_true_eq]; omega
  have d4 : decide (x ≤ (n : Int)) = true := by rw [decide_eq_true_eq]; omega
  have hw : IntKind.i64.wrap ((n : Int) - x) = (n : Int) - x := by rw [IntKind.wrap_i64]; omega
  go_enter Try.func31, Try.ntmps31
  go_upto_region 1 with fail
  rw [← hW]
  clear hW h
  go_quiet (fail)
  go_wp2
  go_ret
  exact ⟨rfl, kW.trans (Bw.drewN _ _)⟩
set_option maxRecDepth 100000 in
set_option maxHeartbeats 1000000 in
theorem rright_no {w : World} {g b n : Nat} {f : Nat → Bool} (hs : RfAt w g b n f) (x k : Int) (h : ¬ Sp.Right n x k) :
    Calls Try.prog 31 #[.pointer (some ⟨g, 0, none⟩), .agg #[.int .i64 x, .int .i64 k]] w fun e w' => e = .returned (.bool false) ∧ Bw w w' := by
  obtain ⟨W, hW⟩ : ∃ W, W = w.alloc (.cells #[.int .i64 x, .int .i64 k] 32) := ⟨_, rfl⟩
  obtain ⟨kW, hc⟩ := RfAt.box hW rfl
  have hn := hs.n1
  have c0 := (hs.keep kW).c0
  obtain ⟨z0, z1⟩ := hc W (Bw.refl _)
  clear hs hc
  unfold Sp.Right at h
  by_cases h1 : k < 1
  · have d1 : decide (1 ≤ k) = false := by rw [decide_eq_false_iff_not]; omega
    clear h h1
    go_enter Try.func31, Try.ntmps31
    go_upto_region 1 with fail
    rw [← hW]
    clear hW
    go_quiet (fail)
    go_wp2
    go_ret
    exact ⟨rfl, kW.trans (Bw.drewN _ _)⟩
  · have d1 : decide (1 ≤ k) = true := by rw [decide_eq_true_eq]; omega
    by_cases h2 : x < 0
    · have d2 : decide (0 ≤ x) = false := by rw [decide_eq_false_iff_not]; omega
      clear h h1 h2
      go_enter Try.func31, Try.ntmps31
      go_upto_region 1 with fail
      rw [← hW]
      clear hW
      go_quiet (fail)
      go_wp2
      go_ret
      exact ⟨rfl, kW.trans (Bw.drewN _ _)⟩
    · have d2 : decide (0 ≤ x) = true := by rw [decide_eq_true_eq]; omega
      by_cases h3 : x ≤ (n : Int)
      · have d4 : decide (x ≤ (n : Int)) = true := by rw [decide_eq_true_eq]; omega
        have d3 : decide (k ≤ (n : Int) - x) = false := by rw [decide_eq_false_iff_not]; omega
        have hw : IntKind.i64.wrap ((n : Int) - x) = (n : Int) - x := by rw [IntKind.wrap_i64]; omega
        clear h h1 h2 h3
        go_enter Try.func31, Try.ntmps31
        go_upto_region 1 with fail
        rw [← hW]
        clear hW
        go_quiet (fail)
        go_wp2
        go_ret
        exact ⟨rfl, kW.trans (Bw.drewN _ _)⟩
      · have d4 : decide (x ≤ (n : Int)) = false := by rw [decide_eq_false_iff_not]; omega
        clear h h1 h2 h3
        go_enter Try.func31, Try.ntmps31
        go_upto_region 1 with fail
        rw [← hW]
        clear hW
        go_quiet (fail)
        go_wp2
        go_ret
        exact ⟨rfl, kW.trans (Bw.drewN _ _)⟩
/-- what Hold and Give answer -/
def RHoldEnds (t : Bool) (c : Int) (g n b : Nat) (f : Nat → Bool) (x k : Int) (w : World) (e : Ending) (w' : World) : Prop :=
  (¬ Sp.Right n x k ∧ e = .returned (.int .i64 1) ∧ Bw w w') ∨ ∃ X K : Nat, x = (X : Int) ∧ k = (K : Int) ∧ 1 ≤ K ∧ X + K ≤ n ∧
    ((¬ (∀ j, X ≤ j → j < X + K → f j = !t) ∧ e = .returned (.int .i64 c) ∧ Bw w w') ∨ ((∀ j, X ≤ j → j < X + K → f j = !t) ∧ e = .returned (.int .i64 0) ∧ RfAt w' g b n (setF f X K t) ∧ Bx (· = b) w w'))
set_option maxRecDepth 100000 in
set_option maxHeartbeats 2000000 in
theorem rhold16_any {w : World} {g b n : Nat} {f : Nat → Bool} (hs : RfAt w g b n f) (x k : Int) :
    Calls Try.prog 13 #[.pointer (some ⟨g, 0, none⟩), .agg #[.int .i64 x, .int .i64 k]] w fun e w' => RHoldEnds true 5 g n b f x k w e w' := by
  obtain ⟨W, hW⟩ : ∃ W, W = w.alloc (.cells #[.int .i64 x, .int .i64 k] 32) := ⟨_, rfl⟩
  obtain ⟨z, hz⟩ : ∃ z, Hid (w.heap.size = z) := ⟨_, rfl⟩
  obtain ⟨kW, hc⟩ := RfAt.box hW hz.out
  obtain ⟨z0, z1⟩ := hc W (Bw.refl _)
  have HC : Hid (∀ u, Bw W u → u.cell? ⟨z, 0, none⟩ = some (.int .i64 x) ∧ u.cell? ⟨z, 1, none⟩ = some (.int .i64 k)) := hc
  have hsW := hs.keep kW
  by_cases hR : Sp.Right n x k
  · have HR : Hid (Calls Try.prog 31 #[.pointer (some ⟨g, 0, none⟩), .agg #[.int .i64 x, .int .i64 k]] W fun e w' => e = .returned (.bool true) ∧ Bw W w') := rright_yes hsW x k hR
    obtain ⟨X, K, rfl, rfl, hK, hXK⟩ := Sp.right_nat hR
    by_cases hf : ∀ j, X ≤ j → j < X + K → f j = false
    · have HA : Hid (∀ u, Bw W u → Calls Try.prog 26 #[.pointer (some ⟨g, 0, none⟩), .agg #[.int .i64 (X : Int), .int .i64 (K : Int)], .bool false] u fun e w' => e = .returned (.bool true) ∧ Bw u w') := fun u ku => rall_free (hsW.keep ku) X K hXK false hf
      have HP : Hid (∀ u, Bw W u → Calls Try.prog 27 #[.pointer (some ⟨g, 0, none⟩), .agg #[.int .i64 (X : Int), .int .i64 (K : Int)], .bool true] u fun e w' => e = .returned (.tuple #[]) ∧ Hid (RHoldEnds true 5 g n b f (X : Int) (K : Int) w (.returned (.int .i64 0)) w')) := fun u ku => by
        refine (rput16_any (hsW.keep ku) X K hXK true).mono ?_
        rintro e w' ⟨rfl, h1, h2⟩
        exact ⟨rfl, .inr ⟨X, K, rfl, rfl, hK, hXK, .inr ⟨hf, rfl, h1, (Bx.of_bw (kW.trans ku)).trans h2⟩⟩⟩
      clear hs hsW hc hR hf kW hK hXK
      go_enter Try.func13, Try.ntmps13
      go_upto_region 3 with fail
      rw [← hW, hz.out]
      clear hW
      go_wp2_with (first
        | (go_at_call 31; refine HR.out.mono ?_; rintro e w1 ⟨rfl, h1⟩; obtain ⟨y0, y1⟩ := HC.out _ h1)
        | (go_at_call 26; refine (HA.out _ h1).mono ?_; rintro e w2 ⟨rfl, h2⟩; obtain ⟨x0, x1⟩ := HC.out _ (h1.trans h2))
        | (go_at_call 27; refine (HP.out _ (h1.trans h2)).mono ?_; rintro e w3 ⟨rfl, h3⟩))
      go_ret
      exact h3.out
    · have HA : Hid (∀ u, Bw W u → Calls Try.prog 26 #[.pointer (some ⟨g, 0, none⟩), .agg #[.int .i64 (X : Int), .int .i64 (K : Int)], .bool false] u fun e w' => e = .returned (.bool false) ∧ Hid (RHoldEnds true 5 g n b f (X : Int) (K : Int) w (.returned (.int .i64 5)) w')) := fun u ku => by
        refine (rall_not (hsW.keep ku) X K hXK false hf).mono ?_
        rintro e w' ⟨rfl, h1⟩
        exact ⟨rfl, .inr ⟨X, K, rfl, rfl, hK, hXK, .inl ⟨hf, rfl, (kW.trans ku).trans h1⟩⟩⟩
      clear hs hsW hc hR hf kW hK hXK
      go_enter Try.func13, Try.ntmps13
      go_upto_region 3 with fail
      rw [← hW, hz.out]
      clear hW
      go_wp2_with (first
        | (go_at_call 31; refine HR.out.mono ?_; rintro e w1 ⟨rfl, h1⟩; obtain ⟨y0, y1⟩ := HC.out _ h1)
        | (go_at_call 26; refine (HA.out _ h1).mono ?_; rintro e w2 ⟨rfl, h2⟩))
      go_ret
      exact h2.out
  · have HR : Hid (Calls Try.prog 31 #[.pointer (some ⟨g, 0, none⟩), .agg #[.int .i64 x, .int .i64 k]] W fun e w' => e = .returned (.bool false) ∧ Hid (RHoldEnds true 5 g n b f x k w (.returned (.int .i64 1)) w')) := by
      refine (rright_no hsW x k hR).mono ?_
      rintro e w' ⟨rfl, h1⟩
      exact ⟨rfl, .inl ⟨hR, rfl, kW.trans h1⟩⟩
    clear hs hsW hc hR kW
    go_enter Try.func13, Try.ntmps13
    go_upto_region 3 with fail
    rw [← hW, hz.out]
    clear hW
    go_wp2_with (go_at_call 31; refine HR.out.mono ?_; rintro e w1 ⟨rfl, h1⟩)
    go_ret
    exact h1.out
set_option maxRecDepth 100000 in
set_option maxHeartbeats 2000000 in
theorem rgive16_any {w : World} {g b n : Nat} {f : Nat → Bool} (hs : RfAt w g b n f) (x k : Int) :
    Calls Try.prog 15 #[.pointer (some ⟨g, 0, none⟩), .agg #[.int .i64 x, .int .i64 k]] w fun e w' => RHoldEnds false 4 g n b f x k w e w' := by
  obtain ⟨W, hW⟩ : ∃ W, W = w.alloc (.cells #[.int .i64 x, .int .i64 k] 32) := ⟨_, rfl⟩
  obtain ⟨z, hz⟩ : ∃ z, Hid (w.heap.size = z) := ⟨_, rfl⟩
  obtain ⟨kW, hc⟩ := RfAt.box hW hz.out
  obtain ⟨z0, z1⟩ := hc W (Bw.refl _)
  have HC : Hid (∀ u, Bw W u → u.cell? ⟨z, 0, none⟩ = some (.int .i64 x) ∧ u.cell? ⟨z, 1, none⟩ = some (.int .i64 k)) := hc
  have hsW := hs.keep kW
  by_cases hR : Sp.Right n x k
  · have HR : Hid (Calls Try.prog 31 #[.pointer (some ⟨g, 0, none⟩), .agg #[.int .i64 x, .int .i64 k]] W fun e w' => e = .returned (.bool true) ∧ Bw W w') := rright_yes hsW x k hR
    obtain ⟨X, K, rfl, rfl, hK, hXK⟩ := Sp.right_nat hR
    by_cases hf : ∀ j, X ≤ j → j < X + K → f j = true
    · have HA : Hid (∀ u, Bw W u → Calls Try.prog 26 #[.pointer (some ⟨g, 0, none⟩), .agg #[.int .i64 (X : Int), .int .i64 (K : Int)], .bool true] u fun e w' => e = .returned (.bool true) ∧ Bw u w') := fun u ku => rall_free (hsW.keep ku) X K hXK true hf
      have HP : Hid (∀ u, Bw W u → Calls Try.prog 27 #[.pointer (some ⟨g, 0, none⟩), .agg #[.int .i64 (X : Int), .int .i64 (K : Int)], .bool false] u fun e w' => e = .returned (.tuple #[]) ∧ Hid (RHoldEnds false 4 g n b f (X : Int) (K : Int) w (.returned (.int .i64 0)) w')) := fun u ku => by
        refine (rput16_any (hsW.keep ku) X K hXK false).mono ?_
        rintro e w' ⟨rfl, h1, h2⟩
        exact ⟨rfl, .inr ⟨X, K, rfl, rfl, hK, hXK, .inr ⟨hf, rfl, h1, (Bx.of_bw (kW.trans ku)).trans h2⟩⟩⟩
      clear hs hsW hc hR hf kW hK hXK
      go_enter Try.func15, Try.ntmps15
      go_upto_region 3 with fail
      rw [← hW, hz.out]
      clear hW
      go_wp2_with (first
        | (go_at_call 31; refine HR.out.mono ?_; rintro e w1 ⟨rfl, h1⟩; obtain ⟨y0, y1⟩ := HC.out _ h1)
        | (go_at_call 26; refine (HA.out _ h1).mono ?_; rintro e w2 ⟨rfl, h2⟩; obtain ⟨x0, x1⟩ := HC.out _ (h1.trans h2))
        | (go_at_call 27; refine (HP.out _ (h1.trans h2)).mono ?_; rintro e w3 ⟨rfl, h3⟩))
      go_ret
      exact h3.out
    · have HA : Hid (∀ u, Bw W u → Calls Try.prog 26 #[.pointer (some ⟨g, 0, none⟩), .agg #[.int .i64 (X : Int), .int .i64 (K : Int)], .bool true] u fun e w' => e = .returned (.bool false) ∧ Hid (RHoldEnds false 4 g n b f (X : Int) (K : Int) w (.returned (.int .i64 4)) w')) := fun u ku => by
        refine (rall_not (hsW.keep ku) X K hXK true hf).mono ?_
        rintro e w' ⟨rfl, h1⟩
        exact ⟨rfl, .inr ⟨X, K, rfl, rfl, hK, hXK, .inl ⟨hf, rfl, (kW.trans ku).trans h1⟩⟩⟩
      clear hs hsW hc hR hf kW hK hXK
      go_enter Try.func15, Try.ntmps15
      go_upto_region 3 with fail
      rw [← hW, hz.out]
      clear hW
      go_wp2_with (first
        | (go_at_call 31; refine HR.out.mono ?_; rintro e w1 ⟨rfl, h1⟩; obtain ⟨y0, y1⟩ := HC.out _ h1)
        | (go_at_call 26; refine (HA.out _ h1).mono ?_; rintro e w2 ⟨rfl, h2⟩))
      go_ret
      exact h2.out
  · have HR : Hid (Calls Try.prog 31 #[.pointer (some ⟨g, 0, none⟩), .agg #[.int .i64 x, .int .i64 k]] W fun e w' => e = .returned (.bool false) ∧ Hid (RHoldEnds false 4 g n b f x k w (.returned (.int .i64 1)) w')) := by
      refine (rright_no hsW x k hR).mono ?_
      rintro e w' ⟨rfl, h1⟩
      exact ⟨rfl, .inl ⟨hR, rfl, kW.trans h1⟩⟩
    clear hs hsW hc hR kW
    go_enter Try.func15, Try.ntmps15
    go_upto_region 3 with fail
    rw [← hW, hz.out]
    clear hW
    go_wp2_with (go_at_call 31; refine HR.out.mono ?_; rintro e w1 ⟨rfl, h1⟩)
    go_ret
    exact h1.out
end Go.Proofs.Ytfdfkhmaeeonpaa
