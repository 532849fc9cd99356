/- What the document's own Inverse tells where there is nothing to take back, or where the matrix is wrong. -/
import Derived.Test.YtpgjkhlffcomgaaM14
namespace Go.Proofs.Ytpgjkhlffcomgaa
open Go.RowKit

theorem rinverse_bad (A : Option Addr) (n cap : Nat) (R : Nat → Option Addr) (L C : Nat → Nat) (Z : Nat → Nat → Int) (w : World) (h : MatAt w A n R L C Z) (x : Int) (hx : Wrong n L x) (hx0 : (x == 0) = false) :
    Calls Try.prog 25 #[.slice A n cap] w fun e w' => e = .returned (.tuple #[.slice none 0 0, .int .i64 x]) ∧ Bw w w' := by
  go_enter Try.func25, Try.ntmps25
  go_wp2_with (go_at_call 37; refine (rbad_any _ _ _ _ _ _ _ _ h).mono ?_; rintro e w1 ⟨y, rfl, hy, hw⟩; obtain rfl := Wrong.unique hy hx)
  go_ret2
  exact ⟨rfl, hw⟩

theorem rinverse_shape (A : Option Addr) (n cap : Nat) (R : Nat → Option Addr) (L C : Nat → Nat) (Z : Nat → Nat → Int) (w : World) (h : MatAt w A n R L C Z) (hx : Wrong n L 0) (hc : ((n : Int) != colsI n L) = true) :
    Calls Try.prog 25 #[.slice A n cap] w fun e w' => e = .returned (.tuple #[.slice none 0 0, .int .i64 6]) ∧ Bw w w' := by
  go_enter Try.func25, Try.ntmps25
  go_wp2_with (first | (go_at_call 37; refine (rbad_any _ _ _ _ _ _ _ _ h).mono ?_; rintro e w1 ⟨y, rfl, hy, hw⟩; obtain rfl := Wrong.unique hy hx; have h' := h.keep hw) | (go_at_call 28; refine (rcols_any _ _ _ _ _ _ _ _ h').mono ?_; rintro e w' ⟨rfl, hw'⟩; subst w'))
  go_ret2
  exact ⟨rfl, hw⟩

theorem rinverse_none (A : Option Addr) (cap : Nat) (R : Nat → Option Addr) (L C : Nat → Nat) (Z : Nat → Nat → Int) (w : World) (h : MatAt w A 0 R L C Z) :
    Calls Try.prog 25 #[.slice A 0 cap] w fun e w' => InvSays 0 Z e w' ∧ Bw w w' := by
  have hx : Wrong 0 L 0 := Or.inr (Or.inr ⟨rfl, by decide, fun r hr => by omega, fun r hr => by omega⟩)
  have hc0 : colsI 0 L = 0 := rfl
  go_enter Try.func25, Try.ntmps25
  go_wp2_with (first | (go_at_call 37; refine (rbad_any _ _ _ _ _ _ _ _ h).mono ?_; rintro e w1 ⟨y, rfl, hy, hw⟩; obtain rfl := Wrong.unique hy hx; have h' := h.keep hw) | (go_at_call 28; refine (rcols_any _ _ _ _ _ _ _ _ h').mono ?_; rintro e w' ⟨rfl, hw'⟩; subst w') | (go_at_call 21; refine (rone_ok 0 (by omega) _).mono ?_; rintro e w2 ⟨v1, R1, C1, rfl, hone, hw2⟩; obtain ⟨A1, c1, rfl⟩ := own_form hone.own))
  go_loopw [8, 9] (fun v i wr => v = .slice none 0 0 ∧ i = .int .i64 0 ∧ Bw w wr) (fun _ _ _ => 0)
  case atStart => exact ⟨rfl, rfl, hw.trans hw2⟩
  case round =>
    obtain ⟨rfl, rfl, hwr⟩ := hrel
    go_wp2_with (go_at_call 39; refine (rsteps_none _ _ 0 _ (by omega)).mono ?_; rintro e w3 ⟨v3, rfl, hw3⟩)
    go_loopw [12, 13] (fun v i wr => v = .slice none 0 0 ∧ i = .int .i64 0 ∧ Bw w wr) (fun _ _ _ => 0)
    case atStart => exact ⟨rfl, rfl, hwr.trans hw3⟩
    case round =>
      obtain ⟨rfl, rfl, hwr⟩ := hrel
      go_wp2
      go_ret2
      exact ⟨Or.inr ⟨none, 0, fun _ => none, fun _ => 0, fun _ _ => 0, rfl, ⟨Or.inl rfl, fun r hr => by omega⟩, fun i j hi => by omega⟩, hwr⟩

end Go.Proofs.Ytpgjkhlffcomgaa
