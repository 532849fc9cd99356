/- The document's own Check. -/
import Derived.Test.YtjifdoneejofiabN3
namespace Go.Proofs.Ytjifdoneejofiab
open Go.RowKit Go.Deep
set_option linter.unusedVariables false
set_option linter.unusedSimpArgs false

theorem piece_len {l p : Nm.B} (h : p ∈ Nm.pieces l) : p.length ≤ l.length := by
  have h1 : ∀ ps : List Nm.B, p ∈ ps → p.length + 1 ≤ Nm.tot ps := fun ps => by
    induction ps with
    | nil => intro h; cases h
    | cons q r ih =>
      intro h
      rcases List.mem_cons.1 h with rfl | h
      · unfold Nm.tot; omega
      · have := ih h; unfold Nm.tot; omega
  have h2 := h1 _ h
  rw [Nm.tot_joined _ (Nm.pieces_ne l), Nm.joined_pieces] at h2
  omega
theorem partE_bd {p : Nm.B} (h : p.length ≤ 400) : (Nm.partE p).1 ≤ 400 ∧ 0 ≤ (Nm.partE p).2 ∧ (Nm.partE p).2 ≤ 100 := by
  unfold Nm.partE
  split
  · decide
  · split
    · decide
    · split
      · decide
      · cases e : Nm.nul p with
        | none => exact ⟨by show 0 ≤ 400; omega, by show (0 : Int) ≤ 0; decide, by show (0 : Int) ≤ 100; decide⟩
        | some n => have := Nm.nul_lt p n e; exact ⟨by show n ≤ 400; omega, by show (0 : Int) ≤ 82; decide, by show (82 : Int) ≤ 100; decide⟩
theorem tot_take_le {l : Nm.B} (j : Nat) : Nm.tot ((Nm.pieces l).take j) ≤ l.length + 1 := by
  have h : Nm.tot (Nm.pieces l) = l.length + 1 := by rw [Nm.tot_joined _ (Nm.pieces_ne l), Nm.joined_pieces]
  have h2 := Nm.tot_append ((Nm.pieces l).take j) ((Nm.pieces l).drop j)
  rw [List.take_append_drop, h] at h2
  omega

end Go.Proofs.Ytjifdoneejofiab
