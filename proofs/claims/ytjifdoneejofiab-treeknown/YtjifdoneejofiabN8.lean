/- The document's own Join. -/
import Derived.Test.YtjifdoneejofiabN7
namespace Go.Proofs.Ytjifdoneejofiab
open Go.RowKit Go.Deep
set_option linter.unusedVariables false
set_option linter.unusedSimpArgs false

namespace Nm
theorem pieces_one (l : B) : (pieces l).length = 1 ↔ (47 : UInt8) ∉ l := by
  constructor
  · intro h
    cases e : pieces l with
    | nil => exact absurd e (pieces_ne l)
    | cons p ps =>
      rw [e] at h
      have : ps = [] := by cases ps with | nil => rfl | cons q r => simp at h
      subst this
      have hj := joined_pieces l
      rw [e] at hj
      have hl : p = l := hj
      rw [← hl]
      exact pieces_no l p (by rw [e]; simp)
  · intro h; rw [pieces_free l h]; rfl
/-- what Join answers -/
def joinE (ps : List B) : B × Int := if ps = [] then ([], 4) else if ∃ p ∈ ps, (47 : UInt8) ∈ p then ([], 1) else if (check (joined ps)).2 = 0 then (joined ps, 0) else ([], (check (joined ps)).2)
theorem check_long {l : B} (h : 400 < l.length) : (check l).2 = 2 := by unfold check; rw [if_pos h]
end Nm
theorem partsL_mem {T : Nat → ByteArray} {n : Nat} {p : Nm.B} : p ∈ partsL T n ↔ ∃ i, i < n ∧ (T i).toList = p := by
  unfold partsL
  rw [List.mem_map]
  constructor
  · rintro ⟨i, hi, rfl⟩; exact ⟨i, List.mem_range.1 hi, rfl⟩
  · rintro ⟨i, hi, rfl⟩; exact ⟨i, List.mem_range.2 hi, rfl⟩
theorem tot_partsL_succ (T : Nat → ByteArray) (k : Nat) : Nm.tot (partsL T (k + 1)) = Nm.tot (partsL T k) + ((T k).size + 1) := by
  rw [partsL_succ, Nm.tot_append]
  unfold Nm.tot
  rw [Nm.size_toList]
  unfold Nm.tot
  omega
theorem tot_partsL_mono (T : Nat → ByteArray) {k n : Nat} (h : k ≤ n) : Nm.tot (partsL T k) + (n - k) ≤ Nm.tot (partsL T n) := by
  obtain ⟨d, rfl⟩ : ∃ d, n = k + d := ⟨n - k, by omega⟩
  induction d with
  | zero => rw [Nat.add_zero]; omega
  | succ d ih => have := tot_partsL_succ T (k + d); rw [show k + (d + 1) = k + d + 1 from rfl, this]; have := ih (by omega); omega

end Go.Proofs.Ytjifdoneejofiab
