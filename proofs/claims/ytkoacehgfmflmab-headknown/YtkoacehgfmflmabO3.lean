/- The contract of the document's own Get, of layer 7. -/
import Derived.Test.YtkoacehgfmflmabO2
namespace Go.Proofs.Ytkoacehgfmflmab
open Go.RowKit Go.Deep
set_option linter.unusedVariables false
set_option linter.unusedSimpArgs false

/-- what Get answers -/
def GetSays (L : Nat) (f : Nat → Int) (e : Ending) : Prop := ∃ n a er, e = .returned (.tuple #[.int .i64 n, .int .i64 a, .int .i64 er]) ∧ Oct.Says L f n a er

theorem oct_small {f : Nat → Int} {p k : Nat} (hk : k ≤ 12) (h : ∀ i, i < k → Oct.Digit (f (p + i))) : 0 ≤ Oct.oct f p k ∧ Oct.oct f p k < 68719476736 := by
  have h1 := Oct.oct_bound k h
  have h2 : (8 : Int) ^ k ≤ 8 ^ 12 := by
    have h13 : k = 0 ∨ k = 1 ∨ k = 2 ∨ k = 3 ∨ k = 4 ∨ k = 5 ∨ k = 6 ∨ k = 7 ∨ k = 8 ∨ k = 9 ∨ k = 10 ∨ k = 11 ∨ k = 12 := by omega
    rcases h13 with rfl | rfl | rfl | rfl | rfl | rfl | rfl | rfl | rfl | rfl | rfl | rfl | rfl <;> decide
  have h3 : (8 : Int) ^ 12 = 68719476736 := by decide
  omega

end Go.Proofs.Ytkoacehgfmflmab
