/- What the document's own Rank tells. -/
import Derived.Test.YtpgjkhlffcomgabM12
namespace Go.Proofs.Ytpgjkhlffcomgab
open Go.RowKit

/-- rows of m numbers each, n of them -/
def colsN (n : Nat) (L : Nat → Nat) : Nat := if n = 0 then 0 else L 0
theorem colsI_eq (n : Nat) (L : Nat → Nat) : colsI n L = (colsN n L : Int) := by
  unfold colsI colsN; split <;> rfl

theorem rank_zero (m : Nat) (A : Nat → Nat → La.F8) : La.IsRank 0 m A 0 := ⟨A, A, A, A, fun i j hi => by omega, fun i j hi => by omega⟩

end Go.Proofs.Ytpgjkhlffcomgab
