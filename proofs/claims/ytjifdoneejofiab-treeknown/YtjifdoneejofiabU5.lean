/- The document's own link and May, of layer 11 (written by mku5.py). -/
import Derived.Test.YtjifdoneejofiabU4
namespace Go.Proofs.Ytjifdoneejofiab
open Go.RowKit Go.Deep
set_option linter.unusedVariables false
set_option linter.unusedSimpArgs false

/-- a link's kind -/
def Tr.lnk (k : Nat) : Bool := decide (k = 3 ∨ k = 4)
namespace Tr
/-- the four tests -/
def tK (x : It) : Bool := decide (x.kind < 1 ∨ 4 < x.kind)
def tT (x : It) : Bool := decide (x.time < 0 ∨ 1099511627776 < x.time ∨ (x.kind = 3 ∧ x.time ≠ 0))
def tM (x : It) : Bool := decide (x.mode < 0 ∨ 4095 < x.mode ∨ ((x.kind = 3 ∨ x.kind = 4) ∧ x.mode ≠ 0))
def tI (x : It) : Bool := decide ((0 < x.body.length ∧ x.kind ≠ 1) ∨ (x.to ≠ [] ∧ ¬ (x.kind = 3 ∨ x.kind = 4)))
theorem may_tests (x : It) : mayE x = if (Nm.check x.path).2 ≠ 0 then (Nm.check x.path).2 else if tK x = true then 1 else if tT x = true then 1 else if tM x = true then 1 else if tI x = true then 110 else if 65536 < x.body.length then 2 else if x.kind = 3 then (Nm.check x.to).2 else if x.kind = 4 then (Nm.lead x.path x.to).2 else 0 := by
  unfold mayE tK tT tM tI
  simp only [decide_eq_true_eq]
end Tr
end Go.Proofs.Ytjifdoneejofiab
