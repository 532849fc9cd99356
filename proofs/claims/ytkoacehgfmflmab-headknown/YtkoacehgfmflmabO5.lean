/- The contract of the document's own Put, further: numbers that have no plain form. -/
import Derived.Test.YtkoacehgfmflmabO4
namespace Go.Proofs.Ytkoacehgfmflmab
open Go.RowKit Go.Deep
set_option linter.unusedVariables false
set_option linter.unusedSimpArgs false

theorem own_lit1 (W : World) (B : Nat → Int) (z : Int) (hB : B 0 = z) : (W.alloc (.cells #[.int .u8 z] 5)).ownsRow W.heap.size 5 1 (.slice (some ⟨W.heap.size, 0, none⟩) 1 1) 1 (cellsU B 1) := by
  refine ⟨by rw [cellsU_len, Nat.mul_one], Or.inr ⟨W.heap.size, 1, _, rfl, Nat.le_refl _, heap_alloc_new _ _, Nat.le_refl _, by unfold maxLen; omega, rfl, ?_⟩⟩
  rw [← hB]; rfl

end Go.Proofs.Ytkoacehgfmflmab
