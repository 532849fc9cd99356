/- The document's own Put, Full, Blank and first, of layer 10. -/
import Derived.Test.YtkoacehgfmflmabI3
import Derived.Test.YtkoacehgfmflmabJ9
namespace Go.Proofs.Ytkoacehgfmflmab
open Go.RowKit Go.Deep
set_option linter.unusedVariables false
set_option linter.unusedSimpArgs false

/-- texts of a head that are not too long for any machine -/
structure Hd.Small (h : Hd.Hdr) : Prop where
  name : h.name.length ≤ 4611686018427387904
  link : h.link.length ≤ 4611686018427387904
  pre : h.pre.length ≤ 4611686018427387904
theorem Hd.zeros_at {l : Hd.B} (hl : l.length = 512) (h : ∀ i, i < 512 → Hd.rowF l i = 0) : l = Hd.zeros := by
  apply Hd.rowF_ext
  · rw [hl, zeros_len]
  · intro i hi
    rw [h i (by omega)]
    unfold Hd.rowF Hd.zeros
    rw [List.getD_eq_getElem?_getD, List.getElem?_replicate]
    split <;> rfl
theorem Hd.zeros_row (i : Nat) : Hd.rowF Hd.zeros i = 0 := by
  unfold Hd.rowF Hd.zeros
  rw [List.getD_eq_getElem?_getD, List.getElem?_replicate]
  split <;> rfl
end Go.Proofs.Ytkoacehgfmflmab
