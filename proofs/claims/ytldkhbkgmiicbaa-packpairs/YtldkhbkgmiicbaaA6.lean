/- A text's bytes as a new row: '[]byte(s)'. -/
import Derived.Test.YtldkhbkgmiicbaaA5
import Derived.Laws.AppendOwn
import Derived.RangeFuncRecord
namespace Go.Proofs.Ytldkhbkgmiicbaa
open Go.RowKit Go.Deep
set_option linter.unusedVariables false
set_option linter.unusedSimpArgs false

namespace Px
/-- a row of these bytes -/
def rowF (l : B) (i : Nat) : Int := ((l.getD i 0).toNat : Int)
theorem rowF_bd (l : B) (i : Nat) : 0 ≤ rowF l i ∧ rowF l i < 256 := by
  unfold rowF
  have := (l.getD i 0).toNat_lt
  omega
end Px
/-- the room that a text's bytes get, and the world behind '[]byte(s)' -/
def textCap (W : World) (s : ByteArray) : Nat := grownCap W s.size 0 5
def textW (W : World) (s : ByteArray) : World := W.drew.alloc (.cells (bytesRow s (textCap W s)) 5 ((bytesRow s (textCap W s)).size, (bytesRow s (textCap W s)).size + 1))
theorem conv_text (W : World) (s : ByteArray) : (convert 9 23 (.string s)).run Try.prog W = .ok (.slice (some ⟨W.heap.size, 0, none⟩) s.size (textCap W s)) (textW W s) :=
  run_bytes_of_string W 9 23 5 s Try.underlying9 Try.underlying23 Try.underlying5
theorem textCap_ge (W : World) (s : ByteArray) : s.size ≤ textCap W s := grownCap_ge W s.size 0 5
theorem textW_bw (W : World) (s : ByteArray) : Bw W (textW W s) := Below.alloc (Below.drew (Below.refl _ _)) (Nat.le_refl _) _
theorem textW_row (W : World) (s : ByteArray) : NewRow (textW W s) W.heap.size (some ⟨W.heap.size, 0, none⟩) s.size (Px.rowF s.toList) := by
  refine ⟨⟨.inr ⟨_, _, rfl, fun i hi => ?_⟩, Px.rowF_bd _⟩, .inr ⟨_, _, rfl, Nat.le_refl _, by simp [textW]⟩⟩
  have hb := bytesRow_at s (textCap W s) i hi
  have e : Px.rowF s.toList i = (s.data[i].toNat : Int) := by
    unfold Px.rowF
    rw [List.getD_eq_getElem?_getD, List.getElem?_eq_getElem (by rw [Nm.size_toList]; exact hi), ← Nm.get_toList s i hi (by rw [Nm.size_toList]; exact hi)]
    rfl
  rw [e, Nat.zero_add]
  have hn := World.alloc_heap_new W.drew (.cells (bytesRow s (textCap W s)) 5 ((bytesRow s (textCap W s)).size, (bytesRow s (textCap W s)).size + 1))
  have hz : W.drew.heap.size = W.heap.size := rfl
  rw [hz] at hn
  unfold textW World.cell?
  rw [hn]
  simp [hb]
end Go.Proofs.Ytldkhbkgmiicbaa
