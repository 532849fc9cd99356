/- Layer 14: the document's own Rot. -/
import Derived.Test.YtppknadflmjefaaCG
namespace Go.Proofs.Ytppknadflmjefaa
open Go.RowKit Go.Deep Go.Maps
set_option linter.unusedVariables false
set_option linter.unusedSimpArgs false

/-- a cell in a block of its own -/
def Cell3 (w : World) (z : Nat) (l v : Value) (b : Bool) : Prop := w.heap[z]? = some (.cells #[l, v, .bool b] 68 (0, 0))
theorem Cell3.k0 {w : World} {z : Nat} {l v : Value} {b : Bool} (h : Cell3 w z l v b) : w.cell? ⟨z, 0, none⟩ = some l := cell_of_row w z 0 _ _ _ h
theorem Cell3.k1 {w : World} {z : Nat} {l v : Value} {b : Bool} (h : Cell3 w z l v b) : w.cell? ⟨z, 1, none⟩ = some v := cell_of_row w z 1 _ _ _ h
theorem Cell3.k2 {w : World} {z : Nat} {l v : Value} {b : Bool} (h : Cell3 w z l v b) : w.cell? ⟨z, 2, none⟩ = some (.bool b) := cell_of_row w z 2 _ _ _ h
theorem Cell3.fz {w : World} {z : Nat} {l v : Value} {b : Bool} (h : Cell3 w z l v b) (j : Nat) : w.frozen? ⟨z, j, none⟩ = false := frozen_of_row w z j _ _ h
theorem Cell3.keep {w w' : World} {z : Nat} {l v : Value} {b : Bool} (h : Cell3 w z l v b) (k : Bw w w') : Cell3 w' z l v b := (k.block z (Array.getElem?_eq_some_iff.1 h).1).trans h
theorem Cell3.keepx {P : Nat → Prop} {w w' : World} {z : Nat} {l v : Value} {b : Bool} (h : Cell3 w z l v b) (k : Bx P w w') (hz : ¬ P z) : Cell3 w' z l v b := (k.block z (Array.getElem?_eq_some_iff.1 h).1 hz).trans h
theorem Cell3.s0 {w : World} {z : Nat} {l v : Value} {b : Bool} (h : Cell3 w z l v b) (l' : Value) : Cell3 (w.setCell ⟨z, 0, none⟩ l') z l' v b := heap_setCell_same w z 0 _ _ _ h
theorem Cell3.s1 {w : World} {z : Nat} {l v : Value} {b : Bool} (h : Cell3 w z l v b) (v' : Value) : Cell3 (w.setCell ⟨z, 1, none⟩ v') z l v' b := heap_setCell_same w z 1 _ _ _ h
theorem Cell3.lt {w : World} {z : Nat} {l v : Value} {b : Bool} (h : Cell3 w z l v b) : z < w.heap.size := (Array.getElem?_eq_some_iff.1 h).1
theorem Cell3.ne {w : World} {z g n : Nat} {l v : Value} {b : Bool} {f : Nat → Int} (h : Cell3 w z l v b) (k : Own w g n f) : z ≠ g := fun e => by
  obtain ⟨cur, h1, _⟩ := k
  unfold Cell3 at h
  rw [e, h1] at h
  simp only [Option.some.injEq, Obj.cells.injEq] at h
  exact absurd h.2.1 (by decide)
end Go.Proofs.Ytppknadflmjefaa
