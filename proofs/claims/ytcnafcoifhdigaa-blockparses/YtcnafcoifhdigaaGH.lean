/- A copy of the call's own, and what is changed in it. -/
import Derived.Test.YtcnafcoifhdigaaGF
import Derived.BigRegion
namespace Go.Proofs.Ytcnafcoifhdigaa
open Go.RowKit Go.Deep
set_option linter.unusedVariables false
set_option linter.unusedSimpArgs false

/-- a copy that is the call's own -/
structure Mine6 (w : World) (base : Nat) (A : Option Addr) (L cap : Nat) (f : Nat → Int) : Prop where
  row : RowAt w A L f
  le : L ≤ cap
  own : 0 < L → ∃ g, A = some ⟨g, 0, none⟩ ∧ base ≤ g ∧ g < w.heap.size ∧ Own w g L f

theorem mine_of6 {w : World} {base L : Nat} {v : Value} {f : Nat → Int} (hf : ∀ i, 0 ≤ f i ∧ f i < 256) (h : w.ownsRow base 5 1 v L (cellsU f L)) : ∃ A cap, v = .slice A L cap ∧ cap ≤ maxLen ∧ Mine6 w base A L cap f := by
  obtain ⟨A, cap, rfl, h1, h2, h3, h4⟩ := row_of_own hf h
  refine ⟨A, cap, rfl, h2, h3, h1, fun h0 => ?_⟩
  obtain ⟨g, c, e, hb, _, _, ho⟩ := Own.of h h0
  cases e
  exact ⟨g, rfl, hb, ho.lt, ho⟩

theorem own_keepx6 {S : Nat → Prop} {w w' : World} {g n : Nat} {f : Nat → Int} (h : Own w g n f) (k : Bx S w w') (hg : ¬ S g) : Own w' g n f := by
  obtain ⟨cur, h1, h2⟩ := h
  exact ⟨cur, (k.block g (Array.getElem?_eq_some_iff.1 h1).1 hg).trans h1, h2⟩

theorem BlkAt.keepx {S : Nat → Prop} {w w' : World} {g : Nat} {k s h : Int} {A : Option Addr} {n c : Nat} (hb : BlkAt w g k s h A n c) (b : Bx S w w') (hg : ¬ S g) : BlkAt w' g k s h A n c := (b.block _ (Array.getElem?_eq_some_iff.1 hb).1 hg).trans hb
theorem BlkAt.data {w : World} {g : Nat} {k s h : Int} {A A' : Option Addr} {n c n' c' : Nat} (hb : BlkAt w g k s h A n c) : BlkAt (w.setCell ⟨g, 3, none⟩ (.slice A' n' c')) g k s h A' n' c' := heap_setCell_same w g 3 _ _ (.slice A' n' c') hb
end Go.Proofs.Ytcnafcoifhdigaa
