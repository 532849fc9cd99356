/- What the document's own Plus answers: a new row. -/
import Derived.Test.YtpgjkhlffcomgabM1
import Derived.Deep.RegionHeld3
import Derived.Deep.AppendLies
import Derived.OwnWalk
namespace Go.Proofs.Ytpgjkhlffcomgab
open Go.RowKit

theorem info_u8 : (Try.prog.info? 5).map (fun i => (i.zero, i.size, i.bytes)) = some (some (.int .u8 0), 1, 1) := by kernel_rfl

/-- the cells of a row of k bytes -/
def cellsU (h : Nat → Int) (k : Nat) : List Value := (List.range k).map fun i => .int .u8 (h i)

theorem cellsU_succ (h : Nat → Int) (k : Nat) : cellsU h (k + 1) = cellsU h k ++ [.int .u8 (h k)] := by
  unfold cellsU; rw [List.range_succ, List.map_append]; rfl

/-- a cell below the base is as it was behind an append onto a row of the call's own -/
theorem far_of {W w1 : World} {base : Nat} {e : TypeId} {size n : Nat} {v : Value} {xs : List Value} (hgrow : W.grownBy w1 v.ownBlock) (hown : W.ownsRow base e size v n xs) (hb : base ≤ W.heap.size) {a : Addr} {x : Value} (hlt : a.block < base) (hc : W.cell? a = some x) : w1.cell? a = some x := by
  rw [World.cell?_of_block (w := W) (hgrow.block a.block (by omega) ?_)]
  · exact hc
  · intro h
    rcases hown.2 with ⟨rfl, _⟩ | ⟨g, cap, cur, rfl, hg, _⟩
    · cases h
    · simp only [Value.ownBlock, Option.some.injEq] at h
      omega

theorem own_ge {W : World} {base : Nat} {e : TypeId} {size n : Nat} {v : Value} {xs : List Value} (hown : W.ownsRow base e size v n xs) : ∀ k, v.ownBlock = some k → base ≤ k := by
  intro k h
  rcases hown.2 with ⟨rfl, _⟩ | ⟨g, cap, cur, rfl, hg, _⟩
  · cases h
  · simp only [Value.ownBlock, Option.some.injEq] at h
    omega

theorem RowAt.lt {w : World} {b off L : Nat} {f : Nat → Int} (h : RowAt w (some ⟨b, off, none⟩) L f) {k : Nat} (hk : k < L) : b < w.heap.size := by
  obtain ⟨b', o', e, hc⟩ := h.at hk
  simp only [Option.some.injEq, Addr.mk.injEq] at e
  obtain ⟨rfl, _⟩ := e
  exact block_lt_of_cell (hc k hk)

end Go.Proofs.Ytpgjkhlffcomgab
