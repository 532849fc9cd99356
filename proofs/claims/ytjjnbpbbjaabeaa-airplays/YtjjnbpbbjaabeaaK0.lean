/- Rows of bytes in memory, for layers that stand on no field: what stays, what came in, what a call owns. -/
import Derived.Test.YtjjnbpbbjaabeaaRows
import Derived.WalkKit
import Derived.WalkSpells
import Derived.WalkLawsBesides
import Derived.Deep.QuietTactic
import Derived.BigQuiet
import Derived.Deep.RegionHeld3
import Derived.Deep.AppendLies
import Derived.OwnWalk
import Derived.ProofKit
import Derived.OpenShut
import Derived.SizedLaws
import Derived.Deep.Matrix
namespace Go.Proofs.Ytjjnbpbbjaabeaa
open Go.ChangeShapes Go.WideShapes Go.RowKit Go.Deep

theorem ret_int {k : IntKind} {a b : Int} (h : a = b) : Ending.returned (.int k a) = .returned (.int k b) := by rw [h]
theorem ret_bool {a b : Bool} (h : a = b) : Ending.returned (.bool a) = .returned (.bool b) := by rw [h]

/-- what was there stays -/
abbrev Bw (w w' : World) : Prop := Below w.heap.size w w'

theorem Bw.trans {a b c : World} (h : Bw a b) (k : Bw b c) : Bw a c := Below.trans h (Below.mono k h.size)
theorem Bw.refl (a : World) : Bw a a := Below.refl _ _
theorem Bw.drewN (w : World) : ∀ n, Bw w (w.drewN n)
  | 0 => Below.refl _ _
  | n + 1 => (Bw.drewN w n).drew

/-- a row of L bytes at A -/
def RowAt (w : World) (A : Option Addr) (L : Nat) (f : Nat → Int) : Prop :=
  (L = 0 ∨ ∃ b off, A = some ⟨b, off, none⟩ ∧ ∀ i, i < L → w.cell? ⟨b, off + i, none⟩ = some (.int .u8 (f i))) ∧ ∀ i, 0 ≤ f i ∧ f i < 256

theorem RowAt.keep {w w' : World} {A : Option Addr} {L : Nat} {f : Nat → Int} (h : RowAt w A L f) (g : Bw w w') : RowAt w' A L f := by
  refine ⟨?_, h.2⟩
  rcases h.1 with h0 | ⟨b, off, hA, hc⟩
  · exact Or.inl h0
  · refine Or.inr ⟨b, off, hA, fun i hi => ?_⟩
    have := hc i hi
    rw [g.cell (p := ⟨b, off + i, none⟩) (block_lt_of_cell this)]
    exact this

theorem RowAt.at {w : World} {A : Option Addr} {L : Nat} {f : Nat → Int} (h : RowAt w A L f) {k : Nat} (hk : k < L) : ∃ b off, A = some ⟨b, off, none⟩ ∧ ∀ i, i < L → w.cell? ⟨b, off + i, none⟩ = some (.int .u8 (f i)) := by
  rcases h.1 with h0 | h
  · omega
  · exact h

theorem info_u8 : (Try.prog.info? 5).map (fun i => (i.zero, i.size, i.bytes)) = some (some (.int .u8 0), 1, 1) := by kernel_rfl

/-- the cells of a row of k bytes -/
def cellsU (h : Nat → Int) (k : Nat) : List Value := (List.range k).map fun i => .int .u8 (h i)

theorem cellsU_succ (h : Nat → Int) (k : Nat) : cellsU h (k + 1) = cellsU h k ++ [.int .u8 (h k)] := by
  unfold cellsU; rw [List.range_succ, List.map_append]; rfl

/-- a cell below the base is as it was behind an append onto a row of the call's own -/
theorem far_of {W w1 : World} {base : Nat} {e : TypeId} {size n : Nat} {v : Value} {xs : List Value} (hgrow : W.grownBy w1 v.ownBlock) (hown : W.ownsRow base e size v n xs) (hb : base ≤ W.heap.size) {a : Addr} {x : Value} (hlt : a.block < base) (hc : W.cell? a = some x) : w1.cell? a = some x := by
  rw [World.cell?_of_block (w := W) (hgrow.block a.block (by omega) ?_)]
  · exact hc
  · intro h
    rcases hown.2 with ⟨rfl, _⟩ | ⟨g, cap, cur, rfl, hg, _⟩
    · cases h
    · simp only [Value.ownBlock, Option.some.injEq] at h
      omega

theorem own_ge {W : World} {base : Nat} {e : TypeId} {size n : Nat} {v : Value} {xs : List Value} (hown : W.ownsRow base e size v n xs) : ∀ k, v.ownBlock = some k → base ≤ k := by
  intro k h
  rcases hown.2 with ⟨rfl, _⟩ | ⟨g, cap, cur, rfl, hg, _⟩
  · cases h
  · simp only [Value.ownBlock, Option.some.injEq] at h
    omega

theorem RowAt.lt {w : World} {b off L : Nat} {f : Nat → Int} (h : RowAt w (some ⟨b, off, none⟩) L f) {k : Nat} (hk : k < L) : b < w.heap.size := by
  obtain ⟨b', o', e, hc⟩ := h.at hk
  simp only [Option.some.injEq, Addr.mk.injEq] at e
  obtain ⟨rfl, _⟩ := e
  exact block_lt_of_cell (hc k hk)

theorem cells_plain {w : World} {a : Addr} {n : Nat} {V : Nat → Value} (h : ∀ i, i < n → w.cell? (a.add i) = some (V i)) (hp : 0 < n) :
    ∃ b off, a = ⟨b, off, none⟩ ∧ ∀ j, j < n → w.cell? ⟨b, off + j, none⟩ = some (V j) := by
  obtain ⟨b, off, spot⟩ := a
  have hspot : spot = none := by simpa [Addr.add] using World.cell?_spot (h 0 hp)
  subst hspot
  exact ⟨b, off, rfl, fun j hj => by rw [← Go.WideShapes.add_plain]; exact h j hj⟩

theorem byte_of (zs : List Int) (h : ∀ n ∈ zs, (Lit.int .u8 n).wf = true) (i : Nat) : 0 ≤ zs.getD i 0 ∧ zs.getD i 0 < 256 := by
  rcases Nat.lt_or_ge i zs.length with hi | hi
  · have := bounds_u8 (h zs[i] (List.getElem_mem hi))
    rw [List.getD_eq_getElem?_getD, List.getElem?_eq_getElem hi]
    simp only [Option.getD_some]
    omega
  · rw [List.getD_eq_getElem?_getD, List.getElem?_eq_none hi]
    decide

/-- a row of bytes that came in -/
structure InRow (w : World) (A : Option Addr) (n cap : Nat) (f : Nat → Int) : Prop where
  row : RowAt w A n f
  le : n ≤ cap
  room : cap ≤ 140737488351232
  nil : A = none → cap = 0

theorem open_bytes {H : Type} {enc : TypeId × Value → H} {W : World} {A : Option Addr} {n cap : Nat} {d : DataW H} {p : List MemPlace}
    (h : DataW.Trod enc Try.prog W 0 (fun _ => true) true 33 (.slice A n cap) d p) (hw : ∀ x ∈ d.weights Try.prog 33, x ≤ reachBytes) : ∃ f, InRow W A n cap f := by
  obtain ⟨fuel, hf⟩ := h
  rcases open_ints Try.underlying33 Try.underlying5 (by kernel_rfl) hf with ⟨hcs, _⟩ | ⟨x, l, c, zs, hcs, _, hl, hm, hz, hd, hcell, hwz⟩
  · simp [Value.cells] at hcs
    obtain ⟨rfl, rfl, rfl⟩ := hcs
    exact ⟨fun _ => 0, ⟨Or.inl rfl, fun _ => by show (0 : Int) ≤ 0 ∧ (0 : Int) < 256; decide⟩, Nat.le_refl _, Nat.zero_le _, fun _ => rfl⟩
  · simp [Value.cells] at hcs
    obtain ⟨rfl, rfl, rfl⟩ := hcs
    simp only [Prod.mk.injEq] at hd
    obtain ⟨rfl, _⟩ := hd
    simp only [if_true] at hz
    have hb : Try.prog.bytesOf 5 = 1 := by kernel_rfl
    have hcap : n ≤ cap ∧ cap ≤ 140737488351232 := by
      have := hw ((zs.take n).length * 1 + (zs.drop n).length * 1) (by
        simp only [DataW.weights, Try.underlying33, hb, lits, List.length_map]
        exact List.mem_cons.2 (Or.inl (by omega)))
      simp only [List.length_take, List.length_drop, reachBytes] at this
      omega
    refine ⟨fun i => zs.getD i 0, ⟨?_, byte_of zs hwz⟩, hcap.1, hcap.2, fun e => by cases e⟩
    rcases Nat.eq_zero_or_pos n with h0 | h0
    · exact Or.inl h0
    · obtain ⟨b, off, rfl, hc⟩ := cells_plain (n := zs.length) (V := fun i => .int .u8 (zs.getD i 0)) hcell (by omega)
      exact Or.inr ⟨b, off, rfl, fun i hi => hc i (by omega)⟩

theorem laidOut : laidOutB Try.prog = true := by kernel_rfl
theorem own : ownKnob Try.prog.godebug = none := by kernel_rfl

end Go.Proofs.Ytjjnbpbbjaabeaa
