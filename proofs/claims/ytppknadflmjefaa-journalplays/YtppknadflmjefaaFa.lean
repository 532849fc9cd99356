/- The frame for acts of layer 14, lists of them, rows of whole numbers and of truths that came in. -/
import Derived.Test.YtppknadflmjefaaCW
import Derived.Deep.CutRange
import Derived.Lib.SmallJoins
import Derived.Deep.Slices
import Derived.Deep.Grids
import Derived.Deep.SlicePairs
namespace Go.Proofs.Ytppknadflmjefaa
open Go.ChangeShapes Go.WideShapes Go.RowKit Go.Deep Go.Joins
set_option linter.unusedVariables false
set_option linter.unusedSimpArgs false

/-- a row of whole numbers that came in -/
structure InInts (w : World) (A : Option Addr) (n cap : Nat) (f : Nat → Int) : Prop where
  row : IntsAt w A n f
  le : n ≤ cap
  room : cap * 8 ≤ 140737488351232
theorem int_of (zs : List Int) (h : ∀ n ∈ zs, (Lit.int .i64 n).wf = true) (i : Nat) : -9223372036854775808 ≤ zs.getD i 0 ∧ zs.getD i 0 ≤ 9223372036854775807 := by
  rcases Nat.lt_or_ge i zs.length with hi | hi
  · have := bounds_i64 (h zs[i] (List.getElem_mem hi))
    rw [List.getD_eq_getElem?_getD, List.getElem?_eq_getElem hi]
    simp only [Option.getD_some]
    omega
  · rw [List.getD_eq_getElem?_getD, List.getElem?_eq_none hi]
    decide
theorem open_introw {H : Type} {enc : TypeId × Value → H} {W : World} {A : Option Addr} {n cap : Nat} {d : DataW H} {p : List MemPlace}
    (h : DataW.Trod enc Try.prog W 0 (fun _ => true) true 36 (.slice A n cap) d p) (hw : ∀ x ∈ d.weights Try.prog 36, x ≤ reachBytes) : ∃ f, InInts W A n cap f := by
  obtain ⟨fuel, hf⟩ := h
  rcases open_ints Try.underlying36 Try.underlying3 (by kernel_rfl) hf with ⟨hcs, _⟩ | ⟨x, l, c, zs, hcs, _, hl, hm, hz, hd, hcell, hwz⟩
  · simp [Value.cells] at hcs
    obtain ⟨rfl, rfl, rfl⟩ := hcs
    exact ⟨fun _ => 0, ⟨Or.inl rfl, fun _ => ⟨show (-9223372036854775808 : Int) ≤ 0 by decide, show (0 : Int) ≤ 9223372036854775807 by decide⟩⟩, Nat.le_refl _, Nat.zero_le _⟩
  · simp [Value.cells] at hcs
    obtain ⟨rfl, rfl, rfl⟩ := hcs
    simp only [Prod.mk.injEq] at hd
    obtain ⟨rfl, _⟩ := hd
    simp only [if_true] at hz
    have hb : Try.prog.bytesOf 3 = 8 := by kernel_rfl
    have hcap : n ≤ cap ∧ cap * 8 ≤ 140737488351232 := by
      have := hw ((zs.take n).length * 8 + (zs.drop n).length * 8) (by
        simp only [DataW.weights, Try.underlying36, hb, lits, List.length_map]
        exact List.mem_cons.2 (Or.inl (by omega)))
      simp only [List.length_take, List.length_drop, reachBytes] at this
      omega
    refine ⟨fun i => zs.getD i 0, ⟨?_, int_of zs hwz⟩, hcap.1, hcap.2⟩
    rcases Nat.eq_zero_or_pos n with h0 | h0
    · exact Or.inl h0
    · obtain ⟨b, off, rfl, hc⟩ := cells_plain (n := zs.length) (V := fun i => .int .i64 (zs.getD i 0)) hcell (by omega)
      exact Or.inr ⟨b, off, rfl, fun i hi => hc i (by omega)⟩
/-- a row of truths that came in -/
structure InBools (w : World) (A : Option Addr) (n cap : Nat) (f : Nat → Bool) : Prop where
  row : n = 0 ∨ ∃ b off, A = some ⟨b, off, none⟩ ∧ ∀ i, i < n → w.cell? ⟨b, off + i, none⟩ = some (.bool (f i))
  le : n ≤ cap
  room : cap ≤ 140737488351232
/-- an act's values -/
structure Ac where
  do_ : Int
  at_ : Int
  n : Int
  B : Option Addr
  L : Nat
  C : Nat
  f : Nat → Int
  F : Option Addr
  m : Nat
  c : Nat
  K : Nat → Int
  y : Int
def Ac.vals (x : Ac) : List Value := [.int .i64 x.do_, .int .i64 x.at_, .int .i64 x.n, .slice x.B x.L x.C, .slice x.F x.m x.c, .int .u8 x.y]
/-- an act that came in -/
structure AcIn (w : World) (x : Ac) : Prop where
  row : InRow w x.B x.L x.C x.f
  ints : InInts w x.F x.m x.c x.K
  db : -9223372036854775808 ≤ x.do_ ∧ x.do_ ≤ 9223372036854775807
  ab : -9223372036854775808 ≤ x.at_ ∧ x.at_ ≤ 9223372036854775807
  nb : -9223372036854775808 ≤ x.n ∧ x.n ≤ 9223372036854775807
  yb : 0 ≤ x.y ∧ x.y < 256
theorem InRow.keep14 {w w' : World} {A : Option Addr} {n c : Nat} {f : Nat → Int} (h : InRow w A n c f) (k : Bw w w') : InRow w' A n c f := ⟨h.row.keep k, h.le, h.room, h.nil⟩
theorem AcIn.keep {w w' : World} {x : Ac} (h : AcIn w x) (k : Bw w w') : AcIn w' x := ⟨h.row.keep14 k, ⟨h.ints.row.keep k, h.ints.le, h.ints.room⟩, h.db, h.ab, h.nb, h.yb⟩
/-- a list of acts that came in -/
structure InActs (w : World) (A : Option Addr) (n cap : Nat) (X : Nat → Ac) : Prop where
  at_ : n = 0 ∨ ∃ b off, A = some ⟨b, off, none⟩ ∧ ∀ i, i < n → ∀ k v, (X i).vals[k]? = some v → w.cell? ⟨b, off + i * 6 + k, none⟩ = some v
  acts : ∀ i, i < n → AcIn w (X i)
  le : n ≤ cap
  room : cap ≤ 140737488351232
theorem InActs.keep {w w' : World} {A : Option Addr} {n cap : Nat} {X : Nat → Ac} (h : InActs w A n cap X) (k : Bw w w') : InActs w' A n cap X := by
  refine ⟨?_, fun i hi => (h.acts i hi).keep k, h.le, h.room⟩
  rcases h.at_ with h0 | ⟨b, off, e, hc⟩
  · exact .inl h0
  · exact .inr ⟨b, off, e, fun i hi j v hv => by
      have := hc i hi j v hv
      rw [k.cell (p := ⟨b, off + i * 6 + j, none⟩) (block_lt_of_cell this)]
      exact this⟩
theorem weights_in14 {H : Type} (e : TypeId) : ∀ (ds : List (DataW H)) (y : DataW H), y ∈ ds → ∀ u ∈ y.weights Try.prog e, u ∈ DataW.weightsAll Try.prog e ds := by
  intro ds
  induction ds with
  | nil => intro y hy; cases hy
  | cons d0 ds ih =>
    intro y hy u hu
    simp only [DataW.weightsAll, List.mem_append]
    rcases List.mem_cons.1 hy with rfl | hy
    · exact Or.inl hu
    · exact Or.inr (ih y hy u hu)
theorem array6 {cs : Array Value} (h : cs.size = 6) : ∃ a b c d e f, cs = #[a, b, c, d, e, f] := by
  obtain ⟨l⟩ := cs
  match l, h with
  | [a, b, c, d, e, f], _ => exact ⟨a, b, c, d, e, f, rfl⟩
end Go.Proofs.Ytppknadflmjefaa
