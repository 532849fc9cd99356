/- What a call is told of rows of whole numbers that came in, for layers that stand on no field. -/
import Derived.Test.YtcpapaceggnaoaaDoorEE
namespace Go.Proofs.YtcpapaceggnaoaaDoor
open Go.ChangeShapes Go.WideShapes Go.RowKit Go.Deep

/-- a row of whole numbers -/
def IntsAt (w : World) (A : Option Addr) (L : Nat) (f : Nat → Int) : Prop :=
  L = 0 ∨ ∃ b off, A = some ⟨b, off, none⟩ ∧ ∀ i, i < L → w.cell? ⟨b, off + i, none⟩ = some (.int .i64 (f i))

theorem IntsAt.keep {w w' : World} {A : Option Addr} {L : Nat} {f : Nat → Int} (h : IntsAt w A L f) (g : Bw w w') : IntsAt w' A L f := by
  rcases h with h0 | ⟨b, off, hA, hc⟩
  · exact Or.inl h0
  · refine Or.inr ⟨b, off, hA, fun i hi => ?_⟩
    have := hc i hi
    rw [g.cell (p := ⟨b, off + i, none⟩) (block_lt_of_cell this)]
    exact this

/-- a row of whole numbers that came in -/
structure InInts (w : World) (A : Option Addr) (n cap : Nat) (f : Nat → Int) : Prop where
  row : IntsAt w A n f
  le : n ≤ cap
  room : cap * 8 ≤ 140737488351232
  nil : A = none → cap = 0
  bd : ∀ i, -9223372036854775808 ≤ f i ∧ f i ≤ 9223372036854775807

theorem int_of (zs : List Int) (h : ∀ n ∈ zs, (Lit.int .i64 n).wf = true) (i : Nat) : -9223372036854775808 ≤ zs.getD i 0 ∧ zs.getD i 0 ≤ 9223372036854775807 := by
  rcases Nat.lt_or_ge i zs.length with hi | hi
  · have := bounds_i64 (h zs[i] (List.getElem_mem hi))
    rw [List.getD_eq_getElem?_getD, List.getElem?_eq_getElem hi]
    simp only [Option.getD_some]
    omega
  · rw [List.getD_eq_getElem?_getD, List.getElem?_eq_none hi]
    decide

theorem open_introw {H : Type} {enc : TypeId × Value → H} {W : World} {A : Option Addr} {n cap : Nat} {d : DataW H} {p : List MemPlace}
    (h : DataW.Trod enc Tryd.prog W 0 (fun _ => true) true 38 (.slice A n cap) d p) (hw : ∀ x ∈ d.weights Tryd.prog 38, x ≤ reachBytes) : ∃ f, InInts W A n cap f := by
  obtain ⟨fuel, hf⟩ := h
  rcases open_ints Tryd.underlying38 Tryd.underlying3 (by kernel_rfl) hf with ⟨hcs, _⟩ | ⟨x, l, c, zs, hcs, _, hl, hm, hz, hd, hcell, hwz⟩
  · simp [Value.cells] at hcs
    obtain ⟨rfl, rfl, rfl⟩ := hcs
    exact ⟨fun _ => 0, Or.inl rfl, Nat.le_refl _, Nat.zero_le _, fun _ => rfl, fun _ => by decide⟩
  · simp [Value.cells] at hcs
    obtain ⟨rfl, rfl, rfl⟩ := hcs
    simp only [Prod.mk.injEq] at hd
    obtain ⟨rfl, _⟩ := hd
    simp only [if_true] at hz
    have hb : Tryd.prog.bytesOf 3 = 8 := by kernel_rfl
    have hcap : n ≤ cap ∧ cap * 8 ≤ 140737488351232 := by
      have := hw ((zs.take n).length * 8 + (zs.drop n).length * 8) (by
        simp only [DataW.weights, Tryd.underlying38, hb, lits, List.length_map]
        exact List.mem_cons.2 (Or.inl (by omega)))
      simp only [List.length_take, List.length_drop, reachBytes] at this
      omega
    refine ⟨fun i => zs.getD i 0, ?_, hcap.1, hcap.2, fun e => (by cases e), int_of zs hwz⟩
    rcases Nat.eq_zero_or_pos n with h0 | h0
    · exact Or.inl h0
    · obtain ⟨b, off, rfl, hc⟩ := cells_plain (n := zs.length) (V := fun i => .int .i64 (zs.getD i 0)) hcell (by omega)
      exact Or.inr ⟨b, off, rfl, fun i hi => hc i (by omega)⟩

end Go.Proofs.YtcpapaceggnaoaaDoor
