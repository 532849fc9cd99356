/- The frame for acts of layer 14, lists of them, rows of whole numbers and of truths that came in. -/
import Derived.Test.YtmmpignjihbbpaaCW
import Derived.Deep.CutRange
import Derived.Lib.SmallJoins
import Derived.Deep.Slices
import Derived.Deep.Grids
import Derived.Deep.SlicePairs
namespace Go.Proofs.Ytmmpignjihbbpaa
open Go.ChangeShapes Go.WideShapes Go.RowKit Go.Deep Go.Joins
set_option linter.unusedVariables false
set_option linter.unusedSimpArgs false

/-- a row of whole numbers that came in -/
structure InInts (w : World) (A : Option Addr) (n cap : Nat) (f : Nat → Int) : Prop where
  row : IntsAt w A n f
  le : n ≤ cap
  room : cap * 8 ≤ 140737488351232
theorem int_of (zs : List Int) (h : ∀ n ∈ zs, (Lit.int .i64 n).wf = true) (i : Nat) : -9223372036854775808 ≤ zs.getD i 0 ∧ zs.getD i 0 ≤ 9223372036854775807 := by
  rcases Nat.lt_or_ge i zs.length with hi | hi
  · have := bounds_i64 (h zs[i] (List.getElem_mem hi))
    rw [List.getD_eq_getElem?_getD, List.getElem?_eq_getElem hi]
    simp only [Option.getD_some]
    omega
  · rw [List.getD_eq_getElem?_getD, List.getElem?_eq_none hi]
    decide
theorem open_introw {H : Type} {enc : TypeId × Value → H} {W : World} {A : Option Addr} {n cap : Nat} {d : DataW H} {p : List MemPlace}
    (h : DataW.Trod enc Try.prog W 0 (fun _ => true) true 34 (.slice A n cap) d p) (hw : ∀ x ∈ d.weights Try.prog 34, x ≤ reachBytes) : ∃ f, InInts W A n cap f := by
  obtain ⟨fuel, hf⟩ := h
  rcases open_ints Try.underlying34 Try.underlying3 (by kernel_rfl) hf with ⟨hcs, _⟩ | ⟨x, l, c, zs, hcs, _, hl, hm, hz, hd, hcell, hwz⟩
  · simp [Value.cells] at hcs
    obtain ⟨rfl, rfl, rfl⟩ := hcs
    exact ⟨fun _ => 0, ⟨Or.inl rfl, fun _ => ⟨show (-9223372036854775808 : Int) ≤ 0 by decide, show (0 : Int) ≤ 9223372036854775807 by decide⟩⟩, Nat.le_refl _, Nat.zero_le _⟩
  · simp [Value.cells] at hcs
    obtain ⟨rfl, rfl, rfl⟩ := hcs
    simp only [Prod.mk.injEq] at hd
    obtain ⟨rfl, _⟩ := hd
    simp only [if_true] at hz
    have hb : Try.prog.bytesOf 3 = 8 := by kernel_rfl
    have hcap : n ≤ cap ∧ cap * 8 ≤ 140737488351232 := by
      have := hw ((zs.take n).length * 8 + (zs.drop n).length * 8) (by
        simp only [DataW.weights, Try.underlying34, hb, lits, List.length_map]
        exact List.mem_cons.2 (Or.inl (by omega)))
      simp only [List.length_take, List.length_drop, reachBytes] at this
      omega
    refine ⟨fun i => zs.getD i 0, ⟨?_, int_of zs hwz⟩, hcap.1, hcap.2⟩
    rcases Nat.eq_zero_or_pos n with h0 | h0
    · exact Or.inl h0
    · obtain ⟨b, off, rfl, hc⟩ := cells_plain (n := zs.length) (V := fun i => .int .i64 (zs.getD i 0)) hcell (by omega)
      exact Or.inr ⟨b, off, rfl, fun i hi => hc i (by omega)⟩
/-- a row of truths that came in -/
structure InBools (w : World) (A : Option Addr) (n cap : Nat) (f : Nat → Bool) : Prop where
  row : n = 0 ∨ ∃ b off, A = some ⟨b, off, none⟩ ∧ ∀ i, i < n → w.cell? ⟨b, off + i, none⟩ = some (.bool (f i))
  le : n ≤ cap
  room : cap ≤ 140737488351232
theorem open_truths {H : Type} {enc : TypeId × Value → H} {W : World} {A : Option Addr} {n cap : Nat} {d : DataW H} {p : List MemPlace}
    (h : DataW.Trod enc Try.prog W 0 (fun _ => true) true 52 (.slice A n cap) d p) (hw : ∀ x ∈ d.weights Try.prog 52, x ≤ reachBytes) : ∃ f, InBools W A n cap f := by
  obtain ⟨fuel, hf⟩ := h
  rcases open_bools Try.underlying52 Try.underlying4 (by kernel_rfl) hf with ⟨hcs, _⟩ | ⟨x, l, c, B, hcs, _, hl, hm, hd, hcell⟩
  · simp [Value.cells] at hcs
    obtain ⟨rfl, rfl, rfl⟩ := hcs
    exact ⟨fun _ => false, Or.inl rfl, Nat.le_refl _, Nat.zero_le _⟩
  · simp [Value.cells] at hcs
    obtain ⟨rfl, rfl, rfl⟩ := hcs
    simp only [Prod.mk.injEq] at hd
    obtain ⟨rfl, _⟩ := hd
    have hb : Try.prog.bytesOf 4 = 1 := by kernel_rfl
    have hcap : cap ≤ 140737488351232 := by
      have := hw ((n + (cap - n)) * 1) (by
        simp only [boolRow, DataW.weights, Try.underlying52, hb, List.length_map, List.length_range]
        exact List.mem_cons.2 (Or.inl rfl))
      simp only [reachBytes] at this
      omega
    refine ⟨B, ?_, hl, hcap⟩
    rcases Nat.eq_zero_or_pos n with h0 | h0
    · exact Or.inl h0
    · obtain ⟨b, off, rfl, hc⟩ := cells_plain (n := cap) (V := fun i => .bool (B i)) hcell (by omega)
      exact Or.inr ⟨b, off, rfl, fun i hi => hc i (by omega)⟩

/-- an act's values -/
structure Ac where
  do_ : Int
  at_ : Int
  n : Int
  B : Option Addr
  L : Nat
  C : Nat
  f : Nat → Int
  F : Option Addr
  m : Nat
  c : Nat
  K : Nat → Int
  y : Int
def Ac.vals (x : Ac) : List Value := [.int .i64 x.do_, .int .i64 x.at_, .int .i64 x.n, .slice x.B x.L x.C, .slice x.F x.m x.c, .int .u8 x.y]
/-- an act that came in -/
structure AcIn (w : World) (x : Ac) : Prop where
  row : InRow w x.B x.L x.C x.f
  ints : InInts w x.F x.m x.c x.K
  db : -9223372036854775808 ≤ x.do_ ∧ x.do_ ≤ 9223372036854775807
  ab : -9223372036854775808 ≤ x.at_ ∧ x.at_ ≤ 9223372036854775807
  nb : -9223372036854775808 ≤ x.n ∧ x.n ≤ 9223372036854775807
  yb : 0 ≤ x.y ∧ x.y < 256
theorem InRow.keep14 {w w' : World} {A : Option Addr} {n c : Nat} {f : Nat → Int} (h : InRow w A n c f) (k : Bw w w') : InRow w' A n c f := ⟨h.row.keep k, h.le, h.room, h.nil⟩
theorem AcIn.keep {w w' : World} {x : Ac} (h : AcIn w x) (k : Bw w w') : AcIn w' x := ⟨h.row.keep14 k, ⟨h.ints.row.keep k, h.ints.le, h.ints.room⟩, h.db, h.ab, h.nb, h.yb⟩
/-- a list of acts that came in -/
structure InActs (w : World) (A : Option Addr) (n cap : Nat) (X : Nat → Ac) : Prop where
  at_ : n = 0 ∨ ∃ b off, A = some ⟨b, off, none⟩ ∧ ∀ i, i < n → ∀ k v, (X i).vals[k]? = some v → w.cell? ⟨b, off + i * 6 + k, none⟩ = some v
  acts : ∀ i, i < n → AcIn w (X i)
  le : n ≤ cap
  room : cap ≤ 140737488351232
theorem InActs.keep {w w' : World} {A : Option Addr} {n cap : Nat} {X : Nat → Ac} (h : InActs w A n cap X) (k : Bw w w') : InActs w' A n cap X := by
  refine ⟨?_, fun i hi => (h.acts i hi).keep k, h.le, h.room⟩
  rcases h.at_ with h0 | ⟨b, off, e, hc⟩
  · exact .inl h0
  · exact .inr ⟨b, off, e, fun i hi j v hv => by
      have := hc i hi j v hv
      rw [k.cell (p := ⟨b, off + i * 6 + j, none⟩) (block_lt_of_cell this)]
      exact this⟩
theorem weights_in14 {H : Type} (e : TypeId) : ∀ (ds : List (DataW H)) (y : DataW H), y ∈ ds → ∀ u ∈ y.weights Try.prog e, u ∈ DataW.weightsAll Try.prog e ds := by
  intro ds
  induction ds with
  | nil => intro y hy; cases hy
  | cons d0 ds ih =>
    intro y hy u hu
    simp only [DataW.weightsAll, List.mem_append]
    rcases List.mem_cons.1 hy with rfl | hy
    · exact Or.inl hu
    · exact Or.inr (ih y hy u hu)
set_option maxRecDepth 100000 in
/-- six values that are read as an act are one -/
theorem act_of {H : Type} {enc : TypeId × Value → H} {W : World} {m : Nat} {v0 v1 v2 v3 v4 v5 : Value} {y0 y1 y2 y3 y4 y5 : DataW H × List MemPlace}
    (g0 : DataW.trod enc Try.prog W 0 (fun _ => true) true m 3 [v0] = some y0) (g1 : DataW.trod enc Try.prog W 0 (fun _ => true) true m 3 [v1] = some y1) (g2 : DataW.trod enc Try.prog W 0 (fun _ => true) true m 3 [v2] = some y2) (g3 : DataW.trod enc Try.prog W 0 (fun _ => true) true m 33 [v3] = some y3)
    (g4 : DataW.trod enc Try.prog W 0 (fun _ => true) true m 34 [v4] = some y4) (g5 : DataW.trod enc Try.prog W 0 (fun _ => true) true m 5 [v5] = some y5)
    (hw : ∀ u, u ∈ (DataW.agg [y0.1, y1.1, y2.1, y3.1, y4.1, y5.1]).weights Try.prog 36 → u ≤ reachBytes) : ∃ x : Ac, [v0, v1, v2, v3, v4, v5] = x.vals ∧ AcIn W x := by
  have hwe : ∀ u, u ∈ DataW.weightsEach Try.prog [3, 3, 3, 33, 34, 5] [y0.1, y1.1, y2.1, y3.1, y4.1, y5.1] → u ≤ reachBytes := fun u hu => hw u (by
    simp only [DataW.weights, Try.underlying36]
    exact hu)
  obtain ⟨z0, e0, x0, k0⟩ := DataW.trod_int Try.underlying3 g0
  obtain ⟨z1, e1, x1, k1⟩ := DataW.trod_int Try.underlying3 g1
  obtain ⟨z2, e2, x2, k2⟩ := DataW.trod_int Try.underlying3 g2
  obtain ⟨B, L, C, e3⟩ := slice_form Try.underlying33 g3
  obtain ⟨F, p, c, e4⟩ := slice_form Try.underlying34 g4
  obtain ⟨y, e5, x5, k5⟩ := DataW.trod_int Try.underlying5 g5
  simp only [List.cons.injEq, and_true] at e0 e1 e2 e3 e4 e5
  subst e0 e1 e2 e3 e4 e5
  obtain ⟨f, hf⟩ := open_bytes (A := B) (n := L) (cap := C) (d := y3.1) (p := y3.2) ⟨m, g3⟩ (fun u hu => hwe u (DataW.weights_mem_each (j := 3) (t := 33) rfl rfl u hu))
  obtain ⟨K, hK⟩ := open_introw (A := F) (n := p) (cap := c) (d := y4.1) (p := y4.2) ⟨m, g4⟩ (fun u hu => hwe u (DataW.weights_mem_each (j := 4) (t := 34) rfl rfl u hu))
  have b0 := bounds_i64 k0
  have b1 := bounds_i64 k1
  have b2 := bounds_i64 k2
  have b5 := bounds_u8 k5
  exact ⟨⟨z0, z1, z2, B, L, C, f, F, p, c, K, y⟩, rfl, hf, hK, ⟨b0.1, by have := b0.2; dsimp only; omega⟩, ⟨b1.1, by have := b1.2; dsimp only; omega⟩, ⟨b2.1, by have := b2.2; dsimp only; omega⟩, ⟨b5.1, by have := b5.2; dsimp only; omega⟩⟩
theorem array6 {cs : Array Value} (h : cs.size = 6) : ∃ a b c d e f, cs = #[a, b, c, d, e, f] := by
  obtain ⟨l⟩ := cs
  match l, h with
  | [a, b, c, d, e, f], _ => exact ⟨a, b, c, d, e, f, rfl⟩
set_option maxRecDepth 100000 in
theorem open_act {H : Type} {enc : TypeId × Value → H} {W : World} {b0 : Nat} {v : Value} {d : DataW H} {p : List MemPlace} (hval : Value.okWide Try.prog W .any b0 36 v)
    (h : DataW.Trod enc Try.prog W 0 (fun _ => true) true 36 v d p) (hw : ∀ x ∈ d.weights Try.prog 36, x ≤ reachBytes) :
    ∃ x : Ac, v = .agg (Ac.vals x).toArray ∧ AcIn W x := by
  obtain ⟨cs, rfl, hsz⟩ := okWide_struct Try.underlying36 hval
  obtain ⟨c0, c1, c2, c3, c4, c5, rfl⟩ := array6 (hsz.trans (by kernel_rfl))
  obtain ⟨fuel, hf⟩ := h
  obtain ⟨xs, n, _, hdp, hl, hlen, hx⟩ := DataW.trod_struct Try.underlying36 hf
  rw [Prod.mk.injEq] at hdp
  obtain ⟨rfl, rfl⟩ := hdp
  match xs, hlen with
  | [x0, x1, x2, x3, x4, x5], _ =>
    have cI : Try.prog.cellsOf 3 = 1 := by kernel_rfl
    have cU : Try.prog.cellsOf 33 = 1 := by kernel_rfl
    have cN : Try.prog.cellsOf 34 = 1 := by kernel_rfl
    have cB : Try.prog.cellsOf 5 = 1 := by kernel_rfl
    have h0 := hx 0 _ rfl
    have h1 := hx 1 _ rfl
    have h2 := hx 2 _ rfl
    have h3 := hx 3 _ rfl
    have h4 := hx 4 _ rfl
    have h5 := hx 5 _ rfl
    simp [cI, cU, cN, cB, Value.cells] at h0 h1 h2 h3 h4 h5
    obtain ⟨y, hy, hb⟩ := act_of h0 h1 h2 h3 h4 h5 (fun u hu => hw u hu)
    exact ⟨y, by rw [← hy], hb⟩
set_option maxRecDepth 100000 in
theorem open_acts {H : Type} {enc : TypeId × Value → H} {W : World} {A : Option Addr} {n cap : Nat} {d : DataW H} {p : List MemPlace}
    (h : DataW.Trod enc Try.prog W 0 (fun _ => true) true 22 (.slice A n cap) d p) (hw : ∀ x ∈ d.weights Try.prog 22, x ≤ reachBytes) : ∃ X, InActs W A n cap X := by
  obtain ⟨fuel, hf⟩ := h
  rcases open_slice Try.underlying22 hf with ⟨hcs, _⟩ | ⟨a, l, c, m, q, D, Pl, hcs, _, hl, hm, hmm, hd, hcell⟩
  · simp [Value.cells] at hcs
    obtain ⟨rfl, rfl, rfl⟩ := hcs
    exact ⟨fun _ => ⟨0, 0, 0, none, 0, 0, fun _ => 0, none, 0, 0, fun _ => 0, 0⟩, .inl rfl, fun i hi => by omega, Nat.le_refl _, by decide⟩
  · simp [Value.cells] at hcs
    obtain ⟨rfl, rfl, rfl⟩ := hcs
    simp only [if_true] at hmm
    obtain rfl := hmm.symm
    simp only [Prod.mk.injEq] at hd
    obtain ⟨rfl, _⟩ := hd
    have hb2 : Try.prog.bytesOf 36 = 80 := by kernel_rfl
    have hcap : cap * 80 ≤ 140737488351232 := by
      have := hw ((n + (cap - n)) * 80) (by
        simp only [DataW.weights, Try.underlying22, hb2, List.length_map, List.length_range]
        exact List.mem_cons_self)
      simp only [reachBytes] at this
      omega
    have hel : ∀ i, i < n → ∃ y : Ac, (∀ k v, y.vals[k]? = some v → W.cell? ((a.add (i * 6)).add k) = some v) ∧ AcIn W y := fun i hi => by
      obtain ⟨cs', h1, h2⟩ := hcell i (by omega)
      rw [show Try.prog.cellsOf 36 = 6 by kernel_rfl] at h1
      obtain ⟨_, hlen, hc⟩ := World.cells?_some h1
      obtain ⟨xs, n', _, hdp, hl', hlen', hx⟩ := DataW.trod_struct Try.underlying36 h2
      rw [Prod.mk.injEq] at hdp
      have hwi : ∀ u, u ∈ (D i).weights Try.prog 36 → u ≤ reachBytes := fun u hu => hw u (by
        simp only [DataW.weights, Try.underlying22]
        refine List.mem_cons.2 (Or.inr (List.mem_append.2 (Or.inl ?_)))
        exact weights_in14 _ _ (D i) (List.mem_map.2 ⟨i, List.mem_range.2 hi, rfl⟩) _ hu)
      match xs, hlen', cs', hlen with
      | [x0, x1, x2, x3, x4, x5], _, [v0, v1, v2, v3, v4, v5], _ =>
        have cI : Try.prog.cellsOf 3 = 1 := by kernel_rfl
        have cU : Try.prog.cellsOf 33 = 1 := by kernel_rfl
        have cN : Try.prog.cellsOf 34 = 1 := by kernel_rfl
        have cB : Try.prog.cellsOf 5 = 1 := by kernel_rfl
        have h0 := hx 0 _ rfl
        have h1 := hx 1 _ rfl
        have h2 := hx 2 _ rfl
        have h3 := hx 3 _ rfl
        have h4 := hx 4 _ rfl
        have h5 := hx 5 _ rfl
        simp [cI, cU, cN, cB] at h0 h1 h2 h3 h4 h5
        obtain ⟨y, hy, hb⟩ := act_of h0 h1 h2 h3 h4 h5 (fun u hu => hwi u (by rw [hdp.1]; exact hu))
        refine ⟨y, fun k v hv => ?_, hb⟩
        rw [← hy] at hv
        have hk := (List.getElem?_eq_some_iff.1 hv).1
        have := hc k (by simpa using hk)
        rw [this]; simpa using hv
    refine ⟨fun i => if h : i < n then (hel i h).choose else ⟨0, 0, 0, none, 0, 0, fun _ => 0, none, 0, 0, fun _ => 0, 0⟩, ?_, fun i hi => ?_, hl, by omega⟩
    · rcases Nat.eq_zero_or_pos n with h0 | h0
      · exact .inl h0
      · obtain ⟨b, off, spot⟩ := a
        have hspot : spot = none := by
          obtain ⟨y, hc, -⟩ := hel 0 h0
          have := hc 0 _ rfl
          simpa [Addr.add] using World.cell?_spot this
        subst hspot
        refine Or.inr ⟨b, off, rfl, fun i hi k v hv => ?_⟩
        simp only [dif_pos hi] at hv
        have := (hel i hi).choose_spec.1 k v hv
        rwa [Addr.add_lit, Addr.add_lit] at this
    · simp only [dif_pos hi]
      exact (hel i hi).choose_spec.2
end Go.Proofs.Ytmmpignjihbbpaa
