/- Layer 15: what a call is told of records, of a run and of acts that came in. -/
import Derived.Test.YtppknadflmjefaaWS
import Derived.Test.YtppknadflmjefaaFa
namespace Go.Proofs.Ytppknadflmjefaa
open Go.ChangeShapes Go.WideShapes Go.RowKit Go.Deep Go.Joins
set_option linter.unusedVariables false
set_option linter.unusedSimpArgs false

def MatAt (w : World) (A : Option Addr) (n : Nat) (R : Nat → Option Addr) (L C : Nat → Nat) (Z : Nat → Nat → Int) : Prop :=
  (n = 0 ∨ ∃ b off, A = some ⟨b, off, none⟩ ∧ ∀ i, i < n → w.cell? ⟨b, off + i, none⟩ = some (.slice (R i) (L i) (C i))) ∧ ∀ r, r < n → RowAt w (R r) (L r) (Z r)
/-- a matrix that came in -/
structure InMat (w : World) (A : Option Addr) (n cap : Nat) (R : Nat → Option Addr) (L C : Nat → Nat) (Z : Nat → Nat → Int) : Prop where
  mat : MatAt w A n R L C Z
  le : n ≤ cap
  room : cap * 24 ≤ 140737488351232
  rows : ∀ r, r < n → L r ≤ C r ∧ C r ≤ 140737488351232 ∧ (R r = none → C r = 0)
  nil : A = none → cap = 0
theorem open_rows {H : Type} {enc : TypeId × Value → H} {W : World} {A : Option Addr} {n cap : Nat} {d : DataW H} {p : List MemPlace}
    (h : DataW.Trod enc Try.prog W 0 (fun _ => true) true 42 (.slice A n cap) d p) (hw : ∀ x ∈ d.weights Try.prog 42, x ≤ reachBytes) : ∃ R L C Z, InMat W A n cap R L C Z := by
  obtain ⟨fuel, hf⟩ := h
  rcases open_int_rows Try.underlying42 Try.underlying37 Try.underlying5 (by kernel_rfl) (by kernel_rfl) hf with ⟨hcs, _⟩ | ⟨x, l, c, R, L, C, Z, hcs, _, hl, hm, hd, hcell⟩
  · simp [Value.cells] at hcs
    obtain ⟨rfl, rfl, rfl⟩ := hcs
    exact ⟨fun _ => none, fun _ => 0, fun _ => 0, fun _ _ => 0, ⟨Or.inl rfl, fun r hr => by omega⟩, Nat.le_refl _, Nat.zero_le _, fun r hr => by omega, fun _ => rfl⟩
  · simp [Value.cells] at hcs
    obtain ⟨rfl, rfl, rfl⟩ := hcs
    simp only [Prod.mk.injEq] at hd
    obtain ⟨rfl, _⟩ := hd
    have hb : Try.prog.bytesOf 5 = 1 := by kernel_rfl
    have hb2 : Try.prog.bytesOf 37 = 24 := by kernel_rfl
    have hcap : cap * 24 ≤ 140737488351232 := by
      have := hw ((n + (cap - n)) * 24) (by
        simp only [DataW.weights, Try.underlying42, hb2, List.length_map, List.length_range]
        exact List.mem_cons_self)
      simp only [reachBytes] at this
      omega
    have hin : ∀ (e : TypeId) (ds : List (DataW H)) (y : DataW H), y ∈ ds → ∀ u ∈ y.weights Try.prog e, u ∈ DataW.weightsAll Try.prog e ds := by
      intro e ds
      induction ds with
      | nil => intro y hy; cases hy
      | cons d0 ds ih =>
        intro y hy u hu
        simp only [DataW.weightsAll, List.mem_append]
        rcases List.mem_cons.1 hy with rfl | hy
        · exact Or.inl hu
        · exact Or.inr (ih y hy u hu)
    have hrow : ∀ r, r < n → C r ≤ 140737488351232 := fun r hr => by
      obtain ⟨_, hLC, _, hZ, _, hnil, _⟩ := hcell r (by omega)
      cases hR : R r with
      | none => rw [hnil hR]; omega
      | some a' =>
        have := hw (((Z r).take (L r)).length * 1 + ((Z r).drop (L r)).length * 1) (by
          simp only [DataW.weights, Try.underlying42]
          refine List.mem_cons.2 (Or.inr (List.mem_append.2 (Or.inl ?_)))
          refine hin _ _ (intRow .u8 (R r) (L r) (Z r)) (List.mem_map.2 ⟨r, List.mem_range.2 hr, rfl⟩) _ ?_
          simp only [intRow, hR, DataW.weights, Try.underlying37, hb, lits, List.length_map]
          exact List.mem_cons.2 (Or.inl (by omega)))
        simp only [List.length_take, List.length_drop, reachBytes] at this
        omega
    refine ⟨R, L, C, fun r i => (Z r).getD i 0, ⟨?_, fun r hr => ?_⟩, hl, hcap, fun r hr => ?_, fun e => by cases e⟩
    · rcases Nat.eq_zero_or_pos n with h0 | h0
      · exact Or.inl h0
      · obtain ⟨b, off, rfl, hc⟩ := cells_plain (n := cap) (V := fun r => .slice (R r) (L r) (C r)) (fun i hi => (hcell i hi).1) (by omega)
        exact Or.inr ⟨b, off, rfl, fun i hi => hc i (by omega)⟩
    · obtain ⟨_, hLC, _, hZ, hwz, hnil, hc⟩ := hcell r (by omega)
      refine ⟨?_, byte_of (Z r) hwz⟩
      rcases Nat.eq_zero_or_pos (L r) with h0 | h0
      · exact Or.inl h0
      · cases hR : R r with
        | none => have := hnil hR; omega
        | some a' =>
          obtain ⟨b, off, rfl, hc'⟩ := cells_plain (n := C r) (V := fun i => .int .u8 ((Z r).getD i 0)) ((hc a' hR).2) (by omega)
          exact Or.inr ⟨b, off, rfl, fun i hi => hc' i (by omega)⟩
    · obtain ⟨_, hLC, _, hZ, hwz, hnil, hc⟩ := hcell r (by omega)
      exact ⟨hLC, hrow r hr, hnil⟩
/-- its values, and its records -/
def vals15 (n : Nat) (R : Nat → Option Addr) (L C : Nat → Nat) : List Value := (List.range n).map fun r => .slice (R r) (L r) (C r)
def recs15 (n : Nat) (L : Nat → Nat) (Z : Nat → Nat → Int) : List (List Nat) := (List.range n).map fun r => Jl.data (Z r) (L r)
theorem InMat.matV {w : World} {A : Option Addr} {n cap : Nat} {R : Nat → Option Addr} {L C : Nat → Nat} {Z : Nat → Nat → Int} (h : InMat w A n cap R L C Z) : MatV w A n (vals15 n R L C) (recs15 n L Z) := by
  refine ⟨by simp [vals15], ?_, by simp [vals15, recs15], fun i v l hv hl => ?_⟩
  · rcases h.mat.1 with h0 | ⟨b, off, e, hc⟩
    · exact .inl h0
    · refine .inr ⟨b, off, e, fun i v hv => ?_⟩
      unfold vals15 at hv
      rw [List.getElem?_map] at hv
      obtain ⟨j, hj, rfl⟩ := Option.map_eq_some_iff.1 hv
      obtain ⟨hi, rfl⟩ := List.getElem?_eq_some_iff.1 hj
      simp only [List.length_range] at hi
      rw [List.getElem_range]
      exact hc i hi
  · unfold vals15 at hv
    unfold recs15 at hl
    rw [List.getElem?_map] at hv hl
    obtain ⟨j, hj, rfl⟩ := Option.map_eq_some_iff.1 hv
    obtain ⟨j', hj', rfl⟩ := Option.map_eq_some_iff.1 hl
    rw [hj] at hj'
    cases hj'
    obtain ⟨hi, rfl⟩ := List.getElem?_eq_some_iff.1 hj
    simp only [List.length_range] at hi
    rw [List.getElem_range]
    have hr := h.mat.2 i hi
    have hs := h.rows i hi
    refine ⟨R i, C i, by rw [Jl.data_len], by rw [Jl.data_len]; exact hs.1, hs.2.2, by rw [Jl.data_len]; omega, ?_⟩
    rw [Jl.data_len]
    refine ⟨?_, Jl.rowL_bd (Jl.data_byt hr.2 _)⟩
    rcases hr.1 with h0 | ⟨b', o', e', hc'⟩
    · exact .inl h0
    · exact .inr ⟨b', o', e', fun k hk => by rw [hc' k hk, Jl.rowL_data _ (fun i => (hr.2 i).1) hk]⟩
theorem InMat.keep {w w' : World} {A : Option Addr} {n cap : Nat} {R : Nat → Option Addr} {L C : Nat → Nat} {Z : Nat → Nat → Int} (h : InMat w A n cap R L C Z) (k : Bw w w') : InMat w' A n cap R L C Z := by
  refine ⟨⟨?_, fun r hr => (h.mat.2 r hr).keep k⟩, h.le, h.room, h.rows, h.nil⟩
  rcases h.mat.1 with h0 | ⟨b, off, e, hc⟩
  · exact .inl h0
  · exact .inr ⟨b, off, e, fun i hi => (k.cell (p := ⟨b, off + i, none⟩) (block_lt_of_cell (hc i hi))).trans (hc i hi)⟩
theorem InMat.low {w : World} {A : Option Addr} {n cap : Nat} {R : Nat → Option Addr} {L C : Nat → Nat} {Z : Nat → Nat → Int} (h : InMat w A n cap R L C Z) {b : Nat} (hb : ArgIn A n (vals15 n R L C) b) : b < w.heap.size := by
  rcases hb with ⟨o, e, h0⟩ | ⟨u, hu, o, m, c, e, h0⟩
  · exact h.matV.low e h0
  · exact h.matV.rows.low u hu b o m c e h0
/-- an act's values -/
structure Ac15 where
  do_ : Int
  n_ : Int
  at_ : Int
  A : Option Addr
  n : Nat
  ca : Nat
  R : Nat → Option Addr
  Lm : Nat → Nat
  Cm : Nat → Nat
  Z : Nat → Nat → Int
  F : Option Addr
  m : Nat
  c : Nat
  K : Nat → Int
  B : Option Addr
  Lr : Nat
  Cr : Nat
  f : Nat → Int
def Ac15.no : Ac15 := ⟨0, 0, 0, none, 0, 0, fun _ => none, fun _ => 0, fun _ => 0, fun _ _ => 0, none, 0, 0, fun _ => 0, none, 0, 0, fun _ => 0⟩
def Ac15.vals (x : Ac15) : List Value := [.int .i64 x.do_, .int .i64 x.n_, .int .i64 x.at_, .slice x.A x.n x.ca, .slice x.F x.m x.c, .slice x.B x.Lr x.Cr]
/-- an act that came in -/
structure AcIn15 (w : World) (x : Ac15) : Prop where
  mat : InMat w x.A x.n x.ca x.R x.Lm x.Cm x.Z
  ints : InInts w x.F x.m x.c x.K
  row : InRow w x.B x.Lr x.Cr x.f
  db : -9223372036854775808 ≤ x.do_ ∧ x.do_ ≤ 9223372036854775807
  nb : -9223372036854775808 ≤ x.n_ ∧ x.n_ ≤ 9223372036854775807
  ab : -9223372036854775808 ≤ x.at_ ∧ x.at_ ≤ 9223372036854775807
theorem AcIn15.keep {w w' : World} {x : Ac15} (h : AcIn15 w x) (k : Bw w w') : AcIn15 w' x := ⟨h.mat.keep k, ⟨h.ints.row.keep k, h.ints.le, h.ints.room⟩, h.row.keep14 k, h.db, h.nb, h.ab⟩
/-- a list of acts that came in -/
structure InActs15 (w : World) (A : Option Addr) (n cap : Nat) (X : Nat → Ac15) : Prop where
  at_ : n = 0 ∨ ∃ b off, A = some ⟨b, off, none⟩ ∧ ∀ i, i < n → ∀ k v, (X i).vals[k]? = some v → w.cell? ⟨b, off + i * 6 + k, none⟩ = some v
  acts : ∀ i, i < n → AcIn15 w (X i)
  le : n ≤ cap
  room : cap ≤ 140737488351232
theorem InActs15.keep {w w' : World} {A : Option Addr} {n cap : Nat} {X : Nat → Ac15} (h : InActs15 w A n cap X) (k : Bw w w') : InActs15 w' A n cap X := by
  refine ⟨?_, fun i hi => (h.acts i hi).keep k, h.le, h.room⟩
  rcases h.at_ with h0 | ⟨b, off, e, hc⟩
  · exact .inl h0
  · exact .inr ⟨b, off, e, fun i hi j v hv => by
      have := hc i hi j v hv
      rw [k.cell (p := ⟨b, off + i * 6 + j, none⟩) (block_lt_of_cell this)]
      exact this⟩
set_option maxRecDepth 100000 in
/-- six values that are read as an act are one -/
theorem act15_of {H : Type} {enc : TypeId × Value → H} {W : World} {m : Nat} {v0 v1 v2 v3 v4 v5 : Value} {y0 y1 y2 y3 y4 y5 : DataW H × List MemPlace}
    (g0 : DataW.trod enc Try.prog W 0 (fun _ => true) true m 3 [v0] = some y0) (g1 : DataW.trod enc Try.prog W 0 (fun _ => true) true m 3 [v1] = some y1) (g2 : DataW.trod enc Try.prog W 0 (fun _ => true) true m 3 [v2] = some y2) (g3 : DataW.trod enc Try.prog W 0 (fun _ => true) true m 42 [v3] = some y3)
    (g4 : DataW.trod enc Try.prog W 0 (fun _ => true) true m 36 [v4] = some y4) (g5 : DataW.trod enc Try.prog W 0 (fun _ => true) true m 37 [v5] = some y5)
    (hw : ∀ u, u ∈ (DataW.agg [y0.1, y1.1, y2.1, y3.1, y4.1, y5.1]).weights Try.prog 44 → u ≤ reachBytes) : ∃ x : Ac15, [v0, v1, v2, v3, v4, v5] = x.vals ∧ AcIn15 W x := by
  have hwe : ∀ u, u ∈ DataW.weightsEach Try.prog [3, 3, 3, 42, 36, 37] [y0.1, y1.1, y2.1, y3.1, y4.1, y5.1] → u ≤ reachBytes := fun u hu => hw u (by
    simp only [DataW.weights, Try.underlying44]
    exact hu)
  obtain ⟨z0, e0, x0, k0⟩ := DataW.trod_int Try.underlying3 g0
  obtain ⟨z1, e1, x1, k1⟩ := DataW.trod_int Try.underlying3 g1
  obtain ⟨z2, e2, x2, k2⟩ := DataW.trod_int Try.underlying3 g2
  obtain ⟨A, n, ca, e3⟩ := slice_form Try.underlying42 g3
  obtain ⟨F, p, c, e4⟩ := slice_form Try.underlying36 g4
  obtain ⟨B, Lr, Cr, e5⟩ := slice_form Try.underlying37 g5
  simp only [List.cons.injEq, and_true] at e0 e1 e2 e3 e4 e5
  subst e0 e1 e2 e3 e4 e5
  obtain ⟨R, Lm, Cm, Z, hM⟩ := open_rows (A := A) (n := n) (cap := ca) (d := y3.1) (p := y3.2) ⟨m, g3⟩ (fun u hu => hwe u (DataW.weights_mem_each (j := 3) (t := 42) rfl rfl u hu))
  obtain ⟨f, hf⟩ := open_bytes (A := B) (n := Lr) (cap := Cr) (d := y5.1) (p := y5.2) ⟨m, g5⟩ (fun u hu => hwe u (DataW.weights_mem_each (j := 5) (t := 37) rfl rfl u hu))
  obtain ⟨K, hK⟩ := open_introw (A := F) (n := p) (cap := c) (d := y4.1) (p := y4.2) ⟨m, g4⟩ (fun u hu => hwe u (DataW.weights_mem_each (j := 4) (t := 36) rfl rfl u hu))
  have b0 := bounds_i64 k0
  have b1 := bounds_i64 k1
  have b2 := bounds_i64 k2
  exact ⟨⟨z0, z1, z2, A, n, ca, R, Lm, Cm, Z, F, p, c, K, B, Lr, Cr, f⟩, rfl, hM, hK, hf, ⟨b0.1, by have := b0.2; dsimp only; omega⟩, ⟨b1.1, by have := b1.2; dsimp only; omega⟩, ⟨b2.1, by have := b2.2; dsimp only; omega⟩⟩
set_option maxRecDepth 100000 in
theorem open_act15 {H : Type} {enc : TypeId × Value → H} {W : World} {b0 : Nat} {v : Value} {d : DataW H} {p : List MemPlace} (hval : Value.okWide Try.prog W .any b0 44 v)
    (h : DataW.Trod enc Try.prog W 0 (fun _ => true) true 44 v d p) (hw : ∀ x ∈ d.weights Try.prog 44, x ≤ reachBytes) :
    ∃ x : Ac15, v = .agg (Ac15.vals x).toArray ∧ AcIn15 W x := by
  obtain ⟨cs, rfl, hsz⟩ := okWide_struct Try.underlying44 hval
  obtain ⟨c0, c1, c2, c3, c4, c5, rfl⟩ := array6 (hsz.trans (by kernel_rfl))
  obtain ⟨fuel, hf⟩ := h
  obtain ⟨xs, n, _, hdp, hl, hlen, hx⟩ := DataW.trod_struct Try.underlying44 hf
  rw [Prod.mk.injEq] at hdp
  obtain ⟨rfl, rfl⟩ := hdp
  match xs, hlen with
  | [x0, x1, x2, x3, x4, x5], _ =>
    have cI : Try.prog.cellsOf 3 = 1 := by kernel_rfl
    have cU : Try.prog.cellsOf 37 = 1 := by kernel_rfl
    have cN : Try.prog.cellsOf 36 = 1 := by kernel_rfl
    have cB : Try.prog.cellsOf 42 = 1 := by kernel_rfl
    have h0 := hx 0 _ rfl
    have h1 := hx 1 _ rfl
    have h2 := hx 2 _ rfl
    have h3 := hx 3 _ rfl
    have h4 := hx 4 _ rfl
    have h5 := hx 5 _ rfl
    simp [cI, cU, cN, cB, Value.cells] at h0 h1 h2 h3 h4 h5
    obtain ⟨y, hy, hb⟩ := act15_of h0 h1 h2 h3 h4 h5 (fun u hu => hw u hu)
    exact ⟨y, by rw [← hy], hb⟩
set_option maxRecDepth 100000 in
theorem open_acts15 {H : Type} {enc : TypeId × Value → H} {W : World} {A : Option Addr} {n cap : Nat} {d : DataW H} {p : List MemPlace}
    (h : DataW.Trod enc Try.prog W 0 (fun _ => true) true 24 (.slice A n cap) d p) (hw : ∀ x ∈ d.weights Try.prog 24, x ≤ reachBytes) : ∃ X, InActs15 W A n cap X := by
  obtain ⟨fuel, hf⟩ := h
  rcases open_slice Try.underlying24 hf with ⟨hcs, _⟩ | ⟨a, l, c, m, q, D, Pl, hcs, _, hl, hm, hmm, hd, hcell⟩
  · simp [Value.cells] at hcs
    obtain ⟨rfl, rfl, rfl⟩ := hcs
    exact ⟨fun _ => Ac15.no, .inl rfl, fun i hi => by omega, Nat.le_refl _, by decide⟩
  · simp [Value.cells] at hcs
    obtain ⟨rfl, rfl, rfl⟩ := hcs
    simp only [if_true] at hmm
    obtain rfl := hmm.symm
    simp only [Prod.mk.injEq] at hd
    obtain ⟨rfl, _⟩ := hd
    have hb2 : Try.prog.bytesOf 44 = 96 := by kernel_rfl
    have hcap : cap * 96 ≤ 140737488351232 := by
      have := hw ((n + (cap - n)) * 96) (by
        simp only [DataW.weights, Try.underlying24, hb2, List.length_map, List.length_range]
        exact List.mem_cons_self)
      simp only [reachBytes] at this
      omega
    have hel : ∀ i, i < n → ∃ y : Ac15, (∀ k v, y.vals[k]? = some v → W.cell? ((a.add (i * 6)).add k) = some v) ∧ AcIn15 W y := fun i hi => by
      obtain ⟨cs', h1, h2⟩ := hcell i (by omega)
      rw [show Try.prog.cellsOf 44 = 6 by kernel_rfl] at h1
      obtain ⟨_, hlen, hc⟩ := World.cells?_some h1
      obtain ⟨xs, n', _, hdp, hl', hlen', hx⟩ := DataW.trod_struct Try.underlying44 h2
      rw [Prod.mk.injEq] at hdp
      have hwi : ∀ u, u ∈ (D i).weights Try.prog 44 → u ≤ reachBytes := fun u hu => hw u (by
        simp only [DataW.weights, Try.underlying24]
        refine List.mem_cons.2 (Or.inr (List.mem_append.2 (Or.inl ?_)))
        exact weights_in14 _ _ (D i) (List.mem_map.2 ⟨i, List.mem_range.2 hi, rfl⟩) _ hu)
      match xs, hlen', cs', hlen with
      | [x0, x1, x2, x3, x4, x5], _, [v0, v1, v2, v3, v4, v5], _ =>
        have cI : Try.prog.cellsOf 3 = 1 := by kernel_rfl
        have cU : Try.prog.cellsOf 37 = 1 := by kernel_rfl
        have cN : Try.prog.cellsOf 36 = 1 := by kernel_rfl
        have cB : Try.prog.cellsOf 42 = 1 := by kernel_rfl
        have h0 := hx 0 _ rfl
        have h1 := hx 1 _ rfl
        have h2 := hx 2 _ rfl
        have h3 := hx 3 _ rfl
        have h4 := hx 4 _ rfl
        have h5 := hx 5 _ rfl
        simp [cI, cU, cN, cB] at h0 h1 h2 h3 h4 h5
        obtain ⟨y, hy, hb⟩ := act15_of h0 h1 h2 h3 h4 h5 (fun u hu => hwi u (by rw [hdp.1]; exact hu))
        refine ⟨y, fun k v hv => ?_, hb⟩
        rw [← hy] at hv
        have hk := (List.getElem?_eq_some_iff.1 hv).1
        have := hc k (by simpa using hk)
        rw [this]; simpa using hv
    refine ⟨fun i => if h : i < n then (hel i h).choose else Ac15.no, ?_, fun i hi => ?_, hl, by omega⟩
    · rcases Nat.eq_zero_or_pos n with h0 | h0
      · exact .inl h0
      · obtain ⟨b, off, spot⟩ := a
        have hspot : spot = none := by
          obtain ⟨y, hc, -⟩ := hel 0 h0
          have := hc 0 _ rfl
          simpa [Addr.add] using World.cell?_spot this
        subst hspot
        refine Or.inr ⟨b, off, rfl, fun i hi k v hv => ?_⟩
        simp only [dif_pos hi] at hv
        have := (hel i hi).choose_spec.1 k v hv
        rwa [Addr.add_lit, Addr.add_lit] at this
    · simp only [dif_pos hi]
      exact (hel i hi).choose_spec.2
set_option maxRecDepth 100000 in
theorem open_run15 {H : Type} {enc : TypeId × Value → H} {W : World} {b0 : Nat} {v : Value} {d : DataW H} {p : List MemPlace} (hval : Value.okWide Try.prog W .any b0 23 v)
    (h : DataW.Trod enc Try.prog W 0 (fun _ => true) true 23 v d p) :
    ∃ x y : Int, v = .agg #[.int .i64 x, .int .i64 y] ∧ (-9223372036854775808 ≤ x ∧ x < 9223372036854775808) ∧ (-9223372036854775808 ≤ y ∧ y < 9223372036854775808) := by
  obtain ⟨cs, rfl, hsz⟩ := okWide_struct Try.underlying23 hval
  have hsz2 : cs.size = 2 := hsz.trans (by kernel_rfl)
  obtain ⟨c0, c1, rfl⟩ : ∃ a b, cs = #[a, b] := by
    obtain ⟨l⟩ := cs
    match l, hsz2 with
    | [a, b], _ => exact ⟨a, b, rfl⟩
  obtain ⟨fuel, hf⟩ := h
  obtain ⟨xs, n, _, hdp, hl, hlen, hx⟩ := DataW.trod_struct Try.underlying23 hf
  match xs, hlen with
  | [x0, x1], _ =>
    have cI : Try.prog.cellsOf 3 = 1 := by kernel_rfl
    have h0 := hx 0 _ rfl
    have h1 := hx 1 _ rfl
    simp [cI, Value.cells] at h0 h1
    obtain ⟨z0, e0, _, k0⟩ := DataW.trod_int Try.underlying3 h0
    obtain ⟨z1, e1, _, k1⟩ := DataW.trod_int Try.underlying3 h1
    simp only [List.cons.injEq, and_true] at e0 e1
    subst e0 e1
    have b0 := bounds_i64 k0
    have b1 := bounds_i64 k1
    exact ⟨z0, z1, rfl, ⟨b0.1, by have := b0.2; omega⟩, ⟨b1.1, by have := b1.2; omega⟩⟩
end Go.Proofs.Ytppknadflmjefaa
