/- Layer 19: an act, and a list of acts, that came in. -/
import Derived.Test.YtjjnbpbbjaabeaaTa
import Derived.Lib.SmallJoins
import Derived.Deep.Slices
import Derived.Deep.SlicePairs
namespace Go.Proofs.Ytjjnbpbbjaabeaa
open Go.ChangeShapes Go.WideShapes Go.RowKit Go.Deep Go.Joins
set_option linter.unusedVariables false
set_option linter.unusedSimpArgs false

theorem weights_in19 {H : Type} (e : TypeId) : ∀ (ds : List (DataW H)) (y : DataW H), y ∈ ds → ∀ u ∈ y.weights Try.prog e, u ∈ DataW.weightsAll Try.prog e ds := by
  intro ds
  induction ds with
  | nil => intro y hy; cases hy
  | cons d0 ds ih =>
    intro y hy u hu
    simp only [DataW.weightsAll, List.mem_append]
    rcases List.mem_cons.1 hy with rfl | hy
    · exact Or.inl hu
    · exact Or.inr (ih y hy u hu)
/-- an act's values -/
structure Ac19 where
  do_ : Int
  n_ : Int
  src : Int
  dst : Int
  A : Option Addr
  L : Nat
  C : Nat
  f : Nat → Int
def Ac19.no : Ac19 := ⟨0, 0, 0, 0, none, 0, 0, fun _ => 0⟩
def Ac19.vals (x : Ac19) : List Value := [.int .i64 x.do_, .int .i64 x.n_, .int .i64 x.src, .int .i64 x.dst, .slice x.A x.L x.C]
def Ac19.dg (x : Ac19) : Ai.Dg := ⟨x.src, x.dst, datF x.f x.L⟩
structure AcIn19 (w : World) (x : Ac19) : Prop where
  row : InRow w x.A x.L x.C x.f
  db : -9223372036854775808 ≤ x.do_ ∧ x.do_ < 9223372036854775808
  nb : -9223372036854775808 ≤ x.n_ ∧ x.n_ < 9223372036854775808
  sb : -9223372036854775808 ≤ x.src ∧ x.src < 9223372036854775808
  tb : -9223372036854775808 ≤ x.dst ∧ x.dst < 9223372036854775808
theorem InRow.keep19 {w w' : World} {A : Option Addr} {n cap : Nat} {f : Nat → Int} (h : InRow w A n cap f) (k : Bw w w') : InRow w' A n cap f := ⟨h.row.keep k, h.le, h.room, h.nil⟩
theorem AcIn19.keep {w w' : World} {x : Ac19} (h : AcIn19 w x) (k : Bw w w') : AcIn19 w' x := ⟨h.row.keep19 k, h.db, h.nb, h.sb, h.tb⟩
theorem rowv_in {w : World} {A : Option Addr} {n cap : Nat} {f : Nat → Int} (h : InRow w A n cap f) : RowV w (.slice A n cap) (datF f n) := by
  have hr := h.row
  refine ⟨A, cap, by rw [datF_len], by rw [datF_len]; exact h.le, h.nil, ⟨by rw [datF_len]; have := h.le; have := h.room; omega, by have := h.room; omega⟩, ?_⟩
  rw [datF_len]
  refine ⟨?_, fun i => ?_⟩
  · rcases hr.1 with h0 | ⟨b, o, e, hc⟩
    · exact .inl h0
    · exact .inr ⟨b, o, e, fun k hk => by rw [hc k hk, rowL_datF f (fun i => (hr.2 i).1) hk]⟩
  · rcases Nat.lt_or_ge i n with hi | hi
    · rw [rowL_datF f (fun i => (hr.2 i).1) hi]; exact hr.2 i
    · unfold rowL
      rw [List.getD_eq_getElem?_getD, List.getElem?_eq_none (by rw [datF_len]; exact hi)]
      exact ⟨Int.le_refl 0, by decide⟩
theorem AcIn19.rowv {w : World} {x : Ac19} (h : AcIn19 w x) : RowV w (.slice x.A x.L x.C) x.dg.b := rowv_in h.row
/-- a list of acts that came in -/
structure InActs19 (w : World) (A : Option Addr) (n cap : Nat) (X : Nat → Ac19) : Prop where
  at_ : n = 0 ∨ ∃ b off, A = some ⟨b, off, none⟩ ∧ ∀ i, i < n → ∀ k v, (X i).vals[k]? = some v → w.cell? ⟨b, off + i * 5 + k, none⟩ = some v
  acts : ∀ i, i < n → AcIn19 w (X i)
  le : n ≤ cap
  room : cap ≤ 140737488351232
theorem InActs19.keep {w w' : World} {A : Option Addr} {n cap : Nat} {X : Nat → Ac19} (h : InActs19 w A n cap X) (k : Bw w w') : InActs19 w' A n cap X := by
  refine ⟨?_, fun i hi => (h.acts i hi).keep k, h.le, h.room⟩
  rcases h.at_ with h0 | ⟨b, off, e, hc⟩
  · exact .inl h0
  · exact .inr ⟨b, off, e, fun i hi j v hv => by
      have := hc i hi j v hv
      rw [k.cell (p := ⟨b, off + i * 5 + j, none⟩) (block_lt_of_cell this)]
      exact this⟩
set_option maxRecDepth 100000 in
/-- five values that are read as an act are one -/
theorem act19_of {H : Type} {enc : TypeId × Value → H} {W : World} {m : Nat} {v0 v1 v2 v3 v4 : Value} {y0 y1 y2 : DataW H × List MemPlace}
    (g0 : DataW.trod enc Try.prog W 0 (fun _ => true) true m 3 [v0] = some y0) (g1 : DataW.trod enc Try.prog W 0 (fun _ => true) true m 3 [v1] = some y1) (g2 : DataW.trod enc Try.prog W 0 (fun _ => true) true m 35 [v2, v3, v4] = some y2)
    (hw : ∀ u, u ∈ (DataW.agg [y0.1, y1.1, y2.1]).weights Try.prog 37 → u ≤ reachBytes) : ∃ x : Ac19, [v0, v1, v2, v3, v4] = x.vals ∧ AcIn19 W x := by
  have hwe : ∀ u, u ∈ DataW.weightsEach Try.prog [3, 3, 35] [y0.1, y1.1, y2.1] → u ≤ reachBytes := fun u hu => hw u (by
    simp only [DataW.weights, Try.underlying37]
    exact hu)
  obtain ⟨z0, e0, x0, k0⟩ := DataW.trod_int Try.underlying3 g0
  obtain ⟨z1, e1, x1, k1⟩ := DataW.trod_int Try.underlying3 g1
  obtain ⟨xs, n, _, hdp, hl, hlen, hx⟩ := DataW.trod_struct Try.underlying35 g2
  match xs, hlen with
  | [q0, q1, q2], _ =>
    have cI : Try.prog.cellsOf 3 = 1 := by kernel_rfl
    have cU : Try.prog.cellsOf 33 = 1 := by kernel_rfl
    have h0 := hx 0 _ rfl
    have h1 := hx 1 _ rfl
    have h2 := hx 2 _ rfl
    simp [cI, cU] at h0 h1 h2
    have hwd : ∀ u, u ∈ DataW.weightsEach Try.prog [3, 3, 33] [q0.1, q1.1, q2.1] → u ≤ reachBytes := fun u hu => hwe u (DataW.weights_mem_each (j := 2) (t := 35) rfl rfl u (by
      rw [hdp]
      simp only [DataW.weights, Try.underlying35]
      exact hu))
    obtain ⟨z2, e2, x2, k2⟩ := DataW.trod_int Try.underlying3 h0
    obtain ⟨z3, e3, x3, k3⟩ := DataW.trod_int Try.underlying3 h1
    obtain ⟨B, Lr, Cr, e4⟩ := slice_form Try.underlying33 h2
    simp only [List.cons.injEq, and_true] at e0 e1 e2 e3 e4
    subst e0 e1 e2 e3 e4
    obtain ⟨f, hf⟩ := open_bytes (A := B) (n := Lr) (cap := Cr) (d := q2.1) (p := q2.2) ⟨_, h2⟩ (fun u hu => hwd u (DataW.weights_mem_each (j := 2) (t := 33) rfl rfl u hu))
    have b0 := bounds_i64 k0
    have b1 := bounds_i64 k1
    have b2 := bounds_i64 k2
    have b3 := bounds_i64 k3
    exact ⟨⟨z0, z1, z2, z3, B, Lr, Cr, f⟩, rfl, hf, ⟨b0.1, by have := b0.2; dsimp only; omega⟩, ⟨b1.1, by have := b1.2; dsimp only; omega⟩, ⟨b2.1, by have := b2.2; dsimp only; omega⟩, ⟨b3.1, by have := b3.2; dsimp only; omega⟩⟩
theorem array5 {cs : Array Value} (h : cs.size = 5) : ∃ a b c d e, cs = #[a, b, c, d, e] := by
  obtain ⟨l⟩ := cs
  match l, h with
  | [a, b, c, d, e], _ => exact ⟨a, b, c, d, e, rfl⟩
set_option maxRecDepth 100000 in
theorem open_act19 {H : Type} {enc : TypeId × Value → H} {W : World} {b0 : Nat} {v : Value} {d : DataW H} {p : List MemPlace} (hval : Value.okWide Try.prog W .any b0 37 v)
    (h : DataW.Trod enc Try.prog W 0 (fun _ => true) true 37 v d p) (hw : ∀ x ∈ d.weights Try.prog 37, x ≤ reachBytes) :
    ∃ x : Ac19, v = .agg (Ac19.vals x).toArray ∧ AcIn19 W x := by
  obtain ⟨cs, rfl, hsz⟩ := okWide_struct Try.underlying37 hval
  obtain ⟨c0, c1, c2, c3, c4, rfl⟩ := array5 (hsz.trans (by kernel_rfl))
  obtain ⟨fuel, hf⟩ := h
  obtain ⟨xs, n, _, hdp, hl, hlen, hx⟩ := DataW.trod_struct Try.underlying37 hf
  rw [Prod.mk.injEq] at hdp
  obtain ⟨rfl, rfl⟩ := hdp
  match xs, hlen with
  | [x0, x1, x2], _ =>
    have cI : Try.prog.cellsOf 3 = 1 := by kernel_rfl
    have cD : Try.prog.cellsOf 35 = 3 := by kernel_rfl
    have h0 := hx 0 _ rfl
    have h1 := hx 1 _ rfl
    have h2 := hx 2 _ rfl
    simp [cI, cD, Value.cells] at h0 h1 h2
    obtain ⟨y, hy, hb⟩ := act19_of h0 h1 h2 (fun u hu => hw u hu)
    exact ⟨y, by rw [← hy], hb⟩
set_option maxRecDepth 100000 in
theorem open_acts19 {H : Type} {enc : TypeId × Value → H} {W : World} {A : Option Addr} {n cap : Nat} {d : DataW H} {p : List MemPlace}
    (h : DataW.Trod enc Try.prog W 0 (fun _ => true) true 22 (.slice A n cap) d p) (hw : ∀ x ∈ d.weights Try.prog 22, x ≤ reachBytes) : ∃ X, InActs19 W A n cap X := by
  obtain ⟨fuel, hf⟩ := h
  rcases open_slice Try.underlying22 hf with ⟨hcs, _⟩ | ⟨a, l, c, m, q, D, Pl, hcs, _, hl, hm, hmm, hd, hcell⟩
  · simp [Value.cells] at hcs
    obtain ⟨rfl, rfl, rfl⟩ := hcs
    exact ⟨fun _ => Ac19.no, .inl rfl, fun i hi => by omega, Nat.le_refl _, by decide⟩
  · simp [Value.cells] at hcs
    obtain ⟨rfl, rfl, rfl⟩ := hcs
    simp only [if_true] at hmm
    obtain rfl := hmm.symm
    simp only [Prod.mk.injEq] at hd
    obtain ⟨rfl, _⟩ := hd
    have hb2 : Try.prog.bytesOf 37 = 56 := by kernel_rfl
    have hcap : cap * 56 ≤ 140737488351232 := by
      have := hw ((n + (cap - n)) * 56) (by
        simp only [DataW.weights, Try.underlying22, hb2, List.length_map, List.length_range]
        exact List.mem_cons_self)
      simp only [reachBytes] at this
      omega
    have hel : ∀ i, i < n → ∃ y : Ac19, (∀ k v, y.vals[k]? = some v → W.cell? ((a.add (i * 5)).add k) = some v) ∧ AcIn19 W y := fun i hi => by
      obtain ⟨cs', h1, h2⟩ := hcell i (by omega)
      rw [show Try.prog.cellsOf 37 = 5 by kernel_rfl] at h1
      obtain ⟨_, hlen, hc⟩ := World.cells?_some h1
      obtain ⟨xs, n', _, hdp, hl', hlen', hx⟩ := DataW.trod_struct Try.underlying37 h2
      rw [Prod.mk.injEq] at hdp
      have hwi : ∀ u, u ∈ (D i).weights Try.prog 37 → u ≤ reachBytes := fun u hu => hw u (by
        simp only [DataW.weights, Try.underlying22]
        refine List.mem_cons.2 (Or.inr (List.mem_append.2 (Or.inl ?_)))
        exact weights_in19 _ _ (D i) (List.mem_map.2 ⟨i, List.mem_range.2 hi, rfl⟩) _ hu)
      match xs, hlen', cs', hlen with
      | [x0, x1, x2], _, [v0, v1, v2, v3, v4], _ =>
        have cI : Try.prog.cellsOf 3 = 1 := by kernel_rfl
        have cD : Try.prog.cellsOf 35 = 3 := by kernel_rfl
        have h0 := hx 0 _ rfl
        have h1 := hx 1 _ rfl
        have h2 := hx 2 _ rfl
        simp [cI, cD] at h0 h1 h2
        obtain ⟨y, hy, hb⟩ := act19_of h0 h1 h2 (fun u hu => hwi u (by rw [hdp.1]; exact hu))
        refine ⟨y, fun k v hv => ?_, hb⟩
        rw [← hy] at hv
        have hk := (List.getElem?_eq_some_iff.1 hv).1
        have := hc k (by simpa using hk)
        rw [this]; simpa using hv
    refine ⟨fun i => if h : i < n then (hel i h).choose else Ac19.no, ?_, fun i hi => ?_, hl, by omega⟩
    · rcases Nat.eq_zero_or_pos n with h0 | h0
      · exact .inl h0
      · obtain ⟨b, off, spot⟩ := a
        have hspot : spot = none := by
          obtain ⟨y, hc, -⟩ := hel 0 h0
          have := hc 0 _ rfl
          simpa [Addr.add] using World.cell?_spot this
        subst hspot
        refine Or.inr ⟨b, off, rfl, fun i hi k v hv => ?_⟩
        simp only [dif_pos hi] at hv
        have := (hel i hi).choose_spec.1 k v hv
        rwa [Addr.add_lit, Addr.add_lit] at this
    · simp only [dif_pos hi]
      exact (hel i hi).choose_spec.2
end Go.Proofs.Ytjjnbpbbjaabeaa
