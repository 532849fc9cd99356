/- Layer 16: an act, and a list of acts, that came in. -/
import Derived.Test.YtfdfkhmaeeonpaaRp
import Derived.Lib.SmallJoins
import Derived.Deep.Slices
import Derived.Deep.SlicePairs
namespace Go.Proofs.Ytfdfkhmaeeonpaa
open Go.ChangeShapes Go.WideShapes Go.RowKit Go.Deep Go.Joins
set_option linter.unusedVariables false
set_option linter.unusedSimpArgs false

theorem weights_in16 {H : Type} (e : TypeId) : ∀ (ds : List (DataW H)) (y : DataW H), y ∈ ds → ∀ u ∈ y.weights Try.prog e, u ∈ DataW.weightsAll Try.prog e ds := by
  intro ds
  induction ds with
  | nil => intro y hy; cases hy
  | cons d0 ds ih =>
    intro y hy u hu
    simp only [DataW.weightsAll, List.mem_append]
    rcases List.mem_cons.1 hy with rfl | hy
    · exact Or.inl hu
    · exact Or.inr (ih y hy u hu)
/-- an act's numbers -/
structure Ac16 where
  do_ : Int
  at_ : Int
  ct_ : Int
def Ac16.no : Ac16 := ⟨0, 0, 0⟩
def Ac16.vals (x : Ac16) : List Value := [.int .i64 x.do_, .int .i64 x.at_, .int .i64 x.ct_]
structure AcIn16 (x : Ac16) : Prop where
  db : -9223372036854775808 ≤ x.do_ ∧ x.do_ < 9223372036854775808
  ab : -9223372036854775808 ≤ x.at_ ∧ x.at_ < 9223372036854775808
  cb : -9223372036854775808 ≤ x.ct_ ∧ x.ct_ < 9223372036854775808
/-- a list of acts that came in -/
structure InActs16 (w : World) (A : Option Addr) (n cap : Nat) (X : Nat → Ac16) : Prop where
  at_ : n = 0 ∨ ∃ b off, A = some ⟨b, off, none⟩ ∧ ∀ i, i < n → ∀ k v, (X i).vals[k]? = some v → w.cell? ⟨b, off + i * 3 + k, none⟩ = some v
  acts : ∀ i, AcIn16 (X i)
  le : n ≤ cap
  room : cap ≤ 140737488351232
theorem InActs16.keep {w w' : World} {A : Option Addr} {n cap : Nat} {X : Nat → Ac16} (h : InActs16 w A n cap X) (k : Bw w w') : InActs16 w' A n cap X := by
  refine ⟨?_, h.acts, h.le, h.room⟩
  rcases h.at_ with h0 | ⟨b, off, e, hc⟩
  · exact .inl h0
  · exact .inr ⟨b, off, e, fun i hi j v hv => by
      have := hc i hi j v hv
      rw [k.cell (p := ⟨b, off + i * 3 + j, none⟩) (block_lt_of_cell this)]
      exact this⟩
set_option maxRecDepth 100000 in
/-- three values that are read as an act are one -/
theorem act16_of {H : Type} {enc : TypeId × Value → H} {W : World} {m : Nat} {v0 v1 v2 : Value} {y0 y1 : DataW H × List MemPlace}
    (g0 : DataW.trod enc Try.prog W 0 (fun _ => true) true m 3 [v0] = some y0) (g1 : DataW.trod enc Try.prog W 0 (fun _ => true) true m 32 [v1, v2] = some y1) : ∃ x : Ac16, [v0, v1, v2] = x.vals ∧ AcIn16 x := by
  obtain ⟨z0, e0, x0, k0⟩ := DataW.trod_int Try.underlying3 g0
  obtain ⟨xs, n, _, hdp, hl, hlen, hx⟩ := DataW.trod_struct Try.underlying32 g1
  match xs, hlen with
  | [x1, x2], _ =>
    have cI : Try.prog.cellsOf 3 = 1 := by kernel_rfl
    have h0 := hx 0 _ rfl
    have h1 := hx 1 _ rfl
    simp [cI] at h0 h1
    obtain ⟨z1, e1, _, k1⟩ := DataW.trod_int Try.underlying3 h0
    obtain ⟨z2, e2, _, k2⟩ := DataW.trod_int Try.underlying3 h1
    simp only [List.cons.injEq, and_true] at e0 e1 e2
    subst e0 e1 e2
    have b0 := bounds_i64 k0
    have b1 := bounds_i64 k1
    have b2 := bounds_i64 k2
    exact ⟨⟨z0, z1, z2⟩, rfl, ⟨b0.1, by have := b0.2; dsimp only; omega⟩, ⟨b1.1, by have := b1.2; dsimp only; omega⟩, ⟨b2.1, by have := b2.2; dsimp only; omega⟩⟩
set_option maxRecDepth 100000 in
theorem open_act16 {H : Type} {enc : TypeId × Value → H} {W : World} {b0 : Nat} {v : Value} {d : DataW H} {p : List MemPlace} (hval : Value.okWide Try.prog W .any b0 34 v)
    (h : DataW.Trod enc Try.prog W 0 (fun _ => true) true 34 v d p) :
    ∃ x : Ac16, v = .agg (Ac16.vals x).toArray ∧ AcIn16 x := by
  obtain ⟨cs, rfl, hsz⟩ := okWide_struct Try.underlying34 hval
  have hsz3 : cs.size = 3 := hsz.trans (by kernel_rfl)
  obtain ⟨c0, c1, c2, rfl⟩ : ∃ a b c, cs = #[a, b, c] := by
    obtain ⟨l⟩ := cs
    match l, hsz3 with
    | [a, b, c], _ => exact ⟨a, b, c, rfl⟩
  obtain ⟨fuel, hf⟩ := h
  obtain ⟨xs, n, _, hdp, hl, hlen, hx⟩ := DataW.trod_struct Try.underlying34 hf
  match xs, hlen with
  | [x0, x1], _ =>
    have cI : Try.prog.cellsOf 3 = 1 := by kernel_rfl
    have cR : Try.prog.cellsOf 32 = 2 := by kernel_rfl
    have h0 := hx 0 _ rfl
    have h1 := hx 1 _ rfl
    simp [cI, cR, Value.cells] at h0 h1
    obtain ⟨y, hy, hb⟩ := act16_of (W := W) h0 h1
    exact ⟨y, by rw [← hy], hb⟩
set_option maxRecDepth 100000 in
theorem open_acts16 {H : Type} {enc : TypeId × Value → H} {W : World} {A : Option Addr} {n cap : Nat} {d : DataW H} {p : List MemPlace}
    (h : DataW.Trod enc Try.prog W 0 (fun _ => true) true 22 (.slice A n cap) d p) (hw : ∀ x ∈ d.weights Try.prog 22, x ≤ reachBytes) : ∃ X, InActs16 W A n cap X := by
  have hno : AcIn16 Ac16.no := ⟨by decide, by decide, by decide⟩
  obtain ⟨fuel, hf⟩ := h
  rcases open_slice Try.underlying22 hf with ⟨hcs, _⟩ | ⟨a, l, c, m, q, D, Pl, hcs, _, hl, hm, hmm, hd, hcell⟩
  · simp [Value.cells] at hcs
    obtain ⟨rfl, rfl, rfl⟩ := hcs
    exact ⟨fun _ => Ac16.no, .inl rfl, fun i => hno, Nat.le_refl _, by decide⟩
  · simp [Value.cells] at hcs
    obtain ⟨rfl, rfl, rfl⟩ := hcs
    simp only [if_true] at hmm
    obtain rfl := hmm.symm
    simp only [Prod.mk.injEq] at hd
    obtain ⟨rfl, _⟩ := hd
    have hb2 : Try.prog.bytesOf 34 = 24 := by kernel_rfl
    have hcap : cap * 24 ≤ 140737488351232 := by
      have := hw ((n + (cap - n)) * 24) (by
        simp only [DataW.weights, Try.underlying22, hb2, List.length_map, List.length_range]
        exact List.mem_cons_self)
      simp only [reachBytes] at this
      omega
    have hel : ∀ i, i < n → ∃ y : Ac16, (∀ k v, y.vals[k]? = some v → W.cell? ((a.add (i * 3)).add k) = some v) ∧ AcIn16 y := fun i hi => by
      obtain ⟨cs', h1, h2⟩ := hcell i (by omega)
      rw [show Try.prog.cellsOf 34 = 3 by kernel_rfl] at h1
      obtain ⟨_, hlen, hc⟩ := World.cells?_some h1
      obtain ⟨xs, n', _, hdp, hl', hlen', hx⟩ := DataW.trod_struct Try.underlying34 h2
      match xs, hlen', cs', hlen with
      | [x0, x1], _, [v0, v1, v2], _ =>
        have cI : Try.prog.cellsOf 3 = 1 := by kernel_rfl
        have cR : Try.prog.cellsOf 32 = 2 := by kernel_rfl
        have h0 := hx 0 _ rfl
        have h1 := hx 1 _ rfl
        simp [cI, cR] at h0 h1
        obtain ⟨y, hy, hb⟩ := act16_of (W := W) h0 h1
        refine ⟨y, fun k v hv => ?_, hb⟩
        rw [← hy] at hv
        have hk := (List.getElem?_eq_some_iff.1 hv).1
        have := hc k (by simpa using hk)
        rw [this]; simpa using hv
    refine ⟨fun i => if h : i < n then (hel i h).choose else Ac16.no, ?_, fun i => ?_, hl, by omega⟩
    · rcases Nat.eq_zero_or_pos n with h0 | h0
      · exact .inl h0
      · obtain ⟨b, off, spot⟩ := a
        have hspot : spot = none := by
          obtain ⟨y, hc, -⟩ := hel 0 h0
          have := hc 0 _ rfl
          simpa [Addr.add] using World.cell?_spot this
        subst hspot
        refine Or.inr ⟨b, off, rfl, fun i hi k v hv => ?_⟩
        simp only [dif_pos hi] at hv
        have := (hel i hi).choose_spec.1 k v hv
        rwa [Addr.add_lit, Addr.add_lit] at this
    · by_cases hi : i < n
      · simp only [dif_pos hi]
        exact (hel i hi).choose_spec.2
      · simp only [dif_neg hi]
        exact hno
end Go.Proofs.Ytfdfkhmaeeonpaa
