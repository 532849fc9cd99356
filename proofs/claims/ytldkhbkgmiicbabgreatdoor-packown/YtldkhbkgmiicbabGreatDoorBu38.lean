/- Texts of mine, put together. -/
import Derived.Test.YtldkhbkgmiicbabGreatDoorBu3
import Derived.Test.YtldkhbkgmiicbabGreatDoorBu9
import Derived.ChangeMaps5
import Derived.SliceStrings
import Derived.Deep.Strs
import Derived.Deep.CondSized
import Derived.Lib.SmallJoins
import Derived.Deep.Slices
import Derived.Deep.SlicePairs

/- The frame for texts and lists of texts that came in. -/
namespace Go.Proofs.YtldkhbkgmiicbabGreatDoor
open Go.ChangeShapes Go.WideShapes Go.RowKit Go.Deep
set_option linter.unusedVariables false
set_option linter.unusedSimpArgs false

/-- a list of texts that came in, all of it small -/
structure InStrs (w : World) (A : Option Addr) (n cap : Nat) (T : Nat → ByteArray) : Prop where
  strs : StrsAt w A n T
  le : n ≤ cap
  room : cap ≤ 1048576
  nil : A = none → cap = 0
  each : ∀ i, (T i).size ≤ 1048576
  all : Nm.tot (partsL T n) ≤ 1048576
end Go.Proofs.YtldkhbkgmiicbabGreatDoor

/- The frame for an item and a list of items that came in. -/
namespace Go.Proofs.YtldkhbkgmiicbabGreatDoor
open Go.ChangeShapes Go.WideShapes Go.RowKit Go.Deep Go.Joins
set_option linter.unusedVariables false
set_option linter.unusedSimpArgs false

/-- a list of items that came in -/
structure InIts (w : World) (A : Option Addr) (n cap : Nat) (L : List Tr.Iv) : Prop where
  len : L.length = n
  its : ItsAt w A L
  le : n ≤ cap
  room : cap * 80 ≤ 140737488351232
  nil : A = none → n = 0 ∧ cap = 0
theorem weights_in11 {H : Type} (e : TypeId) : ∀ (ds : List (DataW H)) (y : DataW H), y ∈ ds → ∀ u ∈ y.weights Tryz.prog e, u ∈ DataW.weightsAll Tryz.prog e ds := by
  intro ds
  induction ds with
  | nil => intro y hy; cases hy
  | cons d0 ds ih =>
    intro y hy u hu
    simp only [DataW.weightsAll, List.mem_append]
    rcases List.mem_cons.1 hy with rfl | hy
    · exact Or.inl hu
    · exact Or.inr (ih y hy u hu)
theorem size_len11 (u : ByteArray) : u.data.toList.length = u.size := by rw [Array.length_toList]; rfl
/-- a row of bytes as a list -/
theorem row_list11 {w : World} {A : Option Addr} {n : Nat} {f : Nat → Int} (h : RowAt w A n f) : RowAt w A n (Tr.rowF (Tr.ofF f n)) := by
  refine ⟨?_, Tr.rowF_bd _⟩
  rcases h.1 with h0 | ⟨b, off, hA, hc⟩
  · exact .inl h0
  · exact .inr ⟨b, off, hA, fun i hi => by rw [hc i hi, Tr.rowF_ofF h.2 hi]⟩
set_option maxRecDepth 100000 in
/-- six values that are read as an item are one -/
theorem item_of {H : Type} {enc : TypeId × Value → H} {W : World} {m : Nat} {v0 v1 v2 v3 v4 v5 : Value} {y0 y1 y2 y3 y4 y5 : DataW H × List MemPlace}
    (g0 : DataW.trod enc Tryz.prog W 0 (fun _ => true) true m 9 [v0] = some y0) (g1 : DataW.trod enc Tryz.prog W 0 (fun _ => true) true m 23 [v1] = some y1) (g2 : DataW.trod enc Tryz.prog W 0 (fun _ => true) true m 3 [v2] = some y2) (g3 : DataW.trod enc Tryz.prog W 0 (fun _ => true) true m 3 [v3] = some y3)
    (g4 : DataW.trod enc Tryz.prog W 0 (fun _ => true) true m 24 [v4] = some y4) (g5 : DataW.trod enc Tryz.prog W 0 (fun _ => true) true m 9 [v5] = some y5)
    (hw : ∀ u, u ∈ (DataW.agg [y0.1, y1.1, y2.1, y3.1, y4.1, y5.1]).weights Tryz.prog 26 → u ≤ reachBytes) : ∃ y : Tr.Iv, [v0, v1, v2, v3, v4, v5] = y.vals ∧ BodyAt W y := by
  have hwe : ∀ u, u ∈ DataW.weightsEach Tryz.prog [9, 23, 3, 3, 24, 9] [y0.1, y1.1, y2.1, y3.1, y4.1, y5.1] → u ≤ reachBytes := fun u hu => hw u (by
    simp only [DataW.weights, Tryz.underlying26]
    exact hu)
  obtain ⟨s, e0, x0, -⟩ := DataW.trod_string Tryz.underlying9 g0
  obtain ⟨k, e1, x1, k1⟩ := DataW.trod_int Tryz.underlying23 g1
  obtain ⟨a, e2, x2, k2⟩ := DataW.trod_int Tryz.underlying3 g2
  obtain ⟨c, e3, x3, k3⟩ := DataW.trod_int Tryz.underlying3 g3
  obtain ⟨B, n, C, e4⟩ := slice_form Tryz.underlying24 g4
  obtain ⟨t, e5, x5, -⟩ := DataW.trod_string Tryz.underlying9 g5
  simp only [List.cons.injEq, and_true] at e0 e1 e2 e3 e4 e5
  subst e0 e1 e2 e3 e4 e5
  obtain ⟨F, hF⟩ := open_bytes (A := B) (n := n) (cap := C) (d := y4.1) (p := y4.2) ⟨m, g4⟩ (fun u hu => hwe u (DataW.weights_mem_each (j := 4) (t := 24) rfl rfl u hu))
  have b0 : s.size ≤ 140737488351232 := by
    have := hwe s.data.toList.length (DataW.weights_mem_each (j := 0) (t := 9) (d := y0.1) rfl rfl _ (by rw [x0]; simp [DataW.weights]))
    rwa [size_len11] at this
  have b5 : t.size ≤ 140737488351232 := by
    have := hwe t.data.toList.length (DataW.weights_mem_each (j := 5) (t := 9) (d := y5.1) rfl rfl _ (by rw [x5]; simp [DataW.weights]))
    rwa [size_len11] at this
  have kb := bounds_u8 k1
  have ab := bounds_i64 k2
  have cb := bounds_i64 k3
  have hcap := hF.room
  have hle := hF.le
  refine ⟨⟨⟨s.toList, k.toNat, a, c, Tr.ofF F n, t.toList⟩, B, C⟩, ?_, ?_⟩
  · unfold Tr.Iv.vals
    rw [Nm.S_toList, Nm.S_toList, Tr.ofF_len]
    dsimp only
    rw [show ((k.toNat : Nat) : Int) = k by omega]
  · refine ⟨?_, ?_, hF.nil, ⟨?_, ?_, ?_, ?_, ?_, ?_⟩⟩
    · show RowAt W B (Tr.ofF F n).length (Tr.rowF (Tr.ofF F n))
      rw [Tr.ofF_len]; exact row_list11 hF.row
    · show (Tr.ofF F n).length ≤ C
      rw [Tr.ofF_len]; exact hle
    · show k.toNat < 256; omega
    · exact ⟨ab.1, by have := ab.2; omega⟩
    · exact ⟨cb.1, by have := cb.2; omega⟩
    · show s.toList.length ≤ _; rw [Nm.size_toList]; exact b0
    · show (Tr.ofF F n).length ≤ _; rw [Tr.ofF_len]; omega
    · show t.toList.length ≤ _; rw [Nm.size_toList]; exact b5
theorem array6 {cs : Array Value} (h : cs.size = 6) : ∃ a b c d e f, cs = #[a, b, c, d, e, f] := by
  obtain ⟨l⟩ := cs
  match l, h with
  | [a, b, c, d, e, f], _ => exact ⟨a, b, c, d, e, f, rfl⟩
set_option maxRecDepth 100000 in
theorem open_item {H : Type} {enc : TypeId × Value → H} {W : World} {b0 : Nat} {v : Value} {d : DataW H} {p : List MemPlace} (hval : Value.okWide Tryz.prog W .any b0 26 v)
    (h : DataW.Trod enc Tryz.prog W 0 (fun _ => true) true 26 v d p) (hw : ∀ x ∈ d.weights Tryz.prog 26, x ≤ reachBytes) :
    ∃ y : Tr.Iv, v = .agg (Tr.Iv.vals y).toArray ∧ BodyAt W y := by
  obtain ⟨cs, rfl, hsz⟩ := okWide_struct Tryz.underlying26 hval
  obtain ⟨c0, c1, c2, c3, c4, c5, rfl⟩ := array6 (hsz.trans (by kernel_rfl))
  obtain ⟨fuel, hf⟩ := h
  obtain ⟨xs, n, _, hdp, hl, hlen, hx⟩ := DataW.trod_struct Tryz.underlying26 hf
  rw [Prod.mk.injEq] at hdp
  obtain ⟨rfl, rfl⟩ := hdp
  match xs, hlen with
  | [x0, x1, x2, x3, x4, x5], _ =>
    have cS : Tryz.prog.cellsOf 9 = 1 := by kernel_rfl
    have cK : Tryz.prog.cellsOf 23 = 1 := by kernel_rfl
    have cI : Tryz.prog.cellsOf 3 = 1 := by kernel_rfl
    have cU : Tryz.prog.cellsOf 24 = 1 := by kernel_rfl
    have h0 := hx 0 _ rfl
    have h1 := hx 1 _ rfl
    have h2 := hx 2 _ rfl
    have h3 := hx 3 _ rfl
    have h4 := hx 4 _ rfl
    have h5 := hx 5 _ rfl
    simp [cS, cI, cU, cK, Value.cells] at h0 h1 h2 h3 h4 h5
    obtain ⟨y, hy, hb⟩ := item_of h0 h1 h2 h3 h4 h5 (fun u hu => hw u hu)
    exact ⟨y, by rw [← hy], hb⟩
set_option maxRecDepth 100000 in
theorem open_its {H : Type} {enc : TypeId × Value → H} {W : World} {A : Option Addr} {n cap : Nat} {d : DataW H} {p : List MemPlace}
    (h : DataW.Trod enc Tryz.prog W 0 (fun _ => true) true 22 (.slice A n cap) d p) (hw : ∀ x ∈ d.weights Tryz.prog 22, x ≤ reachBytes) : ∃ L, InIts W A n cap L := by
  obtain ⟨fuel, hf⟩ := h
  rcases open_slice Tryz.underlying22 hf with ⟨hcs, _⟩ | ⟨a, l, c, m, q, D, Pl, hcs, _, hl, hm, hmm, hd, hcell⟩
  · simp [Value.cells] at hcs
    obtain ⟨rfl, rfl, rfl⟩ := hcs
    exact ⟨[], rfl, ItsAt.nil _ _, Nat.le_refl _, by decide, fun _ => ⟨rfl, rfl⟩⟩
  · simp [Value.cells] at hcs
    obtain ⟨rfl, rfl, rfl⟩ := hcs
    simp only [if_true] at hmm
    obtain rfl := hmm.symm
    simp only [Prod.mk.injEq] at hd
    obtain ⟨rfl, _⟩ := hd
    have hb2 : Tryz.prog.bytesOf 26 = 80 := by kernel_rfl
    have hcap : cap * 80 ≤ 140737488351232 := by
      have := hw ((n + (cap - n)) * 80) (by
        simp only [DataW.weights, Tryz.underlying22, hb2, List.length_map, List.length_range]
        exact List.mem_cons_self)
      simp only [reachBytes] at this
      omega
    have hel : ∀ i, i < n → ∃ y : Tr.Iv, (∀ k v, y.vals[k]? = some v → W.cell? ((a.add (i * 6)).add k) = some v) ∧ BodyAt W y := fun i hi => by
      obtain ⟨cs', h1, h2⟩ := hcell i (by omega)
      rw [show Tryz.prog.cellsOf 26 = 6 by kernel_rfl] at h1
      obtain ⟨_, hlen, hc⟩ := World.cells?_some h1
      obtain ⟨xs, n', _, hdp, hl', hlen', hx⟩ := DataW.trod_struct Tryz.underlying26 h2
      rw [Prod.mk.injEq] at hdp
      have hwi : ∀ u, u ∈ (D i).weights Tryz.prog 26 → u ≤ reachBytes := fun u hu => hw u (by
        simp only [DataW.weights, Tryz.underlying22]
        refine List.mem_cons.2 (Or.inr (List.mem_append.2 (Or.inl ?_)))
        exact weights_in11 _ _ (D i) (List.mem_map.2 ⟨i, List.mem_range.2 hi, rfl⟩) _ hu)
      match xs, hlen', cs', hlen with
      | [x0, x1, x2, x3, x4, x5], _, [v0, v1, v2, v3, v4, v5], _ =>
        have cS : Tryz.prog.cellsOf 9 = 1 := by kernel_rfl
        have cK : Tryz.prog.cellsOf 23 = 1 := by kernel_rfl
        have cI : Tryz.prog.cellsOf 3 = 1 := by kernel_rfl
        have cU : Tryz.prog.cellsOf 24 = 1 := by kernel_rfl
        have h0 := hx 0 _ rfl
        have h1 := hx 1 _ rfl
        have h2 := hx 2 _ rfl
        have h3 := hx 3 _ rfl
        have h4 := hx 4 _ rfl
        have h5 := hx 5 _ rfl
        simp [cS, cI, cU, cK] at h0 h1 h2 h3 h4 h5
        obtain ⟨y, hy, hb⟩ := item_of h0 h1 h2 h3 h4 h5 (fun u hu => hwi u (by rw [hdp.1]; exact hu))
        refine ⟨y, fun k v hv => ?_, hb⟩
        rw [← hy] at hv
        have hk := (List.getElem?_eq_some_iff.1 hv).1
        have := hc k (by simpa using hk)
        rw [this]; simpa using hv
    have hget : ∀ (i : Nat) (y : Tr.Iv), ((List.range n).attach.map fun i => (hel i.1 (List.mem_range.1 i.2)).choose)[i]? = some y → ∃ hi : i < n, (∀ k v, y.vals[k]? = some v → W.cell? ((a.add (i * 6)).add k) = some v) ∧ BodyAt W y := fun i y hy => by
      obtain ⟨hi, e⟩ := List.getElem?_eq_some_iff.1 hy
      have hi' : i < n := by simpa using hi
      simp only [List.getElem_map, List.getElem_attach, List.getElem_range] at e
      have hs := (hel i hi').choose_spec
      subst e
      exact ⟨hi', hs⟩
    refine ⟨(List.range n).attach.map fun i => (hel i.1 (List.mem_range.1 i.2)).choose, by simp, ⟨?_, ?_⟩, hl, hcap, (fun e => by cases e)⟩
    · rcases Nat.eq_zero_or_pos n with h0 | h0
      · subst h0; exact .inl rfl
      · obtain ⟨b, off, spot⟩ := a
        have hspot : spot = none := by
          obtain ⟨y, hc, -⟩ := hel 0 h0
          have := hc 0 _ rfl
          simpa [Addr.add] using World.cell?_spot this
        subst hspot
        refine Or.inr ⟨b, off, rfl, fun i y hy => ?_⟩
        obtain ⟨hi, hc, -⟩ := hget i y hy
        refine ItAt.of fun k v hv => ?_
        have := hc k v hv
        rwa [Addr.add_lit, Addr.add_lit] at this
    · intro y hy
      obtain ⟨i, hi⟩ := List.getElem?_of_mem hy
      exact (hget i y hi).choose_spec.2
end Go.Proofs.YtldkhbkgmiicbabGreatDoor
