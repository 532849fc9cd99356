/- The frame for a pair and a list of pairs that came in. -/
import Derived.Test.YtmbabfelnieagabDoorA8
import Derived.Lib.SmallJoins
import Derived.Deep.SlicePairs
import Derived.ChangeMaps5
import Derived.SliceStrings
import Derived.Deep.Strs
namespace Go.Proofs.YtmbabfelnieagabDoor
open Go.ChangeShapes Go.WideShapes Go.RowKit Go.Deep Go.Joins
set_option linter.unusedVariables false
set_option linter.unusedSimpArgs false

set_option maxRecDepth 100000 in
theorem open_str {H : Type} {enc : TypeId × Value → H} {W : World} {base : Nat} {v : Value} {d : DataW H} {p : List MemPlace} (hval : Value.okWide Tryd.prog W .any base 9 v)
    (h : DataW.Trod enc Tryd.prog W 0 (fun _ => true) true 9 v d p) (hw : ∀ x ∈ d.weights Tryd.prog 9, x ≤ reachBytes) : ∃ s : ByteArray, v = .string s ∧ d = .lit (.string s.data.toList) ∧ s.size ≤ 140737488351232 := by
  obtain ⟨s, rfl, rfl, rfl, hs⟩ := Go.ChangeMaps.open_string Tryd.underlying9 hval h
  refine ⟨s, rfl, rfl, ?_⟩
  have := hw s.data.toList.length (by simp [DataW.weights])
  rw [Array.length_toList] at this
  exact this
set_option maxRecDepth 100000 in
theorem open_pair {H : Type} {enc : TypeId × Value → H} {W : World} {b0 : Nat} {v : Value} {d : DataW H} {p : List MemPlace} (hval : Value.okWide Tryd.prog W .any b0 23 v)
    (h : DataW.Trod enc Tryd.prog W 0 (fun _ => true) true 23 v d p) (hw : ∀ x ∈ d.weights Tryd.prog 23, x ≤ reachBytes) :
    ∃ s t : ByteArray, v = .agg #[.string s, .string t] ∧ (s.size ≤ 140737488351232 ∧ t.size ≤ 140737488351232) := by
  obtain ⟨v0, v1, y0, y1, fuel, rfl, rfl, -, t0, t1⟩ := open_agg2 Tryd.underlying23 (by kernel_rfl) (by kernel_rfl) hval h
  obtain ⟨s, e0, x0, -⟩ := DataW.trod_string Tryd.underlying9 t0
  obtain ⟨t, e1, x1, -⟩ := DataW.trod_string Tryd.underlying9 t1
  cases e0; cases e1
  have hw2 : ∀ x ∈ DataW.weightsEach Tryd.prog [9, 9] [y0.1, y1.1], x ≤ reachBytes := by
    intro x hx
    refine hw x ?_
    simp only [DataW.weights, Tryd.underlying23]
    exact hx
  rw [x0, x1] at hw2
  have hz : ∀ u : ByteArray, u.data.toList.length = u.size := fun u => by rw [Array.length_toList]; rfl
  have g0 := hw2 s.data.toList.length (by simp [DataW.weightsEach, DataW.weights])
  have g1 := hw2 t.data.toList.length (by simp [DataW.weightsEach, DataW.weights])
  rw [hz] at g0 g1
  exact ⟨s, t, rfl, g0, g1⟩
/-- a list of pairs that came in -/
structure InPrs (w : World) (A : Option Addr) (n cap : Nat) (L : List Px.Pr) : Prop where
  len : L.length = n
  prs : PrsAt w A L
  le : n ≤ cap
  room : cap * 32 ≤ 140737488351232
  nil : A = none → n = 0 ∧ cap = 0
  each : ∀ p ∈ L, p.1.length ≤ 140737488351232 ∧ p.2.length ≤ 140737488351232
theorem weights_in9 {H : Type} (e : TypeId) : ∀ (ds : List (DataW H)) (y : DataW H), y ∈ ds → ∀ u ∈ y.weights Tryd.prog e, u ∈ DataW.weightsAll Tryd.prog e ds := by
  intro ds
  induction ds with
  | nil => intro y hy; cases hy
  | cons d0 ds ih =>
    intro y hy u hu
    simp only [DataW.weightsAll, List.mem_append]
    rcases List.mem_cons.1 hy with rfl | hy
    · exact Or.inl hu
    · exact Or.inr (ih y hy u hu)
set_option maxRecDepth 100000 in
theorem open_prs {H : Type} {enc : TypeId × Value → H} {W : World} {A : Option Addr} {n cap : Nat} {d : DataW H} {p : List MemPlace}
    (h : DataW.Trod enc Tryd.prog W 0 (fun _ => true) true 32 (.slice A n cap) d p) (hw : ∀ x ∈ d.weights Tryd.prog 32, x ≤ reachBytes) : ∃ L, InPrs W A n cap L := by
  obtain ⟨fuel, hf⟩ := h
  rcases open_slice_pairs Tryd.underlying32 Tryd.underlying23 (by kernel_rfl) rfl rfl (by kernel_rfl) (by kernel_rfl) hf with ⟨hcs, _⟩ | ⟨x, l, c, m, q, V0, V1, D0, D1, P0, P1, hcs, _, hl, hm, hmm, hd, hcell⟩
  · simp [Value.cells] at hcs
    obtain ⟨rfl, rfl, rfl⟩ := hcs
    exact ⟨[], rfl, .inl rfl, Nat.le_refl _, by decide, fun _ => ⟨rfl, rfl⟩, fun p hp => by simp at hp⟩
  · simp [Value.cells] at hcs
    obtain ⟨rfl, rfl, rfl⟩ := hcs
    simp only [if_true] at hmm
    obtain rfl := hmm.symm
    simp only [Prod.mk.injEq] at hd
    obtain ⟨rfl, _⟩ := hd
    have hb2 : Tryd.prog.bytesOf 23 = 32 := by kernel_rfl
    have hcap : cap * 32 ≤ 140737488351232 := by
      have := hw ((n + (cap - n)) * 32) (by
        simp only [DataW.weights, Tryd.underlying32, hb2, List.length_map, List.length_range]
        exact List.mem_cons_self)
      simp only [reachBytes] at this
      omega
    have hz : ∀ u : ByteArray, u.data.toList.length = u.size := fun u => by rw [Array.length_toList]; rfl
    have hel : ∀ i, i < n → ∃ s t : ByteArray, V0 i = .string s ∧ V1 i = .string t ∧ s.size ≤ 140737488351232 ∧ t.size ≤ 140737488351232 := fun i hi => by
      obtain ⟨h0, h1, t0, t1⟩ := hcell i (by omega)
      obtain ⟨s, e0, x0, -⟩ := DataW.trod_string Tryd.underlying9 t0
      obtain ⟨t, e1, x1, -⟩ := DataW.trod_string Tryd.underlying9 t1
      have e0' : V0 i = .string s := by simpa using e0
      have e1' : V1 i = .string t := by simpa using e1
      have hd0 : D0 i = .lit (.string s.data.toList) := (Prod.mk.inj x0).1
      have hd1 : D1 i = .lit (.string t.data.toList) := (Prod.mk.inj x1).1
      have hwi : ∀ u, u ∈ (DataW.agg [D0 i, D1 i]).weights Tryd.prog 23 → u ≤ reachBytes := fun u hu => hw u (by
        simp only [DataW.weights, Tryd.underlying32]
        refine List.mem_cons.2 (Or.inr (List.mem_append.2 (Or.inl ?_)))
        exact weights_in9 _ _ (.agg [D0 i, D1 i]) (List.mem_map.2 ⟨i, List.mem_range.2 hi, rfl⟩) _ hu)
      rw [hd0, hd1] at hwi
      have g0 := hwi s.data.toList.length (by simp [DataW.weights, Tryd.underlying23, DataW.weightsEach])
      have g1 := hwi t.data.toList.length (by simp [DataW.weights, Tryd.underlying23, DataW.weightsEach])
      rw [hz] at g0 g1
      exact ⟨s, t, e0', e1', g0, g1⟩
    have hgetL : ∀ (i : Nat) (p : Px.Pr), ((List.range n).attach.map fun i => (((hel i.1 (List.mem_range.1 i.2)).choose).toList, ((hel i.1 (List.mem_range.1 i.2)).choose_spec.choose).toList))[i]? = some p → ∃ hi : i < n, V0 i = .string (Nm.S p.1) ∧ V1 i = .string (Nm.S p.2) ∧ p.1.length ≤ 140737488351232 ∧ p.2.length ≤ 140737488351232 := fun i p hp => by
      obtain ⟨hi, e⟩ := List.getElem?_eq_some_iff.1 hp
      have hi' : i < n := by simpa using hi
      simp only [List.getElem_map, List.getElem_attach, List.getElem_range] at e
      have hs := (hel i hi').choose_spec.choose_spec
      subst e
      refine ⟨hi', ?_, ?_, ?_, ?_⟩
      · dsimp only; rw [Nm.S_toList]; exact hs.1
      · dsimp only; rw [Nm.S_toList]; exact hs.2.1
      · dsimp only; rw [Nm.size_toList]; exact hs.2.2.1
      · dsimp only; rw [Nm.size_toList]; exact hs.2.2.2
    refine ⟨(List.range n).attach.map fun i => (((hel i.1 (List.mem_range.1 i.2)).choose).toList, ((hel i.1 (List.mem_range.1 i.2)).choose_spec.choose).toList), by simp, ?_, hl, by omega, (fun e => by cases e), ?_⟩
    · rcases Nat.eq_zero_or_pos n with h0 | h0
      · subst h0; exact .inl rfl
      · obtain ⟨b, off, spot⟩ := x
        have hspot : spot = none := by simpa [Addr.add] using World.cell?_spot (hcell 0 (by omega)).1
        subst hspot
        refine Or.inr ⟨b, off, rfl, fun i p hp => ?_⟩
        obtain ⟨hi, g1, g2, -, -⟩ := hgetL i p hp
        obtain ⟨h0', h1', -, -⟩ := hcell i (by omega)
        rw [Addr.add_lit] at h0' h1'
        exact ⟨h0'.trans (congrArg some g1), h1'.trans (congrArg some g2)⟩
    · intro p hp
      obtain ⟨i, hi⟩ := List.getElem?_of_mem hp
      obtain ⟨-, -, -, g1, g2⟩ := hgetL i p hi
      exact ⟨g1, g2⟩
end Go.Proofs.YtmbabfelnieagabDoor
