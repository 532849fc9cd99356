/- What a call is told of a list of acts that came in. -/
import Derived.Test.YtcpapaceggnaoaaDoorEE
import Derived.Lib.SmallJoins
import Derived.Deep.SlicePairs
namespace Go.Proofs.YtcpapaceggnaoaaDoor
open Go.ChangeShapes Go.WideShapes Go.RowKit Go.Deep Go.Joins
set_option linter.unusedVariables false

/-- a list of acts that came in -/
structure InActs (w : World) (A : Option Addr) (n cap : Nat) (Do : Nat → Int) (B : Nat → Option Addr) (L C : Nat → Nat) (F : Nat → Nat → Int) : Prop where
  at_ : n = 0 ∨ ∃ b off, A = some ⟨b, off, none⟩ ∧ ∀ i, i < n → w.cell? ⟨b, off + i * 2, none⟩ = some (.int .i64 (Do i)) ∧ w.cell? ⟨b, off + i * 2 + 1, none⟩ = some (.slice (B i) (L i) (C i))
  rows : ∀ i, i < n → InRow w (B i) (L i) (C i) (F i)
  le : n ≤ cap
  room : cap ≤ 140737488351232

theorem weights_in {H : Type} (e : TypeId) : ∀ (ds : List (DataW H)) (y : DataW H), y ∈ ds → ∀ u ∈ y.weights Tryd.prog e, u ∈ DataW.weightsAll Tryd.prog e ds := by
  intro ds
  induction ds with
  | nil => intro y hy; cases hy
  | cons d0 ds ih =>
    intro y hy u hu
    simp only [DataW.weightsAll, List.mem_append]
    rcases List.mem_cons.1 hy with rfl | hy
    · exact Or.inl hu
    · exact Or.inr (ih y hy u hu)

set_option maxRecDepth 100000 in
theorem open_acts {H : Type} {enc : TypeId × Value → H} {W : World} {A : Option Addr} {n cap : Nat} {d : DataW H} {p : List MemPlace}
    (h : DataW.Trod enc Tryd.prog W 0 (fun _ => true) true 28 (.slice A n cap) d p) (hw : ∀ x ∈ d.weights Tryd.prog 28, x ≤ reachBytes) : ∃ Do B L C F, InActs W A n cap Do B L C F := by
  obtain ⟨fuel, hf⟩ := h
  rcases open_slice_pairs Tryd.underlying28 Tryd.underlying30 (by kernel_rfl) rfl rfl (by kernel_rfl) (by kernel_rfl) hf with ⟨hcs, _⟩ | ⟨x, l, c, m, q, V0, V1, D0, D1, P0, P1, hcs, _, hl, hm, hmm, hd, hcell⟩
  · simp [Value.cells] at hcs
    obtain ⟨rfl, rfl, rfl⟩ := hcs
    exact ⟨fun _ => 0, fun _ => none, fun _ => 0, fun _ => 0, fun _ _ => 0, Or.inl rfl, fun r hr => by omega, Nat.le_refl _, Nat.zero_le _⟩
  · simp [Value.cells] at hcs
    obtain ⟨rfl, rfl, rfl⟩ := hcs
    simp only [if_true] at hmm
    obtain rfl := hmm.symm
    simp only [Prod.mk.injEq] at hd
    obtain ⟨rfl, _⟩ := hd
    have hb2 : Tryd.prog.bytesOf 30 = 32 := by kernel_rfl
    have hcap : cap * 32 ≤ 140737488351232 := by
      have := hw ((n + (cap - n)) * 32) (by
        simp only [DataW.weights, Tryd.underlying28, hb2, List.length_map, List.length_range]
        exact List.mem_cons_self)
      simp only [reachBytes] at this
      omega
    have hel : ∀ i, i < n → ∃ (z : Int) (B : Option Addr) (L C : Nat) (F : Nat → Int), V0 i = .int .i64 z ∧ V1 i = .slice B L C ∧ InRow W B L C F := fun i hi => by
      obtain ⟨h0, h1, t0, t1⟩ := hcell i (by omega)
      obtain ⟨z, e0, -, -⟩ := DataW.trod_int Tryd.underlying3 t0
      obtain ⟨B, L, C, e1⟩ := slice_form Tryd.underlying22 t1
      have e0' : V0 i = .int .i64 z := by first | exact e0 | exact e0.symm | simpa using e0 | simpa using e0.symm
      have e1' : V1 i = .slice B L C := by first | exact e1 | exact e1.symm | simpa using e1 | simpa using e1.symm
      rw [e1'] at t1
      obtain ⟨F, hF⟩ := open_bytes (A := B) (n := L) (cap := C) (d := D1 i) (p := P1 i) ⟨q, t1⟩ (fun u hu => hw u (by
        simp only [DataW.weights, Tryd.underlying28]
        refine List.mem_cons.2 (Or.inr (List.mem_append.2 (Or.inl ?_)))
        refine weights_in _ _ (.agg [D0 i, D1 i]) (List.mem_map.2 ⟨i, List.mem_range.2 hi, rfl⟩) _ ?_
        simp only [DataW.weights, Tryd.underlying30]
        exact DataW.weights_mem_each (j := 1) (t := 22) rfl rfl u hu))
      exact ⟨z, B, L, C, F, e0', e1', hF⟩
    refine ⟨fun i => if h : i < n then (hel i h).choose else 0, fun i => if h : i < n then (hel i h).choose_spec.choose else none, fun i => if h : i < n then (hel i h).choose_spec.choose_spec.choose else 0, fun i => if h : i < n then (hel i h).choose_spec.choose_spec.choose_spec.choose else 0, fun i => if h : i < n then (hel i h).choose_spec.choose_spec.choose_spec.choose_spec.choose else fun _ => 0, ?_, ?_, hl, by omega⟩
    · rcases Nat.eq_zero_or_pos n with h0 | h0
      · exact Or.inl h0
      · obtain ⟨b, off, spot⟩ := x
        have hspot : spot = none := by simpa [Addr.add] using World.cell?_spot (hcell 0 (by omega)).1
        subst hspot
        refine Or.inr ⟨b, off, rfl, fun i hi => ?_⟩
        have hs := (hel i hi).choose_spec.choose_spec.choose_spec.choose_spec.choose_spec
        obtain ⟨h0', h1', -, -⟩ := hcell i (by omega)
        rw [Addr.add_lit] at h0' h1'
        simp only [dif_pos hi]
        exact ⟨h0'.trans (congrArg some hs.1), h1'.trans (congrArg some hs.2.1)⟩
    · intro i hi
      have hs := (hel i hi).choose_spec.choose_spec.choose_spec.choose_spec.choose_spec
      simp only [dif_pos hi]
      exact hs.2.2
end Go.Proofs.YtcpapaceggnaoaaDoor
