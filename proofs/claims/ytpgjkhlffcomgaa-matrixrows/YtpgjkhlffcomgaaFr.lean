/- What a call is told of rows of bytes and of matrices that came in. -/
import Derived.Test.YtpgjkhlffcomgaaM3
import Derived.ProofKit
import Derived.OpenShut
import Derived.SizedLaws
import Derived.Deep.Matrix
namespace Go.Proofs.Ytpgjkhlffcomgaa
open Go.ChangeShapes Go.WideShapes Go.RowKit Go.Deep

theorem cells_plain {w : World} {a : Addr} {n : Nat} {V : Nat → Value} (h : ∀ i, i < n → w.cell? (a.add i) = some (V i)) (hp : 0 < n) :
    ∃ b off, a = ⟨b, off, none⟩ ∧ ∀ j, j < n → w.cell? ⟨b, off + j, none⟩ = some (V j) := by
  obtain ⟨b, off, spot⟩ := a
  have hspot : spot = none := by simpa [Addr.add] using World.cell?_spot (h 0 hp)
  subst hspot
  exact ⟨b, off, rfl, fun j hj => by rw [← Go.WideShapes.add_plain]; exact h j hj⟩

theorem byte_of (zs : List Int) (h : ∀ n ∈ zs, (Lit.int .u8 n).wf = true) (i : Nat) : 0 ≤ zs.getD i 0 ∧ zs.getD i 0 < 256 := by
  rcases Nat.lt_or_ge i zs.length with hi | hi
  · have := bounds_u8 (h zs[i] (List.getElem_mem hi))
    rw [List.getD_eq_getElem?_getD, List.getElem?_eq_getElem hi]
    simp only [Option.getD_some]
    omega
  · rw [List.getD_eq_getElem?_getD, List.getElem?_eq_none hi]
    decide

/-- a row of bytes that came in -/
structure InRow (w : World) (A : Option Addr) (n cap : Nat) (f : Nat → Int) : Prop where
  row : RowAt w A n f
  le : n ≤ cap
  room : cap ≤ 140737488351232
  nil : A = none → cap = 0

/-- a matrix that came in -/
structure InMat (w : World) (A : Option Addr) (n cap : Nat) (R : Nat → Option Addr) (L C : Nat → Nat) (Z : Nat → Nat → Int) : Prop where
  mat : MatAt w A n R L C Z
  le : n ≤ cap
  room : cap * 24 ≤ 140737488351232
  rows : ∀ r, r < n → L r ≤ C r ∧ C r ≤ 140737488351232 ∧ (R r = none → C r = 0)

theorem open_bytes {H : Type} {enc : TypeId × Value → H} {W : World} {A : Option Addr} {n cap : Nat} {d : DataW H} {p : List MemPlace}
    (h : DataW.Trod enc Try.prog W 0 (fun _ => true) true 22 (.slice A n cap) d p) (hw : ∀ x ∈ d.weights Try.prog 22, x ≤ reachBytes) : ∃ f, InRow W A n cap f := by
  obtain ⟨fuel, hf⟩ := h
  rcases open_ints Try.underlying22 Try.underlying5 (by kernel_rfl) hf with ⟨hcs, _⟩ | ⟨x, l, c, zs, hcs, _, hl, hm, hz, hd, hcell, hwz⟩
  · simp [Value.cells] at hcs
    obtain ⟨rfl, rfl, rfl⟩ := hcs
    exact ⟨fun _ => 0, ⟨Or.inl rfl, fun _ => by show (0 : Int) ≤ 0 ∧ (0 : Int) < 256; decide⟩, Nat.le_refl _, Nat.zero_le _, fun _ => rfl⟩
  · simp [Value.cells] at hcs
    obtain ⟨rfl, rfl, rfl⟩ := hcs
    simp only [Prod.mk.injEq] at hd
    obtain ⟨rfl, _⟩ := hd
    simp only [if_true] at hz
    have hb : Try.prog.bytesOf 5 = 1 := by kernel_rfl
    have hcap : n ≤ cap ∧ cap ≤ 140737488351232 := by
      have := hw ((zs.take n).length * 1 + (zs.drop n).length * 1) (by
        simp only [DataW.weights, Try.underlying22, hb, lits, List.length_map]
        exact List.mem_cons.2 (Or.inl (by omega)))
      simp only [List.length_take, List.length_drop, reachBytes] at this
      omega
    refine ⟨fun i => zs.getD i 0, ⟨?_, byte_of zs hwz⟩, hcap.1, hcap.2, fun e => by cases e⟩
    rcases Nat.eq_zero_or_pos n with h0 | h0
    · exact Or.inl h0
    · obtain ⟨b, off, rfl, hc⟩ := cells_plain (n := zs.length) (V := fun i => .int .u8 (zs.getD i 0)) hcell (by omega)
      exact Or.inr ⟨b, off, rfl, fun i hi => hc i (by omega)⟩

theorem open_rows {H : Type} {enc : TypeId × Value → H} {W : World} {A : Option Addr} {n cap : Nat} {d : DataW H} {p : List MemPlace}
    (h : DataW.Trod enc Try.prog W 0 (fun _ => true) true 30 (.slice A n cap) d p) (hw : ∀ x ∈ d.weights Try.prog 30, x ≤ reachBytes) : ∃ R L C Z, InMat W A n cap R L C Z := by
  obtain ⟨fuel, hf⟩ := h
  rcases open_int_rows Try.underlying30 Try.underlying22 Try.underlying5 (by kernel_rfl) (by kernel_rfl) hf with ⟨hcs, _⟩ | ⟨x, l, c, R, L, C, Z, hcs, _, hl, hm, hd, hcell⟩
  · simp [Value.cells] at hcs
    obtain ⟨rfl, rfl, rfl⟩ := hcs
    exact ⟨fun _ => none, fun _ => 0, fun _ => 0, fun _ _ => 0, ⟨Or.inl rfl, fun r hr => by omega⟩, Nat.le_refl _, Nat.zero_le _, fun r hr => by omega⟩
  · simp [Value.cells] at hcs
    obtain ⟨rfl, rfl, rfl⟩ := hcs
    simp only [Prod.mk.injEq] at hd
    obtain ⟨rfl, _⟩ := hd
    have hb : Try.prog.bytesOf 5 = 1 := by kernel_rfl
    have hb2 : Try.prog.bytesOf 22 = 24 := by kernel_rfl
    have hcap : cap * 24 ≤ 140737488351232 := by
      have := hw ((n + (cap - n)) * 24) (by
        simp only [DataW.weights, Try.underlying30, hb2, List.length_map, List.length_range]
        exact List.mem_cons_self)
      simp only [reachBytes] at this
      omega
    have hin : ∀ (e : TypeId) (ds : List (DataW H)) (y : DataW H), y ∈ ds → ∀ u ∈ y.weights Try.prog e, u ∈ DataW.weightsAll Try.prog e ds := by
      intro e ds
      induction ds with
      | nil => intro y hy; cases hy
      | cons d0 ds ih =>
        intro y hy u hu
        simp only [DataW.weightsAll, List.mem_append]
        rcases List.mem_cons.1 hy with rfl | hy
        · exact Or.inl hu
        · exact Or.inr (ih y hy u hu)
    have hrow : ∀ r, r < n → C r ≤ 140737488351232 := fun r hr => by
      obtain ⟨_, hLC, _, hZ, _, hnil, _⟩ := hcell r (by omega)
      cases hR : R r with
      | none => rw [hnil hR]; omega
      | some a' =>
        have := hw (((Z r).take (L r)).length * 1 + ((Z r).drop (L r)).length * 1) (by
          simp only [DataW.weights, Try.underlying30]
          refine List.mem_cons.2 (Or.inr (List.mem_append.2 (Or.inl ?_)))
          refine hin _ _ (intRow .u8 (R r) (L r) (Z r)) (List.mem_map.2 ⟨r, List.mem_range.2 hr, rfl⟩) _ ?_
          simp only [intRow, hR, DataW.weights, Try.underlying22, hb, lits, List.length_map]
          exact List.mem_cons.2 (Or.inl (by omega)))
        simp only [List.length_take, List.length_drop, reachBytes] at this
        omega
    refine ⟨R, L, C, fun r i => (Z r).getD i 0, ⟨?_, fun r hr => ?_⟩, hl, hcap, fun r hr => ?_⟩
    · rcases Nat.eq_zero_or_pos n with h0 | h0
      · exact Or.inl h0
      · obtain ⟨b, off, rfl, hc⟩ := cells_plain (n := cap) (V := fun r => .slice (R r) (L r) (C r)) (fun i hi => (hcell i hi).1) (by omega)
        exact Or.inr ⟨b, off, rfl, fun i hi => hc i (by omega)⟩
    · obtain ⟨_, hLC, _, hZ, hwz, hnil, hc⟩ := hcell r (by omega)
      refine ⟨?_, byte_of (Z r) hwz⟩
      rcases Nat.eq_zero_or_pos (L r) with h0 | h0
      · exact Or.inl h0
      · cases hR : R r with
        | none => have := hnil hR; omega
        | some a' =>
          obtain ⟨b, off, rfl, hc'⟩ := cells_plain (n := C r) (V := fun i => .int .u8 ((Z r).getD i 0)) ((hc a' hR).2) (by omega)
          exact Or.inr ⟨b, off, rfl, fun i hi => hc' i (by omega)⟩
    · obtain ⟨_, hLC, _, hZ, hwz, hnil, hc⟩ := hcell r (by omega)
      exact ⟨hLC, hrow r hr, hnil⟩

theorem laidOut : laidOutB Try.prog = true := by kernel_rfl
theorem own : ownKnob Try.prog.godebug = none := by kernel_rfl

end Go.Proofs.Ytpgjkhlffcomgaa
