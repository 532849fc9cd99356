/- The frame for an item and a list of items that came in. -/
import Derived.Test.YtldkhbkgmiicbaaU2
import Derived.Test.YtldkhbkgmiicbaaFs
import Derived.Lib.SmallJoins
import Derived.Deep.Slices
import Derived.Deep.SlicePairs
namespace Go.Proofs.Ytldkhbkgmiicbaa
open Go.ChangeShapes Go.WideShapes Go.RowKit Go.Deep Go.Joins
set_option linter.unusedVariables false
set_option linter.unusedSimpArgs false

/-- a list of items that came in -/
structure InIts (w : World) (A : Option Addr) (n cap : Nat) (L : List Tr.Iv) : Prop where
  len : L.length = n
  its : ItsAt w A L
  le : n ≤ cap
  room : cap * 80 ≤ 140737488351232
  nil : A = none → n = 0 ∧ cap = 0
theorem weights_in11 {H : Type} (e : TypeId) : ∀ (ds : List (DataW H)) (y : DataW H), y ∈ ds → ∀ u ∈ y.weights Try.prog e, u ∈ DataW.weightsAll Try.prog e ds := by
  intro ds
  induction ds with
  | nil => intro y hy; cases hy
  | cons d0 ds ih =>
    intro y hy u hu
    simp only [DataW.weightsAll, List.mem_append]
    rcases List.mem_cons.1 hy with rfl | hy
    · exact Or.inl hu
    · exact Or.inr (ih y hy u hu)
theorem size_len11 (u : ByteArray) : u.data.toList.length = u.size := by rw [Array.length_toList]; rfl
/-- a row of bytes as a list -/
theorem row_list11 {w : World} {A : Option Addr} {n : Nat} {f : Nat → Int} (h : RowAt w A n f) : RowAt w A n (Tr.rowF (Tr.ofF f n)) := by
  refine ⟨?_, Tr.rowF_bd _⟩
  rcases h.1 with h0 | ⟨b, off, hA, hc⟩
  · exact .inl h0
  · exact .inr ⟨b, off, hA, fun i hi => by rw [hc i hi, Tr.rowF_ofF h.2 hi]⟩
set_option maxRecDepth 100000 in
/-- six values that are read as an item are one -/
theorem item_of {H : Type} {enc : TypeId × Value → H} {W : World} {m : Nat} {v0 v1 v2 v3 v4 v5 : Value} {y0 y1 y2 y3 y4 y5 : DataW H × List MemPlace}
    (g0 : DataW.trod enc Try.prog W 0 (fun _ => true) true m 9 [v0] = some y0) (g1 : DataW.trod enc Try.prog W 0 (fun _ => true) true m 22 [v1] = some y1) (g2 : DataW.trod enc Try.prog W 0 (fun _ => true) true m 3 [v2] = some y2) (g3 : DataW.trod enc Try.prog W 0 (fun _ => true) true m 3 [v3] = some y3)
    (g4 : DataW.trod enc Try.prog W 0 (fun _ => true) true m 23 [v4] = some y4) (g5 : DataW.trod enc Try.prog W 0 (fun _ => true) true m 9 [v5] = some y5)
    (hw : ∀ u, u ∈ (DataW.agg [y0.1, y1.1, y2.1, y3.1, y4.1, y5.1]).weights Try.prog 25 → u ≤ reachBytes) : ∃ y : Tr.Iv, [v0, v1, v2, v3, v4, v5] = y.vals ∧ BodyAt W y := by
  have hwe : ∀ u, u ∈ DataW.weightsEach Try.prog [9, 22, 3, 3, 23, 9] [y0.1, y1.1, y2.1, y3.1, y4.1, y5.1] → u ≤ reachBytes := fun u hu => hw u (by
    simp only [DataW.weights, Try.underlying25]
    exact hu)
  obtain ⟨s, e0, x0, -⟩ := DataW.trod_string Try.underlying9 g0
  obtain ⟨k, e1, x1, k1⟩ := DataW.trod_int Try.underlying22 g1
  obtain ⟨a, e2, x2, k2⟩ := DataW.trod_int Try.underlying3 g2
  obtain ⟨c, e3, x3, k3⟩ := DataW.trod_int Try.underlying3 g3
  obtain ⟨B, n, C, e4⟩ := slice_form Try.underlying23 g4
  obtain ⟨t, e5, x5, -⟩ := DataW.trod_string Try.underlying9 g5
  simp only [List.cons.injEq, and_true] at e0 e1 e2 e3 e4 e5
  subst e0 e1 e2 e3 e4 e5
  obtain ⟨F, hF⟩ := open_bytes (A := B) (n := n) (cap := C) (d := y4.1) (p := y4.2) ⟨m, g4⟩ (fun u hu => hwe u (DataW.weights_mem_each (j := 4) (t := 23) rfl rfl u hu))
  have b0 : s.size ≤ 140737488351232 := by
    have := hwe s.data.toList.length (DataW.weights_mem_each (j := 0) (t := 9) (d := y0.1) rfl rfl _ (by rw [x0]; simp [DataW.weights]))
    rwa [size_len11] at this
  have b5 : t.size ≤ 140737488351232 := by
    have := hwe t.data.toList.length (DataW.weights_mem_each (j := 5) (t := 9) (d := y5.1) rfl rfl _ (by rw [x5]; simp [DataW.weights]))
    rwa [size_len11] at this
  have kb := bounds_u8 k1
  have ab := bounds_i64 k2
  have cb := bounds_i64 k3
  have hcap := hF.room
  have hle := hF.le
  refine ⟨⟨⟨s.toList, k.toNat, a, c, Tr.ofF F n, t.toList⟩, B, C⟩, ?_, ?_⟩
  · unfold Tr.Iv.vals
    rw [Nm.S_toList, Nm.S_toList, Tr.ofF_len]
    dsimp only
    rw [show ((k.toNat : Nat) : Int) = k by omega]
  · refine ⟨?_, ?_, hF.nil, ⟨?_, ?_, ?_, ?_, ?_, ?_⟩⟩
    · show RowAt W B (Tr.ofF F n).length (Tr.rowF (Tr.ofF F n))
      rw [Tr.ofF_len]; exact row_list11 hF.row
    · show (Tr.ofF F n).length ≤ C
      rw [Tr.ofF_len]; exact hle
    · show k.toNat < 256; omega
    · exact ⟨ab.1, by have := ab.2; omega⟩
    · exact ⟨cb.1, by have := cb.2; omega⟩
    · show s.toList.length ≤ _; rw [Nm.size_toList]; exact b0
    · show (Tr.ofF F n).length ≤ _; rw [Tr.ofF_len]; omega
    · show t.toList.length ≤ _; rw [Nm.size_toList]; exact b5
theorem array6 {cs : Array Value} (h : cs.size = 6) : ∃ a b c d e f, cs = #[a, b, c, d, e, f] := by
  obtain ⟨l⟩ := cs
  match l, h with
  | [a, b, c, d, e, f], _ => exact ⟨a, b, c, d, e, f, rfl⟩
set_option maxRecDepth 100000 in
theorem open_item {H : Type} {enc : TypeId × Value → H} {W : World} {b0 : Nat} {v : Value} {d : DataW H} {p : List MemPlace} (hval : Value.okWide Try.prog W .any b0 25 v)
    (h : DataW.Trod enc Try.prog W 0 (fun _ => true) true 25 v d p) (hw : ∀ x ∈ d.weights Try.prog 25, x ≤ reachBytes) :
    ∃ y : Tr.Iv, v = .agg (Tr.Iv.vals y).toArray ∧ BodyAt W y := by
  obtain ⟨cs, rfl, hsz⟩ := okWide_struct Try.underlying25 hval
  obtain ⟨c0, c1, c2, c3, c4, c5, rfl⟩ := array6 (hsz.trans (by kernel_rfl))
  obtain ⟨fuel, hf⟩ := h
  obtain ⟨xs, n, _, hdp, hl, hlen, hx⟩ := DataW.trod_struct Try.underlying25 hf
  rw [Prod.mk.injEq] at hdp
  obtain ⟨rfl, rfl⟩ := hdp
  match xs, hlen with
  | [x0, x1, x2, x3, x4, x5], _ =>
    have cS : Try.prog.cellsOf 9 = 1 := by kernel_rfl
    have cK : Try.prog.cellsOf 22 = 1 := by kernel_rfl
    have cI : Try.prog.cellsOf 3 = 1 := by kernel_rfl
    have cU : Try.prog.cellsOf 23 = 1 := by kernel_rfl
    have h0 := hx 0 _ rfl
    have h1 := hx 1 _ rfl
    have h2 := hx 2 _ rfl
    have h3 := hx 3 _ rfl
    have h4 := hx 4 _ rfl
    have h5 := hx 5 _ rfl
    simp [cS, cI, cU, cK, Value.cells] at h0 h1 h2 h3 h4 h5
    obtain ⟨y, hy, hb⟩ := item_of h0 h1 h2 h3 h4 h5 (fun u hu => hw u hu)
    exact ⟨y, by rw [← hy], hb⟩
end Go.Proofs.Ytldkhbkgmiicbaa
