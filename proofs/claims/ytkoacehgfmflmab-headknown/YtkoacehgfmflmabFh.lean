/- The frame for a head and a list of turns that came in. -/
import Derived.Test.YtkoacehgfmflmabJ3
import Derived.Lib.SmallJoins
import Derived.Deep.SlicePairs
import Derived.ChangeMaps5
import Derived.SliceStrings
import Derived.Deep.Strs
namespace Go.Proofs.Ytkoacehgfmflmab
open Go.ChangeShapes Go.WideShapes Go.RowKit Go.Deep Go.Joins
set_option linter.unusedVariables false
set_option linter.unusedSimpArgs false

/-- a head that came in -/
structure InHead (h : Hd.Hdr) : Prop where
  name : h.name.length ≤ 140737488351232
  pre : h.pre.length ≤ 140737488351232
  link : h.link.length ≤ 140737488351232
  mode : -9223372036854775808 ≤ h.mode ∧ h.mode ≤ 9223372036854775807
  size : -9223372036854775808 ≤ h.size ∧ h.size ≤ 9223372036854775807
  time : -9223372036854775808 ≤ h.time ∧ h.time ≤ 9223372036854775807
theorem array7 {α : Type} {cs : Array α} (h : cs.size = 7) : ∃ c0 c1 c2 c3 c4 c5 c6, cs = #[c0, c1, c2, c3, c4, c5, c6] := by
  obtain ⟨l⟩ := cs
  match l, h with
  | [c0, c1, c2, c3, c4, c5, c6], _ => exact ⟨c0, c1, c2, c3, c4, c5, c6, rfl⟩
set_option maxRecDepth 100000 in
theorem open_head {H : Type} {enc : TypeId × Value → H} {W : World} {b0 : Nat} {v : Value} {d : DataW H} {p : List MemPlace} (hval : Value.okWide Try.prog W .any b0 23 v)
    (h : DataW.Trod enc Try.prog W 0 (fun _ => true) true 23 v d p) (hw : ∀ x ∈ d.weights Try.prog 23, x ≤ reachBytes) :
    ∃ y : Hd.Hdr, v = .agg (Hd.hv y) ∧ InHead y := by
  obtain ⟨cs, rfl, hsz⟩ := okWide_struct Try.underlying23 hval
  obtain ⟨c0, c1, c2, c3, c4, c5, c6, rfl⟩ := array7 (hsz.trans (by kernel_rfl))
  obtain ⟨fuel, hf⟩ := h
  obtain ⟨xs, n, _, hdp, hl, hlen, hx⟩ := DataW.trod_struct Try.underlying23 hf
  rw [Prod.mk.injEq] at hdp
  obtain ⟨rfl, rfl⟩ := hdp
  match xs, hlen with
  | [x0, x1, x2, x3, x4, x5, x6], _ =>
    have cS : Try.prog.cellsOf 9 = 1 := by kernel_rfl
    have cI : Try.prog.cellsOf 3 = 1 := by kernel_rfl
    have cU : Try.prog.cellsOf 5 = 1 := by kernel_rfl
    have h0 := hx 0 _ rfl
    have h1 := hx 1 _ rfl
    have h2 := hx 2 _ rfl
    have h3 := hx 3 _ rfl
    have h4 := hx 4 _ rfl
    have h5 := hx 5 _ rfl
    have h6 := hx 6 _ rfl
    simp [cS, cI, cU, Value.cells] at h0 h1 h2 h3 h4 h5 h6
    obtain ⟨s0, e0, y0, -⟩ := DataW.trod_string Try.underlying9 h0
    obtain ⟨s1, e1, y1, -⟩ := DataW.trod_string Try.underlying9 h1
    obtain ⟨i2, e2, -, w2⟩ := DataW.trod_int Try.underlying3 h2
    obtain ⟨i3, e3, -, w3⟩ := DataW.trod_int Try.underlying3 h3
    obtain ⟨i4, e4, -, w4⟩ := DataW.trod_int Try.underlying3 h4
    obtain ⟨i5, e5, -, w5⟩ := DataW.trod_int Try.underlying5 h5
    obtain ⟨s6, e6, y6, -⟩ := DataW.trod_string Try.underlying9 h6
    cases e0; cases e1; cases e2; cases e3; cases e4; cases e5; cases e6
    have hw2 : ∀ x ∈ DataW.weightsEach Try.prog [9, 9, 3, 3, 3, 5, 9] [x0.1, x1.1, x2.1, x3.1, x4.1, x5.1, x6.1], x ≤ reachBytes := by
      intro x hx
      refine hw x ?_
      simp only [DataW.weights, Try.underlying23]
      exact hx
    rw [y0, y1, y6] at hw2
    have hz : ∀ u : ByteArray, u.data.toList.length = u.size := fun u => by rw [Array.length_toList]; rfl
    have g0 := hw2 s0.data.toList.length (by simp [DataW.weightsEach, DataW.weights])
    have g1 := hw2 s1.data.toList.length (by simp [DataW.weightsEach, DataW.weights])
    have g6 := hw2 s6.data.toList.length (by simp [DataW.weightsEach, DataW.weights])
    rw [hz] at g0 g1 g6
    have b2 := bounds_i64 w2
    have b3 := bounds_i64 w3
    have b4 := bounds_i64 w4
    have b5 := bounds_u8 w5
    obtain ⟨c, rfl⟩ := Int.eq_ofNat_of_zero_le b5.1
    have hc : (UInt8.ofNat c).toNat = c := by rw [UInt8.toNat_ofNat']; have := b5.2; omega
    refine ⟨⟨s0.toList, i2, i3, i4, UInt8.ofNat c, s6.toList, s1.toList⟩, ?_, ?_⟩
    · unfold Hd.hv
      dsimp only
      rw [Hd.S_toList, Hd.S_toList, Hd.S_toList, hc]
    · exact ⟨by dsimp only; rw [Hd.size_toList]; exact g0, by dsimp only; rw [Hd.size_toList]; exact g1, by dsimp only; rw [Hd.size_toList]; exact g6, by dsimp only; omega, by dsimp only; omega, by dsimp only; omega⟩
/-- a list of turns that came in -/
structure InTurns (w : World) (A : Option Addr) (n cap : Nat) (T : Nat → Int) (C : Nat → UInt8) : Prop where
  at_ : n = 0 ∨ ∃ b off, A = some ⟨b, off, none⟩ ∧ ∀ i, i < n → w.cell? ⟨b, off + i * 2, none⟩ = some (.int .i64 (T i)) ∧ w.cell? ⟨b, off + (i * 2 + 1), none⟩ = some (.int .u8 (((C i).toNat : Nat) : Int))
  bd : ∀ i, i < n → -9223372036854775808 ≤ T i ∧ T i ≤ 9223372036854775807
  small : n ≤ 140737488351232
theorem InTurns.keep {w w' : World} {A : Option Addr} {n cap : Nat} {T : Nat → Int} {C : Nat → UInt8} (h : InTurns w A n cap T C) (g : Bw w w') : InTurns w' A n cap T C := by
  refine ⟨?_, h.bd, h.small⟩
  rcases h.at_ with h0 | ⟨b, off, e, hc⟩
  · exact .inl h0
  · refine .inr ⟨b, off, e, fun i hi => ?_⟩
    obtain ⟨h1, h2⟩ := hc i hi
    exact ⟨(g.cell (p := ⟨b, off + i * 2, none⟩) (block_lt_of_cell h1)).trans h1, (g.cell (p := ⟨b, off + (i * 2 + 1), none⟩) (block_lt_of_cell h2)).trans h2⟩
end Go.Proofs.Ytkoacehgfmflmab
