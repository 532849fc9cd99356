/- What a call is told of a block that came in. -/
import Derived.Test.YtcnafcoifhdigaaK0
import Derived.Lib.SmallJoins
namespace Go.Proofs.Ytcnafcoifhdigaa
open Go.ChangeShapes Go.WideShapes Go.RowKit Go.Deep Go.Joins
set_option linter.unusedVariables false
set_option linter.unusedSimpArgs false

/-- a block that came in -/
structure InBlk (w : World) (k s h : Nat) (A : Option Addr) (n cap : Nat) (f : Nat → Int) : Prop where
  key : k < 18446744073709551616
  stripe : s < 4294967296
  shard : h < 256
  data : InRow w A n cap f

set_option maxRecDepth 100000 in
theorem open_block {H : Type} {enc : TypeId × Value → H} {W : World} {b0 : Nat} {v : Value} {d : DataW H} {p : List MemPlace} (hval : Value.okWide Try.prog W .any b0 26 v)
    (h : DataW.Trod enc Try.prog W 0 (fun _ => true) true 26 v d p) (hw : ∀ x ∈ d.weights Try.prog 26, x ≤ reachBytes) :
    ∃ (k s h : Nat) (A : Option Addr) (n cap : Nat) (f : Nat → Int), v = .agg #[.int .u64 (k : Int), .int .u32 (s : Int), .int .u8 (h : Int), .slice A n cap] ∧ InBlk W k s h A n cap f := by
  obtain ⟨v0, v1, v2, v3, y0, y1, y2, y3, fuel, rfl, rfl, -, t0, t1, t2, t3⟩ := open_agg4 Try.underlying26 (by kernel_rfl) (by kernel_rfl) hval h
  obtain ⟨K, e0, -, wK⟩ := DataW.trod_int Try.underlying22 t0
  obtain ⟨S, e1, -, wS⟩ := DataW.trod_int Try.underlying23 t1
  obtain ⟨Hh, e2, -, wH⟩ := DataW.trod_int Try.underlying5 t2
  obtain ⟨A, n, cap, e3⟩ := slice_form Try.underlying24 t3
  cases e0; cases e1; cases e2; cases e3
  have hw2 : ∀ x ∈ DataW.weightsEach Try.prog [22, 23, 5, 24] [y0.1, y1.1, y2.1, y3.1], x ≤ reachBytes := by
    intro x hx
    refine hw x ?_
    simp only [DataW.weights, Try.underlying26]
    exact hx
  obtain ⟨f, hR⟩ := open_bytes (A := A) (n := n) (cap := cap) (d := y3.1) (p := y3.2) ⟨fuel, t3⟩ (fun x hx => hw2 x (DataW.weights_mem_each (j := 3) (t := 24) rfl rfl x hx))
  have bK := bounds_u64 wK
  have bS := bounds_u32 wS
  have bH := bounds_u8 wH
  obtain ⟨k, rfl⟩ := Int.eq_ofNat_of_zero_le bK.1
  obtain ⟨s, rfl⟩ := Int.eq_ofNat_of_zero_le bS.1
  obtain ⟨h', rfl⟩ := Int.eq_ofNat_of_zero_le bH.1
  exact ⟨k, s, h', A, n, cap, f, rfl, ⟨by have := bK.2; omega, by have := bS.2; omega, by have := bH.2; omega, hR⟩⟩

end Go.Proofs.Ytcnafcoifhdigaa
