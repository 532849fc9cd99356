/- Layer 14: what a small disk does (the statements' own 'wakes'). -/
import Derived.Test.YtppknadflmjefaaC9
import Derived.Great.BuildSlice
namespace Go.Proofs.Ytppknadflmjefaa
open Go.RowKit Go.Deep Go.Maps
set_option linter.unusedVariables false
set_option linter.unusedSimpArgs false

/-- two bytes, bit by bit unlike -/
def x8 (a b : Int) : Int := ((a.toNat ^^^ b.toNat : Nat) : Int)
theorem x8_bits {a b : Int} (ha : 0 ≤ a ∧ a < 256) (hb : 0 ≤ b ∧ b < 256) : bits .xor .u8 a b = x8 a b := by
  obtain ⟨x, rfl⟩ : ∃ x : Nat, a = (x : Int) := ⟨a.toNat, by omega⟩
  obtain ⟨y, rfl⟩ : ∃ y : Nat, b = (y : Int) := ⟨b.toNat, by omega⟩
  exact u8_xor_nat x y (by omega) (by omega)
theorem x8_bd {a b : Int} (ha : 0 ≤ a ∧ a < 256) (hb : 0 ≤ b ∧ b < 256) : 0 ≤ x8 a b ∧ x8 a b < 256 := by
  unfold x8
  have h1 : a.toNat ^^^ b.toNat < 2 ^ 8 := Nat.xor_lt_two_pow (by omega) (by omega)
  omega
/-- the byte at a place is changed -/
def rotF (f : Nat → Int) (j : Nat) (y : Int) (p : Nat) : Int := if p = j then x8 (f p) y else f p
theorem rotF_bd {f : Nat → Int} {j : Nat} {y : Int} (hf : ∀ i, 0 ≤ f i ∧ f i < 256) (hy : 0 ≤ y ∧ y < 256) (p : Nat) : 0 ≤ rotF f j y p ∧ rotF f j y p < 256 := by
  unfold rotF
  by_cases e : p = j
  · rw [if_pos e]; exact x8_bd (hf p) hy
  · rw [if_neg e]; exact hf p
def Dsk.rot (S : Dsk) (s c : Nat) (y : Int) : Dsk := { S with last := rotF S.last (64 * s + c) y, wait := rotF S.wait (64 * s + c) y }
/-- what Rot answers, and the disk behind it -/
def Dsk.rots (S : Dsk) (x z y : Int) : Int × Dsk := if 0 ≤ x ∧ x < S.n ∧ 0 ≤ z ∧ z < 64 then (0, S.rot x.toNat z.toNat y) else (1, S)
end Go.Proofs.Ytppknadflmjefaa
namespace Go.Proofs.Ytppknadflmjefaa
open Go.RowKit Go.Deep Go.Maps
set_option linter.unusedVariables false
set_option linter.unusedSimpArgs false

/-- the bytes that it is given -/
def wkB (i : Nat) : Int := if i = 9 then 8 else if i = 0 then 7 else 0
theorem wkB_bd (i : Nat) : 0 ≤ wkB i ∧ wkB i < 256 := by unfold wkB; split; decide; split <;> decide
def wk1 : Dsk := (Dsk.new 4).burnt.put 1 1 wkB
def wk2 : Dsk := wk1.again (fun _ => 9) 1
theorem wk1_cnt : Dsk.cnt wk1.is wk1.n = 1 := by decide
theorem wk1_9 : wk1.read (64 * 1 + 9) = 8 := by decide
theorem wk2_0 : wk2.read (64 * 1 + 0) = 7 := by decide
theorem wk2_9 : wk2.read (64 * 1 + 9) = 0 := by decide
theorem wkM {M : Array Value} (hM : M.size = 64) (h : ∀ i, i < 64 → M[i]? = some (.int .u8 0)) : ∀ i, i < 64 → ((M.setIfInBounds 0 (.int .u8 7)).setIfInBounds 9 (.int .u8 8))[i]? = some (.int .u8 (wkB i)) := fun i hi => by
  unfold wkB
  by_cases h9 : i = 9
  · subst h9; rw [Array.getElem?_setIfInBounds_self_of_lt (by simp; omega)]; rfl
  · rw [Array.getElem?_setIfInBounds_ne (Ne.symm h9), if_neg h9]
    by_cases h0 : i = 0
    · subst h0; rw [Array.getElem?_setIfInBounds_self_of_lt (by omega)]; rfl
    · rw [Array.getElem?_setIfInBounds_ne (Ne.symm h0), if_neg h0, h i hi]
theorem ints_new (W : World) (v : Int) (hv : -9223372036854775808 ≤ v ∧ v ≤ 9223372036854775807) (t : TypeId) : IntsAt (W.alloc (.cells #[.int .i64 v] t)) (some ⟨W.heap.size, 0, none⟩) 1 (fun _ => v) :=
  ⟨Or.inr ⟨W.heap.size, 0, rfl, fun i hi => by rw [Nat.zero_add, World.cell?_alloc_at _ t _ i rfl]; obtain rfl : i = 0 := (by omega); rfl⟩, fun _ => hv⟩
end Go.Proofs.Ytppknadflmjefaa
