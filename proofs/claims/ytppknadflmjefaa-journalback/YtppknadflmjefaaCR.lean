/- Layer 14: the program's Rot. -/
import Derived.Test.YtppknadflmjefaaC9
namespace Go.Proofs.Ytppknadflmjefaa
open Go.RowKit Go.Deep Go.Maps
set_option linter.unusedVariables false
set_option linter.unusedSimpArgs false

/-- two bytes, bit by bit unlike -/
def x8 (a b : Int) : Int := ((a.toNat ^^^ b.toNat : Nat) : Int)
theorem x8_bits {a b : Int} (ha : 0 ≤ a ∧ a < 256) (hb : 0 ≤ b ∧ b < 256) : bits .xor .u8 a b = x8 a b := by
  obtain ⟨x, rfl⟩ : ∃ x : Nat, a = (x : Int) := ⟨a.toNat, by omega⟩
  obtain ⟨y, rfl⟩ : ∃ y : Nat, b = (y : Int) := ⟨b.toNat, by omega⟩
  exact u8_xor_nat x y (by omega) (by omega)
theorem x8_bd {a b : Int} (ha : 0 ≤ a ∧ a < 256) (hb : 0 ≤ b ∧ b < 256) : 0 ≤ x8 a b ∧ x8 a b < 256 := by
  unfold x8
  have h1 : a.toNat ^^^ b.toNat < 2 ^ 8 := Nat.xor_lt_two_pow (by omega) (by omega)
  omega
/-- the byte at a place is changed -/
def rotF (f : Nat → Int) (j : Nat) (y : Int) (p : Nat) : Int := if p = j then x8 (f p) y else f p
theorem rotF_bd {f : Nat → Int} {j : Nat} {y : Int} (hf : ∀ i, 0 ≤ f i ∧ f i < 256) (hy : 0 ≤ y ∧ y < 256) (p : Nat) : 0 ≤ rotF f j y p ∧ rotF f j y p < 256 := by
  unfold rotF
  by_cases e : p = j
  · rw [if_pos e]; exact x8_bd (hf p) hy
  · rw [if_neg e]; exact hf p
def Dsk.rot (S : Dsk) (s c : Nat) (y : Int) : Dsk := { S with last := rotF S.last (64 * s + c) y, wait := rotF S.wait (64 * s + c) y }
/-- what Rot answers, and the disk behind it -/
def Dsk.rots (S : Dsk) (x z y : Int) : Int × Dsk := if 0 ≤ x ∧ x < S.n ∧ 0 ≤ z ∧ z < 64 then (0, S.rot x.toNat z.toNat y) else (1, S)
end Go.Proofs.Ytppknadflmjefaa
