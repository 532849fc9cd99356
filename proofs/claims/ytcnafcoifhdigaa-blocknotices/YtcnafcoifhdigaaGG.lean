/- A block's bytes with some bits changed. -/
import Derived.Test.YtcnafcoifhdigaaGF
import Derived.BigRegion
namespace Go.Proofs.Ytcnafcoifhdigaa
open Go.RowKit Go.Deep
set_option linter.unusedVariables false
set_option linter.unusedSimpArgs false

theorem cast_shr6 (x k : Nat) : (x : Int) / 2 ^ k = ((x / 2 ^ k : Nat) : Int) := by rw [Int.natCast_ediv, Int.natCast_pow]; rfl
theorem bit_and6 (x k : Nat) (hx : x < 4294967296) : bits .and .u32 ((x : Int) / 2 ^ k) 1 = ((x / 2 ^ k % 2 : Nat) : Int) := by
  rw [cast_shr6, and_one _ (Nat.lt_of_le_of_lt (Nat.div_le_self _ _) hx)]
def chgB (f : Nat → Int) (L u p k j : Nat) : Int := ((nb (sealF f L) j ^^^ Crc.byteAt (Crc.chg u p k) j : Nat) : Int)
theorem chgB_bd {f : Nat → Int} (hf : ∀ i, 0 ≤ f i ∧ f i < 256) (L u p k j : Nat) : 0 ≤ chgB f L u p k j ∧ chgB f L u p k j < 256 := by
  unfold chgB
  have := Crc.xor_lt8 (nb_lt (sealF_bd hf L) j) (Crc.byteAt_lt (Crc.chg u p k) j)
  omega
theorem chgB_set {f : Nat → Int} (hf : ∀ i, 0 ≤ f i ∧ f i < 256) {L u p k j r : Nat} (hb : u / 2 ^ k % 2 = 1) (hj : j = (p + k) / 8) (hr : r = (p + k) % 8) : bits .xor .u8 (chgB f L u p k j) ((2 : Int) ^ r % 256) = chgB f L u p (k + 1) j := by
  have h8 : r < 8 := by omega
  have h2 : (2 : Nat) ^ r < 256 := by have := Nat.pow_lt_pow_right (a := 2) (by decide) h8; simpa using this
  have e : (2 : Int) ^ r % 256 = ((2 ^ r : Nat) : Int) := by
    have e : (2 : Int) ^ r = ((2 ^ r : Nat) : Int) := by rw [Int.natCast_pow]; rfl
    rw [e]
    generalize (2 : Nat) ^ r = q at *
    omega
  have hlt := Crc.xor_lt8 (nb_lt (sealF_bd hf L) j) (Crc.byteAt_lt (Crc.chg u p k) j)
  rw [e]
  unfold chgB
  rw [u8_xor_nat _ _ hlt h2, Crc.chg_yes hb, Crc.byteAt_xor, Crc.byteAt_pow, if_pos hj, ← hr, Nat.xor_assoc]
theorem chgB_other (f : Nat → Int) {L u p k j c : Nat} (hb : u / 2 ^ k % 2 = 1) (hj : j = (p + k) / 8) (hc : c ≠ j) : chgB f L u p (k + 1) c = chgB f L u p k c := by
  unfold chgB
  rw [Crc.chg_yes hb, Crc.byteAt_xor, Crc.byteAt_pow, if_neg (by omega), Nat.xor_zero]
theorem chgB_shut {f : Nat → Int} (hf : ∀ i, 0 ≤ f i ∧ f i < 256) (L u p : Nat) (hu : u < 4294967296) (u0 : u ≠ 0) (hp : p + 32 ≤ 8 * (L + 4)) : ¬ Crc.Opens (nb (chgB f L u p 32)) L := by
  have e : nb (chgB f L u p 32) = fun j => nb (sealF f L) j ^^^ Crc.byteAt (u * 2 ^ p) j := by
    funext j
    unfold chgB
    rw [Crc.chg_all p hu]
    exact Int.toNat_natCast _
  rw [e]
  exact Crc.notices (nb (sealF f L)) (nb_lt (sealF_bd hf L)) L p u hu u0 hp (seal_open f L)
theorem place_at6 (c : Int) : ∃ p : Nat, p ≤ 992 ∧ ((c.tmod 993 + 993).tmod 993 = (p : Int)) := by
  have h2 := Int.lt_tmod_of_pos c (b := 993) (by omega)
  have h3 := Int.tmod_nonneg (a := c.tmod 993 + 993) 993 (by omega)
  have h4 := Int.tmod_lt_of_pos (c.tmod 993 + 993) (b := 993) (by omega)
  exact ⟨((c.tmod 993 + 993).tmod 993).toNat, by omega, by omega⟩
end Go.Proofs.Ytcnafcoifhdigaa
