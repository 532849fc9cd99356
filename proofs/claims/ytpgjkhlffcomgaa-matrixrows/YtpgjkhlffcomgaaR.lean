/- The field's arithmetic, said of whole numbers: sums, products, inverses, powers. -/
import Derived.Test.YtpgjkhlffcomgaaW3
import Derived.Test.YtpgjkhlffcomgaaMath2
namespace Go.Proofs.Ytpgjkhlffcomgaa

theorem add_comm (a b : Int) : addI b a = addI a b := by unfold addI; rw [Nat.xor_comm]
theorem add_assoc (a b c : Int) : addI (addI a b) c = addI a (addI b c) := by unfold addI; rw [Int.toNat_natCast, Int.toNat_natCast, Nat.xor_assoc]
theorem add_zero (a : Int) (a0 : 0 ≤ a) : addI a 0 = a := by unfold addI; simp; omega
theorem add_self (a : Int) : addI a a = 0 := by unfold addI; simp
theorem mul_comm (a b : Int) (a1 : a < 256) (b1 : b < 256) : mulI b a = mulI a b := by unfold mulI; rw [Gf.mul_comm _ _ (by omega) (by omega)]
theorem mul_assoc (a b c : Int) (a1 : a < 256) (b1 : b < 256) : mulI (mulI a b) c = mulI a (mulI b c) := by unfold mulI; rw [Int.toNat_natCast, Int.toNat_natCast, Gf.mul_assoc _ _ _ (by omega) (by omega)]
theorem mul_one (a : Int) (a0 : 0 ≤ a) (a1 : a < 256) : mulI a 1 = a := by
  unfold mulI; rw [show (1 : Int).toNat = 1 from rfl, Gf.mul_one _ (by omega)]; omega
theorem mul_zero (a : Int) (a1 : a < 256) : mulI a 0 = 0 := by
  unfold mulI; rw [show (0 : Int).toNat = 0 from rfl, Gf.mul_zero _ (by omega)]; rfl
theorem mul_add (a b c : Int) (a1 : a < 256) : mulI a (addI b c) = addI (mulI a b) (mulI a c) := by
  unfold mulI addI; rw [Int.toNat_natCast, Int.toNat_natCast, Int.toNat_natCast, Gf.mul_add _ _ _ (by omega)]
theorem mul_zero_iff (a b : Int) (a0 : 0 ≤ a) (a1 : a < 256) (b0 : 0 ≤ b) (b1 : b < 256) : mulI a b = 0 ↔ a = 0 ∨ b = 0 := by
  have := Gf.mul_eq_zero a.toNat b.toNat (by omega) (by omega)
  unfold mulI; omega

theorem expI_congr {m n : Int} (h : m % 255 = n % 255) : expI m = expI n := by unfold expI; rw [h]
theorem expI_nat (n : Nat) : expI n = ((Gf.exp n : Nat) : Int) := by
  unfold expI
  have : ((n : Int) % 255).toNat = n % 255 := by omega
  rw [this, Gf.exp_mod]
theorem expI_add (m n : Int) : mulI (expI m) (expI n) = expI (m + n) := by
  have h : mulI (expI m) (expI n) = expI (((m % 255).toNat + (n % 255).toNat : Nat) : Int) := by
    rw [expI_nat, Gf.exp_add]; unfold mulI expI; rw [Int.toNat_natCast, Int.toNat_natCast]
  rw [h]
  exact expI_congr (by omega)
theorem expI_zero : expI 0 = 1 := by decide +kernel
theorem expI_pos (n : Int) : 0 < expI n := by
  have := Gf.exp_ne (n % 255).toNat
  unfold expI; omega
theorem exp_lgI (a : Int) (a0 : 0 < a) (a1 : a < 256) : expI (lgI a) = a := by
  unfold lgI
  rw [expI_nat, (Gf.lg_facts a.toNat (by omega) (by omega)).2]; omega
theorem lg_expI (n : Int) : lgI (expI n) = n % 255 := by
  unfold lgI expI
  rw [Int.toNat_natCast, Gf.lg_exp]; omega

theorem inv_mul (b : Int) (b0 : 0 < b) (b1 : b < 256) : mulI (invI b) b = 1 := by
  have h : mulI (invI b) b = mulI (expI (-lgI b)) (expI (lgI b)) := by rw [exp_lgI b b0 b1]; rfl
  rw [h, expI_add, show -lgI b + lgI b = 0 by omega, expI_zero]
theorem inv_pos (b : Int) : 0 < invI b := expI_pos _
theorem div_mul (a b : Int) (a0 : 0 ≤ a) (a1 : a < 256) (b0 : 0 < b) (b1 : b < 256) : mulI (mulI a (invI b)) b = a := by
  rw [mul_assoc _ _ _ a1 (invI_bd b).2, inv_mul b b0 b1, mul_one a a0 a1]
theorem inv_inv (b : Int) (b0 : 0 < b) (b1 : b < 256) : invI (invI b) = b := by
  have h : lgI (invI b) = (-lgI b) % 255 := lg_expI _
  show expI (-lgI (invI b)) = b
  rw [h, expI_congr (n := lgI b) (by omega), exp_lgI b b0 b1]

theorem powI_eq (a n : Int) (a0 : 0 < a) : powI a n = expI (lgI a * n) := by
  unfold powI
  by_cases h : n = 0
  · subst h; rw [if_pos rfl, Int.mul_zero, expI_zero]
  · rw [if_neg h, if_neg (by omega)]
    exact expI_congr (by rw [Int.mul_emod, Int.emod_emod_of_dvd n (Int.dvd_refl _), ← Int.mul_emod])
theorem pow_sum (a m n : Int) (a0 : 0 < a) : mulI (powI a m) (powI a n) = powI a (m + n) := by
  rw [powI_eq a m a0, powI_eq a n a0, powI_eq a (m + n) a0, expI_add, Int.mul_add]
theorem pow_255 (a : Int) (a0 : 0 < a) : powI a 255 = 1 := by
  rw [powI_eq a 255 a0, expI_congr (n := 0) (by omega), expI_zero]
theorem pow_two (a : Int) (a0 : 0 ≤ a) (a1 : a < 256) : powI a 2 = mulI a a := by
  by_cases h : a = 0
  · subst h; decide +kernel
  · have e : mulI a a = mulI (expI (lgI a)) (expI (lgI a)) := by rw [exp_lgI a (by omega) a1]
    rw [powI_eq a 2 (by omega), e, expI_add]
    exact congrArg expI (by omega)
theorem sq_add (a b : Int) (a1 : a < 256) (b1 : b < 256) : mulI (addI a b) (addI a b) = addI (mulI a a) (mulI b b) := by
  unfold mulI addI; rw [Int.toNat_natCast, Int.toNat_natCast, Int.toNat_natCast, Gf.sq_add _ _ (by omega) (by omega)]
theorem sq_inj (a b : Int) (a0 : 0 ≤ a) (a1 : a < 256) (b0 : 0 ≤ b) (b1 : b < 256) : mulI a a = mulI b b ↔ a = b := by
  constructor
  · intro h
    unfold mulI at h
    have := Gf.sq_inj a.toNat b.toNat (by omega) (by omega) (by omega)
    omega
  · intro h; rw [h]

end Go.Proofs.Ytpgjkhlffcomgaa
