/- Plain arithmetic: a product of two polynomials, modulo the field's, is the product bit by bit; squares; what is looked for by going through all bytes. -/
import Derived.Test.YtpgjkhlffcomgaaMath
namespace Go.Proofs.Ytpgjkhlffcomgaa.Gf

def r1 (a b : Nat) : Nat → Nat
  | 0 => 0
  | k + 1 => cond (Nat.beq (b / 2 ^ k % 2) 1) (r1 a b k ^^^ (a * 2 ^ k)) (r1 a b k)

/-- j steps from the bit 14 down -/
def r2 (p : Nat) : Nat → Nat
  | 0 => p
  | j + 1 => force (r2 p j) fun q => cond (Nat.beq (q / 2 ^ (14 - j) % 2) 1) (q ^^^ (285 * 2 ^ (6 - j))) q

theorem r2_succ (p j : Nat) : r2 p (j + 1) = cond (Nat.beq (r2 p j / 2 ^ (14 - j) % 2) 1) (r2 p j ^^^ (285 * 2 ^ (6 - j))) (r2 p j) := force_eq _ _

def rmul (a b : Nat) : Nat := r2 (r1 a b 8) 7

theorem r1_right (a b c : Nat) : ∀ k, r1 a (b ^^^ c) k = r1 a b k ^^^ r1 a c k
  | 0 => by simp [r1]
  | k + 1 => by
    unfold r1
    rw [r1_right a b c k, bit_xor]
    rcases bit01 b k with e | e <;> rcases bit01 c k with f | f <;> rw [e, f]
    · rfl
    · exact Nat.xor_assoc _ _ _
    · show r1 a b k ^^^ r1 a c k ^^^ _ = r1 a b k ^^^ _ ^^^ r1 a c k
      rw [Nat.xor_assoc, Nat.xor_assoc, Nat.xor_comm (a * 2 ^ k)]
    · show r1 a b k ^^^ r1 a c k = (r1 a b k ^^^ _) ^^^ (r1 a c k ^^^ _)
      rw [xor4, Nat.xor_self, Nat.xor_zero]

theorem r2_xor (p q : Nat) : ∀ j, r2 (p ^^^ q) j = r2 p j ^^^ r2 q j
  | 0 => rfl
  | j + 1 => by
    rw [r2_succ, r2_succ, r2_succ, r2_xor p q j, bit_xor]
    rcases bit01 (r2 p j) (14 - j) with e | e <;> rcases bit01 (r2 q j) (14 - j) with f | f <;> rw [e, f]
    · rfl
    · exact Nat.xor_assoc _ _ _
    · show r2 p j ^^^ r2 q j ^^^ _ = r2 p j ^^^ _ ^^^ r2 q j
      rw [Nat.xor_assoc, Nat.xor_assoc, Nat.xor_comm (285 * 2 ^ (6 - j))]
    · show r2 p j ^^^ r2 q j = (r2 p j ^^^ _) ^^^ (r2 q j ^^^ _)
      rw [xor4, Nat.xor_self, Nat.xor_zero]

theorem rmul_basis (a i : Nat) (ha : a < 256) (hi : i < 8) : rmul a (2 ^ i) = mul a (2 ^ i) := by
  have := allB_spec (allB_spec (p := fun a => allB 8 fun i => Nat.beq (rmul a (2 ^ i)) (mul a (2 ^ i))) (n := 256) (by decide +kernel) a ha) i hi
  exact Nat.eq_of_beq_eq_true this

theorem rmul_eq (a b : Nat) (ha : a < 256) (hb : b < 256) : rmul a b = mul a b :=
  lin_ext (f := fun b => rmul a b) (g := fun b => mul a b) (fun x y _ _ => by show r2 (r1 a _ 8) 7 = _; rw [r1_right, r2_xor]; rfl) (fun x y _ _ => mul_add a x y ha) (fun i hi => rmul_basis a i ha hi) b hb

theorem r1_lt (a b : Nat) (ha : a < 256) : ∀ k, k ≤ 8 → r1 a b k < 32768
  | 0, _ => by show 0 < 32768; decide
  | k + 1, hk => by
    have h := r1_lt a b ha k (by omega)
    unfold r1
    cases Nat.beq (b / 2 ^ k % 2) 1
    · exact h
    · have hp : 2 ^ k ≤ 2 ^ 7 := Nat.pow_le_pow_right (by decide) (by omega)
      have hm : a * 2 ^ k ≤ 255 * 2 ^ 7 := Nat.mul_le_mul (by omega) hp
      exact Nat.xor_lt_two_pow (n := 15) h (by omega)

theorem r2_lt (p : Nat) (hp : p < 32768) : ∀ j, r2 p j < 32768
  | 0 => hp
  | j + 1 => by
    have h := r2_lt p hp j
    rw [r2_succ]
    cases Nat.beq (r2 p j / 2 ^ (14 - j) % 2) 1
    · exact h
    · have hq : 2 ^ (6 - j) ≤ 2 ^ 6 := Nat.pow_le_pow_right (by decide) (by omega)
      have hm : 285 * 2 ^ (6 - j) ≤ 285 * 2 ^ 6 := Nat.mul_le_mul (Nat.le_refl _) hq
      exact Nat.xor_lt_two_pow (n := 15) h (by omega)

/-! squares -/
theorem sq_add (a b : Nat) (ha : a < 256) (hb : b < 256) : mul (a ^^^ b) (a ^^^ b) = mul a a ^^^ mul b b := by
  rw [mul_add _ _ _ (xor_lt a b ha hb), add_mul a b a ha hb, add_mul a b b ha hb, mul_comm b a hb ha, Nat.xor_comm (mul a b) (mul b b), xor4, Nat.xor_self, Nat.xor_zero]

theorem xor_eq_zero {a b : Nat} (h : a ^^^ b = 0) : a = b := by
  have : a ^^^ (a ^^^ b) = a ^^^ 0 := by rw [h]
  rw [← Nat.xor_assoc, Nat.xor_self, Nat.zero_xor, Nat.xor_zero] at this
  exact this.symm

theorem sq_inj (a b : Nat) (ha : a < 256) (hb : b < 256) (h : mul a a = mul b b) : a = b := by
  have e := sq_add a b ha hb
  rw [h, Nat.xor_self] at e
  have := (mul_eq_zero _ _ (xor_lt a b ha hb) (xor_lt a b ha hb)).1 e
  exact xor_eq_zero (this.elim id id)

end Go.Proofs.Ytpgjkhlffcomgaa.Gf
