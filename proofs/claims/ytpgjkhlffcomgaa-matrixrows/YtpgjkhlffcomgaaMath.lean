/- Plain arithmetic of the field of 256 numbers: doubling, products bit by bit, powers of 2 and which power a number is; nothing of the program is named here. -/
namespace Go.Proofs.Ytpgjkhlffcomgaa.Gf

/-- all numbers below n -/
def allB : Nat → (Nat → Bool) → Bool
  | 0, _ => true
  | k + 1, p => (p k).and (allB k p)

theorem allB_spec {p : Nat → Bool} : ∀ {n : Nat}, allB n p = true → ∀ k, k < n → p k = true
  | 0, _, k, hk => absurd hk (Nat.not_lt_zero k)
  | n + 1, h, k, hk => by
    unfold allB at h
    have h' : p n = true ∧ allB n p = true := by
      cases hp : p n <;> cases hq : allB n p <;> simp_all
    by_cases e : k = n
    · subst e; exact h'.1
    · exact allB_spec h'.2 k (by omega)

/-- the number first, then what is made of it -/
def force (n : Nat) (f : Nat → Nat) : Nat :=
  match n with
  | 0 => f 0
  | k + 1 => f (k + 1)

theorem force_eq (n : Nat) (f : Nat → Nat) : force n f = f n := by cases n <;> rfl

def dbl (a : Nat) : Nat := force a fun x => cond (Nat.blt x 128) (2 * x) ((2 * x) ^^^ 285)

theorem dbl_eq (a : Nat) : dbl a = cond (Nat.blt a 128) (2 * a) ((2 * a) ^^^ 285) := force_eq _ _

def mulUp (a b : Nat) : Nat → Nat
  | 0 => 0
  | k + 1 => cond (Nat.beq (b / 2 ^ (7 - k) % 2) 1) (dbl (mulUp a b k) ^^^ a) (dbl (mulUp a b k))

def mul (a b : Nat) : Nat := mulUp a b 8

def exp : Nat → Nat
  | 0 => 1
  | k + 1 => dbl (exp k)

/-- what stands in the second table at j, when k powers have been put down -/
def num : Nat → Nat → Nat
  | 0, _ => 0
  | k + 1, j => cond (Nat.beq j (exp k)) k (num k j)

def lg (a : Nat) : Nat := num 255 a

theorem dbl_lt (a : Nat) (h : a < 256) : dbl a < 256 := by
  have := allB_spec (p := fun a => Nat.blt (dbl a) 256) (n := 256) (by decide +kernel) a h
  simpa [Nat.blt_eq] using this

theorem xor_lt (a b : Nat) (ha : a < 256) (hb : b < 256) : a ^^^ b < 256 := Nat.xor_lt_two_pow (n := 8) ha hb

theorem dbl_xor (a b : Nat) (ha : a < 256) (hb : b < 256) : dbl (a ^^^ b) = dbl a ^^^ dbl b := by
  have := allB_spec (allB_spec (p := fun a => allB 256 fun b => Nat.beq (dbl (a ^^^ b)) (dbl a ^^^ dbl b)) (n := 256) (by decide +kernel) a ha) b hb
  exact Nat.eq_of_beq_eq_true this

theorem mulUp_lt (a b : Nat) (ha : a < 256) : ∀ k, mulUp a b k < 256
  | 0 => by show 0 < 256; decide
  | k + 1 => by
    have h := dbl_lt _ (mulUp_lt a b ha k)
    unfold mulUp
    cases Nat.beq (b / 2 ^ (7 - k) % 2) 1
    · exact h
    · exact xor_lt _ _ h ha

theorem mul_lt (a b : Nat) (ha : a < 256) : mul a b < 256 := mulUp_lt a b ha 8

theorem xor4 (a b c d : Nat) : (a ^^^ b) ^^^ (c ^^^ d) = (a ^^^ c) ^^^ (b ^^^ d) := by
  rw [Nat.xor_assoc, Nat.xor_assoc, ← Nat.xor_assoc b, Nat.xor_comm b c, Nat.xor_assoc c]

theorem bit_xor (b c j : Nat) : (b ^^^ c) / 2 ^ j % 2 = (b / 2 ^ j % 2) ^^^ (c / 2 ^ j % 2) := by
  have h : ∀ x : Nat, x / 2 ^ j % 2 = (x.testBit j).toNat := fun x => by
    rw [Nat.testBit_eq_decide_div_mod_eq]
    have : x / 2 ^ j % 2 < 2 := Nat.mod_lt _ (by decide)
    by_cases e : x / 2 ^ j % 2 = 1 <;> simp [e]; omega
  rw [h, h, h, Nat.testBit_xor]
  cases b.testBit j <;> cases c.testBit j <;> rfl

theorem bit01 (b j : Nat) : b / 2 ^ j % 2 = 0 ∨ b / 2 ^ j % 2 = 1 := by omega

theorem mulUp_right (a b c : Nat) (ha : a < 256) : ∀ k, mulUp a (b ^^^ c) k = mulUp a b k ^^^ mulUp a c k
  | 0 => by simp [mulUp]
  | k + 1 => by
    have hb := mulUp_lt a b ha k
    have hc := mulUp_lt a c ha k
    unfold mulUp
    rw [mulUp_right a b c ha k, dbl_xor _ _ hb hc, bit_xor]
    rcases bit01 b (7 - k) with e | e <;> rcases bit01 c (7 - k) with f | f <;> rw [e, f]
    · rfl
    · exact Nat.xor_assoc _ _ _
    · show dbl _ ^^^ dbl _ ^^^ a = dbl _ ^^^ a ^^^ dbl _
      rw [Nat.xor_assoc, Nat.xor_assoc, Nat.xor_comm a]
    · show dbl _ ^^^ dbl _ = (dbl _ ^^^ a) ^^^ (dbl _ ^^^ a)
      rw [xor4, Nat.xor_self, Nat.xor_zero]

theorem mulUp_left (a d b : Nat) (ha : a < 256) (hd : d < 256) : ∀ k, mulUp (a ^^^ d) b k = mulUp a b k ^^^ mulUp d b k
  | 0 => by simp [mulUp]
  | k + 1 => by
    have hb := mulUp_lt a b ha k
    have hc := mulUp_lt d b hd k
    unfold mulUp
    rw [mulUp_left a d b ha hd k, dbl_xor _ _ hb hc]
    cases Nat.beq (b / 2 ^ (7 - k) % 2) 1
    · rfl
    · exact xor4 _ _ _ _

theorem mul_add (a b c : Nat) (ha : a < 256) : mul a (b ^^^ c) = mul a b ^^^ mul a c := mulUp_right a b c ha 8
theorem add_mul (a d b : Nat) (ha : a < 256) (hd : d < 256) : mul (a ^^^ d) b = mul a b ^^^ mul d b := mulUp_left a d b ha hd 8

/-- two sums' ways that agree at 1, 2, 4 .. 128 agree -/
theorem lin_ext {f g : Nat → Nat} (hf : ∀ a b, a < 256 → b < 256 → f (a ^^^ b) = f a ^^^ f b) (hg : ∀ a b, a < 256 → b < 256 → g (a ^^^ b) = g a ^^^ g b)
    (h : ∀ i, i < 8 → f (2 ^ i) = g (2 ^ i)) : ∀ a, a < 256 → f a = g a := by
  have z : ∀ k : Nat → Nat, (∀ a b, a < 256 → b < 256 → k (a ^^^ b) = k a ^^^ k b) → k 0 = 0 := fun k hk => by
    have := hk 0 0 (by decide) (by decide)
    simpa using this
  have top : ∀ i, i ≤ 8 → ∀ a, a < 2 ^ i → f a = g a := by
    intro i
    induction i with
    | zero => intro _ a ha; have : a = 0 := by simp at ha; omega
              subst this; rw [z f hf, z g hg]
    | succ i ih =>
      intro hi a ha
      by_cases hlt : a < 2 ^ i
      · exact ih (by omega) a hlt
      · have e : a = 2 ^ i ^^^ (a - 2 ^ i) := by
          have hsum : a = 2 ^ i + (a - 2 ^ i) := by omega
          have hlt2 : a - 2 ^ i < 2 ^ i := by rw [Nat.pow_succ] at ha; omega
          have := Nat.two_pow_add_eq_or_of_lt hlt2 1
          apply Nat.eq_of_testBit_eq
          intro j
          conv => lhs; rw [hsum]
          rw [Nat.mul_one] at this
          rw [this, Nat.testBit_or, Nat.testBit_xor]
          by_cases hj : j = i
          · subst hj
            rw [Nat.testBit_lt_two_pow hlt2]; simp
          · rw [Nat.testBit_two_pow_of_ne (fun h => hj h.symm)]; simp
        have h256 : (2 : Nat) ^ i < 2 ^ 8 := Nat.pow_lt_pow_right (by decide) (by omega)
        have hle : (2 : Nat) ^ i ≤ 2 ^ 7 := Nat.pow_le_pow_right (by decide) (by omega)
        have hlt2 : a - 2 ^ i < 2 ^ i := by rw [Nat.pow_succ] at ha; omega
        have ea := congrArg f e
        have eb := congrArg g e
        rw [ea, eb, hf _ _ h256 (by omega), hg _ _ h256 (by omega), h i (by omega), ih (by omega) _ hlt2]
  exact fun a ha => top 8 (by decide) a ha

theorem mul_basis (i j : Nat) (hi : i < 8) (hj : j < 8) : mul (2 ^ i) (2 ^ j) = mul (2 ^ j) (2 ^ i) ∧ mul (2 ^ i) (dbl (2 ^ j)) = dbl (mul (2 ^ i) (2 ^ j)) := by
  have := allB_spec (allB_spec (p := fun i => allB 8 fun j => (Nat.beq (mul (2 ^ i) (2 ^ j)) (mul (2 ^ j) (2 ^ i))).and (Nat.beq (mul (2 ^ i) (dbl (2 ^ j))) (dbl (mul (2 ^ i) (2 ^ j))))) (n := 8) (by decide +kernel) i hi) j hj
  rw [Bool.and_eq_true_iff] at this
  exact ⟨Nat.eq_of_beq_eq_true this.1, Nat.eq_of_beq_eq_true this.2⟩

theorem pow_lt (i : Nat) (h : i < 8) : (2 : Nat) ^ i < 256 := Nat.pow_lt_pow_right (a := 2) (by decide) h

theorem mul_comm (a b : Nat) (ha : a < 256) (hb : b < 256) : mul a b = mul b a := by
  have h1 : ∀ i, i < 8 → ∀ b, b < 256 → mul (2 ^ i) b = mul b (2 ^ i) := fun i hi =>
    lin_ext (f := fun b => mul (2 ^ i) b) (g := fun b => mul b (2 ^ i)) (fun x y _ _ => mul_add _ x y (pow_lt i hi)) (fun x y hx hy => add_mul x y _ hx hy) (fun j hj => (mul_basis i j hi hj).1)
  exact lin_ext (f := fun a => mul a b) (g := fun a => mul b a) (fun x y hx hy => add_mul x y _ hx hy) (fun x y _ _ => mul_add _ x y hb) (fun i hi => h1 i hi b hb) a ha

theorem mul_dbl (a b : Nat) (ha : a < 256) (hb : b < 256) : mul a (dbl b) = dbl (mul a b) := by
  have h1 : ∀ i, i < 8 → ∀ b, b < 256 → mul (2 ^ i) (dbl b) = dbl (mul (2 ^ i) b) := fun i hi =>
    lin_ext (f := fun b => mul (2 ^ i) (dbl b)) (g := fun b => dbl (mul (2 ^ i) b))
      (fun x y hx hy => by show mul _ (dbl _) = _; rw [dbl_xor x y hx hy, mul_add _ _ _ (pow_lt i hi)])
      (fun x y _ _ => by show dbl _ = _; rw [mul_add _ _ _ (pow_lt i hi), dbl_xor _ _ (mul_lt _ _ (pow_lt i hi)) (mul_lt _ _ (pow_lt i hi))])
      (fun j hj => (mul_basis i j hi hj).2)
  exact lin_ext (f := fun a => mul a (dbl b)) (g := fun a => dbl (mul a b)) (fun x y hx hy => add_mul x y _ hx hy)
    (fun x y hx hy => by show dbl _ = _; rw [add_mul x y b hx hy, dbl_xor _ _ (mul_lt _ _ hx) (mul_lt _ _ hy)]) (fun i hi => h1 i hi b hb) a ha

theorem mul_assoc (a b c : Nat) (ha : a < 256) (hb : b < 256) : mul (mul a b) c = mul a (mul b c) := by
  have h : ∀ k, mulUp (mul a b) c k = mul a (mulUp b c k) := by
    intro k
    induction k with
    | zero => show 0 = mul a 0; have := mul_add a 0 0 ha; simp at this; exact this.symm
    | succ k ih =>
      have hk := mulUp_lt b c hb k
      unfold mulUp
      rw [ih, ← mul_dbl a _ ha hk]
      cases Nat.beq (c / 2 ^ (7 - k) % 2) 1
      · rfl
      · exact (mul_add a _ _ ha).symm
  exact h 8

theorem mul_zero (a : Nat) (ha : a < 256) : mul a 0 = 0 := by have := mul_add a 0 0 ha; simp at this; exact this
theorem zero_mul (a : Nat) : mul 0 a = 0 := by have := add_mul 0 0 a (by decide) (by decide); simp at this; exact this
theorem mul_one (a : Nat) (ha : a < 256) : mul a 1 = a := by
  have := allB_spec (p := fun a => Nat.beq (mul a 1) a) (n := 256) (by decide +kernel) a ha
  exact Nat.eq_of_beq_eq_true this

/-! powers of 2 -/
theorem exp_lt : ∀ n, exp n < 256
  | 0 => by show 1 < 256; decide
  | n + 1 => dbl_lt _ (exp_lt n)

theorem exp_add (m : Nat) : ∀ n, exp (m + n) = mul (exp m) (exp n)
  | 0 => (mul_one _ (exp_lt m)).symm
  | n + 1 => by
    show dbl (exp (m + n)) = mul _ (dbl (exp n))
    rw [mul_dbl _ _ (exp_lt m) (exp_lt n), exp_add m n]

theorem exp_255 : exp 255 = 1 := by decide +kernel
theorem exp_turn (n : Nat) : exp (n + 255) = exp n := by rw [exp_add, exp_255, mul_one _ (exp_lt n)]
theorem exp_turns (n k : Nat) : exp (n + 255 * k) = exp n := by
  induction k with
  | zero => rfl
  | succ k ih => rw [show n + 255 * (k + 1) = (n + 255 * k) + 255 by omega, exp_turn, ih]
theorem exp_mod (n : Nat) : exp (n % 255) = exp n := by
  have := exp_turns (n % 255) (n / 255)
  rw [Nat.mod_add_div] at this
  exact this.symm

theorem lg_facts (a : Nat) (ha : a < 256) (h0 : a ≠ 0) : lg a < 255 ∧ exp (lg a) = a := by
  have := allB_spec (p := fun a => (Nat.beq a 0).or ((Nat.blt (lg a) 255).and (Nat.beq (exp (lg a)) a))) (n := 256) (by decide +kernel) a ha
  have e : Nat.beq a 0 = false := by cases a with | zero => exact absurd rfl h0 | succ n => rfl
  rw [e] at this
  have h' : Nat.blt (lg a) 255 = true ∧ Nat.beq (exp (lg a)) a = true := by
    cases h1 : Nat.blt (lg a) 255 <;> cases h2 : Nat.beq (exp (lg a)) a <;> simp_all
  exact ⟨by simpa [Nat.blt_eq] using h'.1, Nat.eq_of_beq_eq_true h'.2⟩

theorem exp_facts (n : Nat) (h : n < 255) : exp n ≠ 0 ∧ lg (exp n) = n := by
  have := allB_spec (p := fun n => (Nat.blt 0 (exp n)).and (Nat.beq (lg (exp n)) n)) (n := 255) (by decide +kernel) n h
  rw [Bool.and_eq_true_iff] at this
  have h1 : 0 < exp n := by simpa [Nat.blt_eq] using this.1
  exact ⟨by omega, Nat.eq_of_beq_eq_true this.2⟩

theorem exp_ne (n : Nat) : exp n ≠ 0 := by
  rw [← exp_mod]; exact (exp_facts _ (Nat.mod_lt _ (by decide))).1
theorem lg_exp (n : Nat) : lg (exp n) = n % 255 := by
  rw [← exp_mod]; exact (exp_facts _ (Nat.mod_lt _ (by decide))).2
theorem exp_inj (m n : Nat) (hm : m < 255) (hn : n < 255) (h : exp m = exp n) : m = n := by
  rw [← (exp_facts m hm).2, ← (exp_facts n hn).2, h]

theorem mul_lg (a b : Nat) (ha : a < 256) (hb : b < 256) (a0 : a ≠ 0) (b0 : b ≠ 0) : mul a b = exp (lg a + lg b) := by
  rw [exp_add, (lg_facts a ha a0).2, (lg_facts b hb b0).2]

theorem mul_eq_zero (a b : Nat) (ha : a < 256) (hb : b < 256) : mul a b = 0 ↔ a = 0 ∨ b = 0 := by
  constructor
  · intro h
    by_cases a0 : a = 0
    · exact Or.inl a0
    · by_cases b0 : b = 0
      · exact Or.inr b0
      · rw [mul_lg a b ha hb a0 b0] at h
        exact absurd h (exp_ne _)
  · rintro (h | h)
    · subst h; exact zero_mul b
    · subst h; exact mul_zero a ha

end Go.Proofs.Ytpgjkhlffcomgaa.Gf
