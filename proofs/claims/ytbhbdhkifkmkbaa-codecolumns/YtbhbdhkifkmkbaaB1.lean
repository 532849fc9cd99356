/- Texts of mine, put together. -/
import Derived.Test.YtbhbdhkifkmkbaaRows
import Derived.WalkKit
import Derived.WalkSpells
import Derived.WalkLawsBesides
import Derived.Laws.Rows
import Derived.RowKit3
import Derived.Deep.QuietTactic
import Derived.BigQuiet
import Derived.Deep.RegionHeld3
import Derived.Deep.AppendLies
import Derived.OwnWalk

set_option linter.unusedVariables false

/- Plain arithmetic of the field of 256 numbers: doubling, products bit by bit, powers of 2 and which power a number is; nothing of the program is named here. -/
namespace Go.Proofs.Ytbhbdhkifkmkbaa.Gf

/-- all numbers below n -/
def allB : Nat → (Nat → Bool) → Bool
  | 0, _ => true
  | k + 1, p => (p k).and (allB k p)

theorem allB_spec {p : Nat → Bool} : ∀ {n : Nat}, allB n p = true → ∀ k, k < n → p k = true
  | 0, _, k, hk => absurd hk (Nat.not_lt_zero k)
  | n + 1, h, k, hk => by
    unfold allB at h
    have h' : p n = true ∧ allB n p = true := by
      cases hp : p n <;> cases hq : allB n p <;> simp_all
    by_cases e : k = n
    · subst e; exact h'.1
    · exact allB_spec h'.2 k (by omega)

/-- the number first, then what is made of it -/
def force (n : Nat) (f : Nat → Nat) : Nat :=
  match n with
  | 0 => f 0
  | k + 1 => f (k + 1)

theorem force_eq (n : Nat) (f : Nat → Nat) : force n f = f n := by cases n <;> rfl

def dbl (a : Nat) : Nat := force a fun x => cond (Nat.blt x 128) (2 * x) ((2 * x) ^^^ 285)

theorem dbl_eq (a : Nat) : dbl a = cond (Nat.blt a 128) (2 * a) ((2 * a) ^^^ 285) := force_eq _ _

def mulUp (a b : Nat) : Nat → Nat
  | 0 => 0
  | k + 1 => cond (Nat.beq (b / 2 ^ (7 - k) % 2) 1) (dbl (mulUp a b k) ^^^ a) (dbl (mulUp a b k))

def mul (a b : Nat) : Nat := mulUp a b 8

def exp : Nat → Nat
  | 0 => 1
  | k + 1 => dbl (exp k)

/-- what stands in the second table at j, when k powers have been put down -/
def num : Nat → Nat → Nat
  | 0, _ => 0
  | k + 1, j => cond (Nat.beq j (exp k)) k (num k j)

def lg (a : Nat) : Nat := num 255 a

theorem dbl_lt (a : Nat) (h : a < 256) : dbl a < 256 := by
  have := allB_spec (p := fun a => Nat.blt (dbl a) 256) (n := 256) (by decide +kernel) a h
  simpa [Nat.blt_eq] using this

theorem xor_lt (a b : Nat) (ha : a < 256) (hb : b < 256) : a ^^^ b < 256 := Nat.xor_lt_two_pow (n := 8) ha hb

theorem dbl_xor (a b : Nat) (ha : a < 256) (hb : b < 256) : dbl (a ^^^ b) = dbl a ^^^ dbl b := by
  have := allB_spec (allB_spec (p := fun a => allB 256 fun b => Nat.beq (dbl (a ^^^ b)) (dbl a ^^^ dbl b)) (n := 256) (by decide +kernel) a ha) b hb
  exact Nat.eq_of_beq_eq_true this

theorem mulUp_lt (a b : Nat) (ha : a < 256) : ∀ k, mulUp a b k < 256
  | 0 => by show 0 < 256; decide
  | k + 1 => by
    have h := dbl_lt _ (mulUp_lt a b ha k)
    unfold mulUp
    cases Nat.beq (b / 2 ^ (7 - k) % 2) 1
    · exact h
    · exact xor_lt _ _ h ha

theorem mul_lt (a b : Nat) (ha : a < 256) : mul a b < 256 := mulUp_lt a b ha 8

theorem xor4 (a b c d : Nat) : (a ^^^ b) ^^^ (c ^^^ d) = (a ^^^ c) ^^^ (b ^^^ d) := by
  rw [Nat.xor_assoc, Nat.xor_assoc, ← Nat.xor_assoc b, Nat.xor_comm b c, Nat.xor_assoc c]

theorem bit_xor (b c j : Nat) : (b ^^^ c) / 2 ^ j % 2 = (b / 2 ^ j % 2) ^^^ (c / 2 ^ j % 2) := by
  have h : ∀ x : Nat, x / 2 ^ j % 2 = (x.testBit j).toNat := fun x => by
    rw [Nat.testBit_eq_decide_div_mod_eq]
    have : x / 2 ^ j % 2 < 2 := Nat.mod_lt _ (by decide)
    by_cases e : x / 2 ^ j % 2 = 1 <;> simp [e]; omega
  rw [h, h, h, Nat.testBit_xor]
  cases b.testBit j <;> cases c.testBit j <;> rfl

theorem bit01 (b j : Nat) : b / 2 ^ j % 2 = 0 ∨ b / 2 ^ j % 2 = 1 := by omega

theorem mulUp_right (a b c : Nat) (ha : a < 256) : ∀ k, mulUp a (b ^^^ c) k = mulUp a b k ^^^ mulUp a c k
  | 0 => by simp [mulUp]
  | k + 1 => by
    have hb := mulUp_lt a b ha k
    have hc := mulUp_lt a c ha k
    unfold mulUp
    rw [mulUp_right a b c ha k, dbl_xor _ _ hb hc, bit_xor]
    rcases bit01 b (7 - k) with e | e <;> rcases bit01 c (7 - k) with f | f <;> rw [e, f]
    · rfl
    · exact Nat.xor_assoc _ _ _
    · show dbl _ ^^^ dbl _ ^^^ a = dbl _ ^^^ a ^^^ dbl _
      rw [Nat.xor_assoc, Nat.xor_assoc, Nat.xor_comm a]
    · show dbl _ ^^^ dbl _ = (dbl _ ^^^ a) ^^^ (dbl _ ^^^ a)
      rw [xor4, Nat.xor_self, Nat.xor_zero]

theorem mulUp_left (a d b : Nat) (ha : a < 256) (hd : d < 256) : ∀ k, mulUp (a ^^^ d) b k = mulUp a b k ^^^ mulUp d b k
  | 0 => by simp [mulUp]
  | k + 1 => by
    have hb := mulUp_lt a b ha k
    have hc := mulUp_lt d b hd k
    unfold mulUp
    rw [mulUp_left a d b ha hd k, dbl_xor _ _ hb hc]
    cases Nat.beq (b / 2 ^ (7 - k) % 2) 1
    · rfl
    · exact xor4 _ _ _ _

theorem mul_add (a b c : Nat) (ha : a < 256) : mul a (b ^^^ c) = mul a b ^^^ mul a c := mulUp_right a b c ha 8
theorem add_mul (a d b : Nat) (ha : a < 256) (hd : d < 256) : mul (a ^^^ d) b = mul a b ^^^ mul d b := mulUp_left a d b ha hd 8

/-- two sums' ways that agree at 1, 2, 4 .. 128 agree -/
theorem lin_ext {f g : Nat → Nat} (hf : ∀ a b, a < 256 → b < 256 → f (a ^^^ b) = f a ^^^ f b) (hg : ∀ a b, a < 256 → b < 256 → g (a ^^^ b) = g a ^^^ g b)
    (h : ∀ i, i < 8 → f (2 ^ i) = g (2 ^ i)) : ∀ a, a < 256 → f a = g a := by
  have z : ∀ k : Nat → Nat, (∀ a b, a < 256 → b < 256 → k (a ^^^ b) = k a ^^^ k b) → k 0 = 0 := fun k hk => by
    have := hk 0 0 (by decide) (by decide)
    simpa using this
  have top : ∀ i, i ≤ 8 → ∀ a, a < 2 ^ i → f a = g a := by
    intro i
    induction i with
    | zero => intro _ a ha; have : a = 0 := by simp at ha; omega
              subst this; rw [z f hf, z g hg]
    | succ i ih =>
      intro hi a ha
      by_cases hlt : a < 2 ^ i
      · exact ih (by omega) a hlt
      · have e : a = 2 ^ i ^^^ (a - 2 ^ i) := by
          have hsum : a = 2 ^ i + (a - 2 ^ i) := by omega
          have hlt2 : a - 2 ^ i < 2 ^ i := by rw [Nat.pow_succ] at ha; omega
          have := Nat.two_pow_add_eq_or_of_lt hlt2 1
          apply Nat.eq_of_testBit_eq
          intro j
          conv => lhs; rw [hsum]
          rw [Nat.mul_one] at this
          rw [this, Nat.testBit_or, Nat.testBit_xor]
          by_cases hj : j = i
          · subst hj
            rw [Nat.testBit_lt_two_pow hlt2]; simp
          · rw [Nat.testBit_two_pow_of_ne (fun h => hj h.symm)]; simp
        have h256 : (2 : Nat) ^ i < 2 ^ 8 := Nat.pow_lt_pow_right (by decide) (by omega)
        have hle : (2 : Nat) ^ i ≤ 2 ^ 7 := Nat.pow_le_pow_right (by decide) (by omega)
        have hlt2 : a - 2 ^ i < 2 ^ i := by rw [Nat.pow_succ] at ha; omega
        have ea := congrArg f e
        have eb := congrArg g e
        rw [ea, eb, hf _ _ h256 (by omega), hg _ _ h256 (by omega), h i (by omega), ih (by omega) _ hlt2]
  exact fun a ha => top 8 (by decide) a ha

theorem mul_basis (i j : Nat) (hi : i < 8) (hj : j < 8) : mul (2 ^ i) (2 ^ j) = mul (2 ^ j) (2 ^ i) ∧ mul (2 ^ i) (dbl (2 ^ j)) = dbl (mul (2 ^ i) (2 ^ j)) := by
  have := allB_spec (allB_spec (p := fun i => allB 8 fun j => (Nat.beq (mul (2 ^ i) (2 ^ j)) (mul (2 ^ j) (2 ^ i))).and (Nat.beq (mul (2 ^ i) (dbl (2 ^ j))) (dbl (mul (2 ^ i) (2 ^ j))))) (n := 8) (by decide +kernel) i hi) j hj
  rw [Bool.and_eq_true_iff] at this
  exact ⟨Nat.eq_of_beq_eq_true this.1, Nat.eq_of_beq_eq_true this.2⟩

theorem pow_lt (i : Nat) (h : i < 8) : (2 : Nat) ^ i < 256 := Nat.pow_lt_pow_right (a := 2) (by decide) h

theorem mul_comm (a b : Nat) (ha : a < 256) (hb : b < 256) : mul a b = mul b a := by
  have h1 : ∀ i, i < 8 → ∀ b, b < 256 → mul (2 ^ i) b = mul b (2 ^ i) := fun i hi =>
    lin_ext (f := fun b => mul (2 ^ i) b) (g := fun b => mul b (2 ^ i)) (fun x y _ _ => mul_add _ x y (pow_lt i hi)) (fun x y hx hy => add_mul x y _ hx hy) (fun j hj => (mul_basis i j hi hj).1)
  exact lin_ext (f := fun a => mul a b) (g := fun a => mul b a) (fun x y hx hy => add_mul x y _ hx hy) (fun x y _ _ => mul_add _ x y hb) (fun i hi => h1 i hi b hb) a ha

theorem mul_dbl (a b : Nat) (ha : a < 256) (hb : b < 256) : mul a (dbl b) = dbl (mul a b) := by
  have h1 : ∀ i, i < 8 → ∀ b, b < 256 → mul (2 ^ i) (dbl b) = dbl (mul (2 ^ i) b) := fun i hi =>
    lin_ext (f := fun b => mul (2 ^ i) (dbl b)) (g := fun b => dbl (mul (2 ^ i) b))
      (fun x y hx hy => by show mul _ (dbl _) = _; rw [dbl_xor x y hx hy, mul_add _ _ _ (pow_lt i hi)])
      (fun x y _ _ => by show dbl _ = _; rw [mul_add _ _ _ (pow_lt i hi), dbl_xor _ _ (mul_lt _ _ (pow_lt i hi)) (mul_lt _ _ (pow_lt i hi))])
      (fun j hj => (mul_basis i j hi hj).2)
  exact lin_ext (f := fun a => mul a (dbl b)) (g := fun a => dbl (mul a b)) (fun x y hx hy => add_mul x y _ hx hy)
    (fun x y hx hy => by show dbl _ = _; rw [add_mul x y b hx hy, dbl_xor _ _ (mul_lt _ _ hx) (mul_lt _ _ hy)]) (fun i hi => h1 i hi b hb) a ha

theorem mul_assoc (a b c : Nat) (ha : a < 256) (hb : b < 256) : mul (mul a b) c = mul a (mul b c) := by
  have h : ∀ k, mulUp (mul a b) c k = mul a (mulUp b c k) := by
    intro k
    induction k with
    | zero => show 0 = mul a 0; have := mul_add a 0 0 ha; simp at this; exact this.symm
    | succ k ih =>
      have hk := mulUp_lt b c hb k
      unfold mulUp
      rw [ih, ← mul_dbl a _ ha hk]
      cases Nat.beq (c / 2 ^ (7 - k) % 2) 1
      · rfl
      · exact (mul_add a _ _ ha).symm
  exact h 8

theorem mul_zero (a : Nat) (ha : a < 256) : mul a 0 = 0 := by have := mul_add a 0 0 ha; simp at this; exact this
theorem zero_mul (a : Nat) : mul 0 a = 0 := by have := add_mul 0 0 a (by decide) (by decide); simp at this; exact this
theorem mul_one (a : Nat) (ha : a < 256) : mul a 1 = a := by
  have := allB_spec (p := fun a => Nat.beq (mul a 1) a) (n := 256) (by decide +kernel) a ha
  exact Nat.eq_of_beq_eq_true this

/-! powers of 2 -/
theorem exp_lt : ∀ n, exp n < 256
  | 0 => by show 1 < 256; decide
  | n + 1 => dbl_lt _ (exp_lt n)

theorem exp_add (m : Nat) : ∀ n, exp (m + n) = mul (exp m) (exp n)
  | 0 => (mul_one _ (exp_lt m)).symm
  | n + 1 => by
    show dbl (exp (m + n)) = mul _ (dbl (exp n))
    rw [mul_dbl _ _ (exp_lt m) (exp_lt n), exp_add m n]

theorem exp_255 : exp 255 = 1 := by decide +kernel
theorem exp_turn (n : Nat) : exp (n + 255) = exp n := by rw [exp_add, exp_255, mul_one _ (exp_lt n)]
theorem exp_turns (n k : Nat) : exp (n + 255 * k) = exp n := by
  induction k with
  | zero => rfl
  | succ k ih => rw [show n + 255 * (k + 1) = (n + 255 * k) + 255 by omega, exp_turn, ih]
theorem exp_mod (n : Nat) : exp (n % 255) = exp n := by
  have := exp_turns (n % 255) (n / 255)
  rw [Nat.mod_add_div] at this
  exact this.symm

theorem lg_facts (a : Nat) (ha : a < 256) (h0 : a ≠ 0) : lg a < 255 ∧ exp (lg a) = a := by
  have := allB_spec (p := fun a => (Nat.beq a 0).or ((Nat.blt (lg a) 255).and (Nat.beq (exp (lg a)) a))) (n := 256) (by decide +kernel) a ha
  have e : Nat.beq a 0 = false := by cases a with | zero => exact absurd rfl h0 | succ n => rfl
  rw [e] at this
  have h' : Nat.blt (lg a) 255 = true ∧ Nat.beq (exp (lg a)) a = true := by
    cases h1 : Nat.blt (lg a) 255 <;> cases h2 : Nat.beq (exp (lg a)) a <;> simp_all
  exact ⟨by simpa [Nat.blt_eq] using h'.1, Nat.eq_of_beq_eq_true h'.2⟩

theorem exp_facts (n : Nat) (h : n < 255) : exp n ≠ 0 ∧ lg (exp n) = n := by
  have := allB_spec (p := fun n => (Nat.blt 0 (exp n)).and (Nat.beq (lg (exp n)) n)) (n := 255) (by decide +kernel) n h
  rw [Bool.and_eq_true_iff] at this
  have h1 : 0 < exp n := by simpa [Nat.blt_eq] using this.1
  exact ⟨by omega, Nat.eq_of_beq_eq_true this.2⟩

theorem exp_ne (n : Nat) : exp n ≠ 0 := by
  rw [← exp_mod]; exact (exp_facts _ (Nat.mod_lt _ (by decide))).1
theorem lg_exp (n : Nat) : lg (exp n) = n % 255 := by
  rw [← exp_mod]; exact (exp_facts _ (Nat.mod_lt _ (by decide))).2
theorem exp_inj (m n : Nat) (hm : m < 255) (hn : n < 255) (h : exp m = exp n) : m = n := by
  rw [← (exp_facts m hm).2, ← (exp_facts n hn).2, h]

theorem mul_lg (a b : Nat) (ha : a < 256) (hb : b < 256) (a0 : a ≠ 0) (b0 : b ≠ 0) : mul a b = exp (lg a + lg b) := by
  rw [exp_add, (lg_facts a ha a0).2, (lg_facts b hb b0).2]

theorem mul_eq_zero (a b : Nat) (ha : a < 256) (hb : b < 256) : mul a b = 0 ↔ a = 0 ∨ b = 0 := by
  constructor
  · intro h
    by_cases a0 : a = 0
    · exact Or.inl a0
    · by_cases b0 : b = 0
      · exact Or.inr b0
      · rw [mul_lg a b ha hb a0 b0] at h
        exact absurd h (exp_ne _)
  · rintro (h | h)
    · subst h; exact zero_mul b
    · subst h; exact mul_zero a ha

end Go.Proofs.Ytbhbdhkifkmkbaa.Gf

/- Contracts of gf's small functions: what double, Add, turn and Mul answer, said of whole numbers. -/
namespace Go.Proofs.Ytbhbdhkifkmkbaa
open Go.RowKit

theorem ret_int {k : IntKind} {a b : Int} (h : a = b) : Ending.returned (.int k a) = .returned (.int k b) := by rw [h]

def addI (a b : Int) : Int := ((a.toNat ^^^ b.toNat : Nat) : Int)
def dblI (a : Int) : Int := ((Gf.dbl a.toNat : Nat) : Int)
def mulUpI (a b : Int) (k : Nat) : Int := ((Gf.mulUp a.toNat b.toNat k : Nat) : Int)
def mulI (a b : Int) : Int := ((Gf.mul a.toNat b.toNat : Nat) : Int)
def expI (n : Int) : Int := ((Gf.exp (n % 255).toNat : Nat) : Int)
def lgI (a : Int) : Int := ((Gf.lg a.toNat : Nat) : Int)

theorem addI_bd (a b : Int) (a1 : a < 256) (b1 : b < 256) : 0 ≤ addI a b ∧ addI a b < 256 := by
  have := Gf.xor_lt a.toNat b.toNat (by omega) (by omega)
  unfold addI; omega
theorem dblI_bd (a : Int) (a1 : a < 256) : 0 ≤ dblI a ∧ dblI a < 256 := by
  have := Gf.dbl_lt a.toNat (by omega)
  unfold dblI; omega
theorem mulI_bd (a b : Int) (a1 : a < 256) : 0 ≤ mulI a b ∧ mulI a b < 256 := by
  have := Gf.mul_lt a.toNat b.toNat (by omega)
  unfold mulI; omega
theorem mulUpI_bd (a b : Int) (k : Nat) (a1 : a < 256) : 0 ≤ mulUpI a b k ∧ mulUpI a b k < 256 := by
  have := Gf.mulUp_lt a.toNat b.toNat (by omega) k
  unfold mulUpI; omega
theorem expI_bd (n : Int) : 0 ≤ expI n ∧ expI n < 256 := by
  have := Gf.exp_lt (n % 255).toNat
  unfold expI; omega

theorem add_any (a b : Int) (a0 : 0 ≤ a) (a1 : a < 256) (b0 : 0 ≤ b) (b1 : b < 256) (w : World) :
    Calls Try.prog 51 #[.int .u8 a, .int .u8 b] w fun e w' => e = .returned (.int .u8 (addI a b)) ∧ w' = w := by
  go_enter Try.func51, Try.ntmps51
  go_wp2
  go_ret
  exact ⟨ret_int (u8_xor a b a0 a1 b0 b1), rfl⟩

theorem dbl_hi (a : Int) (h0 : 0 ≤ a) (h1 : a < 256) (h : (a * 2 / 256 == 1) = true) : bits .xor .u16 (a * 2) 285 % 256 = dblI a := by
  rw [u16_xor (a * 2) 285 (by omega) (by omega) (by decide) (by decide)]
  unfold dblI
  have h' : a * 2 / 256 = 1 := by simpa using h
  have hb : Nat.blt a.toNat 128 = false := by rw [Bool.eq_false_iff]; intro hc; simp [Nat.blt_eq] at hc; omega
  have hd := Gf.dbl_lt a.toNat (by omega)
  rw [Gf.dbl_eq, hb] at hd ⊢
  have e : (a * 2).toNat = 2 * a.toNat := by omega
  rw [e]
  show ((2 * a.toNat ^^^ 285 : Nat) : Int) % 256 = ((2 * a.toNat ^^^ 285 : Nat) : Int)
  have hd' : (2 * a.toNat ^^^ 285) < 256 := hd
  omega

theorem dbl_lo (a : Int) (h0 : 0 ≤ a) (h1 : a < 256) (h : (a * 2 / 256 == 1) = false) : a * 2 % 256 = dblI a := by
  unfold dblI
  have h' : ¬ a * 2 / 256 = 1 := by simpa using h
  have hb : Nat.blt a.toNat 128 = true := by simp [Nat.blt_eq]; omega
  rw [Gf.dbl_eq, hb]
  show a * 2 % 256 = ((2 * a.toNat : Nat) : Int)
  omega

theorem dbl_any (a : Int) (h0 : 0 ≤ a) (h1 : a < 256) (w : World) :
    Calls Try.prog 50 #[.int .u8 a] w fun e w' => e = .returned (.int .u8 (dblI a)) ∧ w' = w := by
  go_enter Try.func50, Try.ntmps50
  go_wp2
  all_goals go_ret
  · exact ⟨ret_int (dbl_hi a h0 h1 ‹_›), rfl⟩
  · exact ⟨ret_int (dbl_lo a h0 h1 ‹_›), rfl⟩

theorem turn_eq (n : Int) : (n.tmod 255 + 255) % 255 = n % 255 := by
  have h2 : n.tmod 255 = n % 255 ∨ n.tmod 255 = n % 255 - 255 := by
    rw [Int.tmod_eq_emod]
    split <;> omega
  omega

theorem turn_any (n : Int) (w : World) :
    Calls Try.prog 88 #[.int .i64 n] w fun e w' => e = .returned (.int .i64 (n % 255)) ∧ w' = w := by
  have hlo : -255 < n.tmod 255 := by have := Int.lt_tmod_of_pos n (b := 255) (by decide); omega
  have hhi : n.tmod 255 < 255 := Int.tmod_lt_of_pos n (by decide)
  go_enter Try.func88, Try.ntmps88
  go_wp2
  go_ret
  exact ⟨ret_int (turn_eq n), rfl⟩

theorem bit_eq (b : Int) (k : Nat) (b0 : 0 ≤ b) (b1 : b < 256) : (bits .and .u8 (b / 2 ^ (7 - k)) 1 == 1) = Nat.beq (b.toNat / 2 ^ (7 - k) % 2) 1 := by
  obtain ⟨n, rfl⟩ : ∃ n : Nat, b = n := ⟨b.toNat, by omega⟩
  have e : ((n : Int) / 2 ^ (7 - k)) = ((n / 2 ^ (7 - k) : Nat) : Int) := by simp
  have hle : n / 2 ^ (7 - k) ≤ n := Nat.div_le_self _ _
  rw [e, show (1 : Int) = ((1 : Nat) : Int) from rfl, u8_and_nat _ _ (by omega) (by decide), Nat.and_one_is_mod]
  show (((n / 2 ^ (7 - k) % 2 : Nat) : Int) == ((1 : Nat) : Int)) = Nat.beq (n / 2 ^ (7 - k) % 2) 1
  rcases Gf.bit01 n (7 - k) with h | h <;> rw [h] <;> rfl

theorem up_yes (a b : Int) (k : Nat) (b0 : 0 ≤ b) (b1 : b < 256) (h : (bits .and .u8 (b / 2 ^ (7 - k)) 1 == 1) = true) : addI (dblI (mulUpI a b k)) a = mulUpI a b (k + 1) := by
  rw [bit_eq b k b0 b1] at h
  unfold addI dblI mulUpI
  rw [Gf.mulUp, h]
  rfl

theorem up_no (a b : Int) (k : Nat) (b0 : 0 ≤ b) (b1 : b < 256) (h : (bits .and .u8 (b / 2 ^ (7 - k)) 1 == 1) = false) : dblI (mulUpI a b k) = mulUpI a b (k + 1) := by
  rw [bit_eq b k b0 b1] at h
  unfold dblI mulUpI
  rw [Gf.mulUp, h]
  rfl

theorem val_int {k : IntKind} {a b : Int} (h : a = b) : Value.int k a = .int k b := by rw [h]

theorem mul_any (a b : Int) (a0 : 0 ≤ a) (a1 : a < 256) (b0 : 0 ≤ b) (b1 : b < 256) (w : World) :
    Calls Try.prog 38 #[.int .u8 a, .int .u8 b] w fun e w' => e = .returned (.int .u8 (mulI a b)) ∧ w' = w := by
  go_enter Try.func38, Try.ntmps38
  go_wp2
  go_loop [5, 7] (fun p i => ∃ k : Nat, k ≤ 8 ∧ i = .int .i64 k ∧ p = .int .u8 (mulUpI a b k)) (fun _ i => 8 - (intOf i).toNat)
  case atStart => exact ⟨0, Nat.zero_le _, rfl, rfl⟩
  case round =>
    obtain ⟨k, hk, rfl, rfl⟩ := hrel
    have hp := mulUpI_bd a b k a1
    have hd := dblI_bd (mulUpI a b k) hp.2
    by_cases hlt : k < 8
    · go_wp2_with (first | (go_at_call 50; refine (dbl_any _ (by omega) (by omega) _).mono ?_; rintro e w' ⟨rfl, rfl⟩) | (go_at_call 51; refine (add_any _ _ (by omega) (by omega) (by omega) (by omega) _).mono ?_; rintro e w' ⟨rfl, rfl⟩))
      all_goals
        go_round
        case rel => exact ⟨k + 1, by omega, by go_num, val_int (by first | exact up_yes a b k b0 b1 ‹_› | exact up_no a b k b0 b1 ‹_›)⟩
        case measure => simp [intOf]; omega
    · go_wp2
      go_ret
      have e8 : k = 8 := by omega
      subst e8
      exact ⟨rfl, rfl⟩

end Go.Proofs.Ytbhbdhkifkmkbaa

/- Contracts of makeTables and of the closure in it. -/
namespace Go.Proofs.Ytbhbdhkifkmkbaa
open Go.RowKit

theorem put_any (n x : Int) (W : World) (r cs : Array Value) (hs : cs.size = 511) (n0 : 0 ≤ n) (n1 : n < 255) (x0 : 0 ≤ x) (x1 : x < 256) :
    Calls Try.prog 94 #[.int .i64 n, .pointer (some ⟨W.heap.size + 2, 0, none⟩), .pointer (some ⟨W.heap.size + 1, 0, none⟩)] (((W.alloc (.cells r 111)).alloc (.cells cs 111)).alloc (.cells #[.int .u8 x] 5)) fun e w' => e = .returned (.tuple #[]) ∧
      w' = ((W.alloc (.cells r 111)).alloc (.cells ((cs.setIfInBounds n.toNat (.int .u8 x)).setIfInBounds (255 + x.toNat) (.int .u8 n)) 111)).alloc (.cells #[.int .u8 (dblI x)] 5) := by
  obtain ⟨v1, hv1⟩ : ∃ v, cs[n.toNat]? = some v := ⟨_, Array.getElem?_eq_getElem (by omega)⟩
  obtain ⟨v2, hv2⟩ : ∃ v, (cs.setIfInBounds n.toNat (.int .u8 x))[255 + x.toNat]? = some v := ⟨_, Array.getElem?_eq_getElem (by simp; omega)⟩
  go_enter Try.func94, Try.ntmps94
  go_wp2_with (go_at_call 50; refine (dbl_any _ (by omega) (by omega) _).mono ?_; rintro e w' ⟨rfl, rfl⟩)
  go_end0
  exact ⟨rfl, rfl⟩

def zeros : Array Value := Array.replicate 511 (.int .u8 0)

def tab : Nat → Array Value
  | 0 => zeros
  | k + 1 => ((tab k).setIfInBounds k (.int .u8 ((Gf.exp k : Nat) : Int))).setIfInBounds (255 + Gf.exp k) (.int .u8 (k : Int))

theorem tab_size : ∀ k, (tab k).size = 511
  | 0 => by simp [tab, zeros]
  | k + 1 => by simp [tab, tab_size k]

theorem zero42 (w : World) : (zeroValue 111).run Try.prog w = .ok (.agg zeros) w := by kernel_rfl

theorem expE (k : Nat) : dblI ((Gf.exp k : Nat) : Int) = ((Gf.exp (k + 1) : Nat) : Int) := by
  unfold dblI; rw [Int.toNat_natCast]; rfl

theorem tab_all : ∀ k, (tab k).all (·.oneCell') = true := by
  intro k
  rw [Array.all_eq_true_iff_forall_mem]
  induction k with
  | zero => intro x hx; simp [tab, zeros] at hx; subst hx; rfl
  | succ k ih =>
    intro x hx
    unfold tab at hx
    rcases Array.mem_or_eq_of_mem_setIfInBounds hx with h | h
    · rcases Array.mem_or_eq_of_mem_setIfInBounds h with h | h
      · exact ih x h
      · subst h; rfl
    · subst h; rfl

theorem size_alloc (w : World) (o : Obj) : (w.alloc o).heap.size = w.heap.size + 1 := by
  show (w.heap.push o).size = _
  simp

theorem heap3_mid (W : World) (A B C : Obj) : (((W.alloc A).alloc B).alloc C).heap[W.heap.size + 1]? = some B := by
  rw [Below.heap_alloc _ _ _ (by rw [size_alloc, size_alloc]; omega)]
  exact heap_alloc2_new W A B

theorem heap3_low (W : World) (A B C : Obj) : (((W.alloc A).alloc B).alloc C).heap[W.heap.size]? = some A := by
  rw [Below.heap_alloc _ _ _ (by rw [size_alloc, size_alloc]; omega)]
  exact heap_alloc2_old W A B

theorem setRow_alloc_new (W : World) (a b : Array Value) (t : TypeId) : (W.alloc (.cells a t)).setRow W.heap.size b = W.alloc (.cells b t) := by
  unfold World.setRow World.alloc
  congr 1
  apply Array.ext_getElem?
  intro k
  simp only [Array.getElem?_modify, Array.getElem?_push]
  by_cases hk : k = W.heap.size
  · subst hk; simp
  · simp [hk, Ne.symm hk]

theorem setRow_alloc_past (w : World) (g : Nat) (b : Array Value) (o : Obj) (h : g < w.heap.size) : (w.alloc o).setRow g b = (w.setRow g b).alloc o := by
  unfold World.setRow World.alloc
  congr 1
  apply Array.ext_getElem?
  intro k
  simp only [Array.getElem?_modify, Array.getElem?_push, Array.size_modify]
  by_cases hk : k = w.heap.size
  · subst hk; simp [Nat.ne_of_lt h]
  · simp [hk]

theorem setRow_low (W : World) (a b : Array Value) (t : TypeId) (B C : Obj) :
    (((W.alloc (.cells a t)).alloc B).alloc C).setRow W.heap.size b = ((W.alloc (.cells b t)).alloc B).alloc C := by
  rw [setRow_alloc_past _ _ _ _ (by rw [size_alloc, size_alloc]; omega), setRow_alloc_past _ _ _ _ (by rw [size_alloc]; omega), setRow_alloc_new]

set_option maxRecDepth 100000 in
theorem tables_gen (W : World) (Z : Array Value) (T : Nat → Array Value) (X : Nat → Int) (hz : ∀ w, (zeroValue 111).run Try.prog w = .ok (.agg Z) w)
    (h0 : Hid (T 0 = Z)) (hx0 : Hid (X 0 = 1)) (hT : Hid (∀ k, T (k + 1) = ((T k).setIfInBounds k (.int .u8 (X k))).setIfInBounds (255 + (X k).toNat) (.int .u8 (k : Int)))) (hX : Hid (∀ k, X (k + 1) = dblI (X k)))
    (hb : ∀ k, 0 ≤ X k ∧ X k < 256) (hs : Hid (∀ k, (T k).size = 511)) (ha : Hid (∀ k, (T k).all (·.oneCell') = true)) (h255 : Hid (X 255 = 1)) :
    Calls Try.prog 87 #[] W fun e w' => e = .returned (.agg (T 255)) ∧ w' = ((W.alloc (.cells (T 255) 111)).alloc (.cells (T 255) 111)).alloc (.cells #[.int .u8 1] 5) := by
  have hZ : Z.size = (T 255).size := by rw [hs.out, ← h0.out, hs.out]
  have hi : (Try.prog.info? 111).map (·.size) = some (T 255).size := by rw [hs.out]; kernel_rfl
  go_enter Try.func87, Try.ntmps87
  go_wp2
  go_loopw [6] (fun i wr => ∃ k : Nat, k ≤ 255 ∧ i = .int .i64 k ∧ wr = ((W.alloc (.cells Z 111)).alloc (.cells (T k) 111)).alloc (.cells #[.int .u8 (X k)] 5)) (fun i _ => 255 - (intOf i).toNat)
  case atStart => exact ⟨0, Nat.zero_le _, rfl, by rw [h0.out, hx0.out]⟩
  case round =>
    obtain ⟨k, hk, rfl, rfl⟩ := hrel
    have hx := hb k
    by_cases hlt : k < 255
    · go_wp2_with (go_at_call 94; refine (put_any _ _ _ _ _ (hs.out k) (by omega) (by omega) (by omega) (by omega)).mono ?_; rintro e w' ⟨rfl, rfl⟩)
      go_roundw
      case rel => exact ⟨k + 1, by omega, by go_num, by rw [hT.out, hX.out]⟩
      case measure => simp [intOf]; omega
    · have e8 : k = 255 := by omega
      subst e8
      clear hlt hx hk
      go_wp2_with (first | refine wpList_load_row rfl 111 _ rfl (W.heap.size + 1) rfl 111 (T 255) (0, 0) _ (heap3_mid _ _ _ _) Try.underlying111 rfl hi ?_ | refine wpList_store_row rfl 111 _ _ rfl W.heap.size (T 255) rfl rfl 111 Z (heap3_low _ _ _ _) hi hZ (ha.out 255) ?_)
      rw [setRow_low]
      exact bodyPost_ret (results_cell_row Try.results87 _ _ W.heap.size 111 (T 255) (0, 0) _ rfl (heap3_low _ _ _ _) Try.underlying111 rfl hi) rfl ⟨rfl, by rw [h255.out]⟩

/-- makeTables answers the two tables and leaves three blocks behind what was there. -/
theorem tables_any (W : World) :
    Calls Try.prog 87 #[] W fun e w' => e = .returned (.agg (tab 255)) ∧ w' = ((W.alloc (.cells (tab 255) 111)).alloc (.cells (tab 255) 111)).alloc (.cells #[.int .u8 1] 5) :=
  tables_gen W zeros tab (fun k => ((Gf.exp k : Nat) : Int)) zero42 rfl rfl (fun k => by rw [Int.toNat_natCast]; rfl) (fun k => (expE k).symm)
    (fun k => by have := Gf.exp_lt k; omega) tab_size tab_all (by show ((Gf.exp 255 : Nat) : Int) = 1; rw [Gf.exp_255]; rfl)

theorem tab_lo (j : Nat) (hj : j < 255) : ∀ k, k ≤ 255 → (tab k)[j]? = some (.int .u8 (if j < k then ((Gf.exp j : Nat) : Int) else 0))
  | 0, _ => by
    show (Array.replicate 511 (Value.int .u8 0))[j]? = _
    rw [Array.getElem?_replicate, if_pos (by omega), if_neg (by omega)]
  | k + 1, hk => by
    have hs := tab_size k
    unfold tab
    rw [Array.getElem?_setIfInBounds_ne (by omega)]
    by_cases e : k = j
    · subst e
      rw [Array.getElem?_setIfInBounds_self_of_lt (by omega), if_pos (by omega)]
    · rw [Array.getElem?_setIfInBounds_ne e, tab_lo j hj k (by omega)]
      by_cases h : j < k
      · rw [if_pos h, if_pos (by omega)]
      · rw [if_neg h, if_neg (by omega)]

theorem tab_hi (j : Nat) (hj : j < 256) : ∀ k, k ≤ 255 → (tab k)[255 + j]? = some (.int .u8 ((Gf.num k j : Nat) : Int))
  | 0, _ => by
    show (Array.replicate 511 (Value.int .u8 0))[255 + j]? = _
    rw [Array.getElem?_replicate, if_pos (by omega)]; rfl
  | k + 1, hk => by
    have hs := tab_size k
    have hx := Gf.exp_lt k
    unfold tab
    unfold Gf.num
    by_cases e : j = Gf.exp k
    · subst e
      rw [Array.getElem?_setIfInBounds_self_of_lt (by simp; omega), Nat.beq_refl]; rfl
    · have hb : Nat.beq j (Gf.exp k) = false := by
        rw [Bool.eq_false_iff]; intro hc; exact e (Nat.eq_of_beq_eq_true hc)
      rw [Array.getElem?_setIfInBounds_ne (by omega), Array.getElem?_setIfInBounds_ne (by omega), tab_hi j hj k (by omega), hb]; rfl

theorem tab_exp (j : Nat) (hj : j < 255) : (tab 255)[j]? = some (.int .u8 ((Gf.exp j : Nat) : Int)) := by
  rw [tab_lo j hj 255 (Nat.le_refl _), if_pos hj]
theorem tab_lg (j : Nat) (hj : j < 256) : (tab 255)[255 + j]? = some (.int .u8 ((Gf.lg j : Nat) : Int)) := tab_hi j hj 255 (Nat.le_refl _)

end Go.Proofs.Ytbhbdhkifkmkbaa

/- Contracts of gf's Exp, Log, Inverse, Div and Pow: what each answers, and that of what was in memory nothing turns. -/
namespace Go.Proofs.Ytbhbdhkifkmkbaa
open Go.RowKit

/-- new blocks alone -/
def Gw (w w' : World) : Prop := Below w.heap.size w w' ∧ Grown w w'

theorem Gw.refl (w : World) : Gw w w := ⟨Below.refl _ _, Grown.refl _⟩
theorem Gw.alloc {w w' : World} (h : Gw w w') (c : Array Value) (t : TypeId) : Gw w (w'.alloc (.cells c t)) := ⟨h.1.alloc h.1.size _, h.2.alloc c t⟩
theorem Gw.trans {a b c : World} (h : Gw a b) (k : Gw b c) : Gw a c :=
  ⟨h.1.trans (k.1.mono h.1.size), World.keptBut_trans h.2.1 k.2.1, fun x => (k.2.2.1 x).trans (h.2.2.1 x), Nat.le_trans h.2.2.2 k.2.2.2⟩

theorem zeros_size : zeros.size = 511 := tab_size 0

def tablesSaid (T : Array Value) : Prop := ∀ W : World, Calls Try.prog 87 #[] W fun e w' => e = .returned (.agg T) ∧ Gw W w'

theorem tables_said : tablesSaid (tab 255) := fun W =>
  (tables_any W).mono fun e w' ⟨he, hw⟩ => ⟨he, by subst hw; exact (((Gw.refl W).alloc _ _).alloc _ _).alloc _ _⟩

set_option maxRecDepth 100000 in
theorem exp_gen (T Z : Array Value) (hC : tablesSaid T) (hz : ∀ w, (zeroValue 111).run Try.prog w = .ok (.agg Z) w) (hZ : Z.size = T.size) (hi : (Try.prog.info? 111).map (·.size) = some T.size) (ha : Hid (T.all (·.oneCell') = true))
    (n : Int) (hT : T[(n % 255).toNat]? = some (.int .u8 (expI n))) (w : World) :
    Calls Try.prog 67 #[.int .i64 n] w fun e w' => e = .returned (.int .u8 (expI n)) ∧ Gw w w' := by
  have h0 : 0 ≤ n % 255 := Int.emod_nonneg n (by decide)
  have h1 : n % 255 < 255 := Int.emod_lt_of_pos n (by decide)
  go_enter Try.func67, Try.ntmps67
  go_wp2_with (first | (go_at_call 87; refine (hC _).mono ?_; rintro e w1 ⟨rfl, hg⟩) | (go_at_call 88; refine (turn_any _ _).mono ?_; rintro e w' ⟨rfl, rfl⟩) | (refine wpList_store_row rfl 111 _ _ rfl _ T rfl rfl 111 Z (heap_alloc_new _ _) hi hZ ha ?_; rw [setRow_alloc_new]))
  go_ret
  exact ⟨rfl, hg.alloc _ _⟩

theorem exp_any (n : Int) (w : World) : Calls Try.prog 67 #[.int .i64 n] w fun e w' => e = .returned (.int .u8 (expI n)) ∧ Gw w w' :=
  exp_gen (tab 255) zeros tables_said zero42 (by rw [tab_size, zeros_size]) (by rw [tab_size]; kernel_rfl) (tab_all 255) n
    (by have h0 : 0 ≤ n % 255 := Int.emod_nonneg n (by decide)
        have h1 : n % 255 < 255 := Int.emod_lt_of_pos n (by decide)
        exact tab_exp _ (by omega)) w

set_option maxRecDepth 100000 in
theorem log_gen (T Z : Array Value) (hC : tablesSaid T) (hz : ∀ w, (zeroValue 111).run Try.prog w = .ok (.agg Z) w) (hZ : Z.size = T.size) (hi : (Try.prog.info? 111).map (·.size) = some T.size) (ha : Hid (T.all (·.oneCell') = true))
    (a : Int) (a0 : 0 < a) (a1 : a < 256) (hT : T[255 + a.toNat]? = some (.int .u8 (lgI a))) (hl : 0 ≤ lgI a ∧ lgI a < 255) (w : World) :
    Calls Try.prog 66 #[.int .u8 a] w fun e w' => e = .returned (.tuple #[.int .i64 (lgI a), .int .i64 0]) ∧ Gw w w' := by
  go_enter Try.func66, Try.ntmps66
  go_wp2_with (first | (go_at_call 87; refine (hC _).mono ?_; rintro e w1 ⟨rfl, hg⟩) | (refine wpList_store_row rfl 111 _ _ rfl _ T rfl rfl 111 Z (heap_alloc_new _ _) hi hZ ha ?_; rw [setRow_alloc_new]))
  go_ret2
  exact ⟨rfl, hg.alloc _ _⟩

theorem log_zero (w : World) : Calls Try.prog 66 #[.int .u8 0] w fun e w' => e = .returned (.tuple #[.int .i64 0, .int .i64 1]) ∧ w' = w := by
  go_enter Try.func66, Try.ntmps66
  go_wp2
  go_ret2
  exact ⟨rfl, rfl⟩

theorem lgI_bd (a : Int) (a0 : 0 < a) (a1 : a < 256) : 0 ≤ lgI a ∧ lgI a < 255 := by
  have := (Gf.lg_facts a.toNat (by omega) (by omega)).1
  unfold lgI; omega

theorem log_any (a : Int) (a0 : 0 < a) (a1 : a < 256) (w : World) : Calls Try.prog 66 #[.int .u8 a] w fun e w' => e = .returned (.tuple #[.int .i64 (lgI a), .int .i64 0]) ∧ Gw w w' :=
  log_gen (tab 255) zeros tables_said zero42 (by rw [tab_size, zeros_size]) (by rw [tab_size]; kernel_rfl) (tab_all 255) a a0 a1 (tab_lg _ (by omega)) (lgI_bd a a0 a1) w

def invI (a : Int) : Int := expI (-lgI a)

theorem inv_zero (w : World) : Calls Try.prog 58 #[.int .u8 0] w fun e w' => e = .returned (.tuple #[.int .u8 0, .int .i64 1]) ∧ w' = w := by
  go_enter Try.func58, Try.ntmps58
  go_wp2_with (go_at_call 66; refine (log_zero _).mono ?_; rintro e w' ⟨rfl, rfl⟩)
  go_ret2
  exact ⟨rfl, rfl⟩

theorem inv_any (a : Int) (a0 : 0 < a) (a1 : a < 256) (w : World) : Calls Try.prog 58 #[.int .u8 a] w fun e w' => e = .returned (.tuple #[.int .u8 (invI a), .int .i64 0]) ∧ Gw w w' := by
  have hl := lgI_bd a a0 a1
  go_enter Try.func58, Try.ntmps58
  go_wp2_with (first | (go_at_call 66; refine (log_any a a0 a1 _).mono ?_; rintro e w1 ⟨rfl, hg⟩) | (go_at_call 67; refine (exp_any _ _).mono ?_; rintro e w2 ⟨rfl, hg2⟩))
  go_ret2
  exact ⟨rfl, hg.trans hg2⟩

theorem invI_bd (a : Int) : 0 ≤ invI a ∧ invI a < 256 := expI_bd _

def powI (a n : Int) : Int := if n = 0 then 1 else if a = 0 then 0 else expI (lgI a * (n % 255))

/-! the same for every byte, 0 among them -/
def erR (a : Int) : Int := if a = 0 then 1 else 0
def lgR (a : Int) : Int := if a = 0 then 0 else lgI a
def invR (a : Int) : Int := if a = 0 then 0 else invI a
def divR (a b : Int) : Int := if b = 0 then 0 else mulI a (invI b)

theorem lgR_bd (a : Int) (a0 : 0 ≤ a) (a1 : a < 256) : 0 ≤ lgR a ∧ lgR a < 255 := by
  unfold lgR; split
  · decide
  · exact lgI_bd a (by omega) a1
theorem invR_bd (a : Int) : 0 ≤ invR a ∧ invR a < 256 := by
  unfold invR; split
  · decide
  · exact invI_bd a
theorem divR_bd (a b : Int) (a1 : a < 256) : 0 ≤ divR a b ∧ divR a b < 256 := by
  unfold divR; split
  · decide
  · exact mulI_bd _ _ a1
theorem powI_bd (a n : Int) : 0 ≤ powI a n ∧ powI a n < 256 := by
  unfold powI; split
  · decide
  · split
    · decide
    · exact expI_bd _

theorem log_all (a : Int) (a0 : 0 ≤ a) (a1 : a < 256) (w : World) : Calls Try.prog 66 #[.int .u8 a] w fun e w' => e = .returned (.tuple #[.int .i64 (lgR a), .int .i64 (erR a)]) ∧ Gw w w' := by
  by_cases h : a = 0
  · subst h; exact (log_zero w).mono fun e w' ⟨he, hw⟩ => ⟨he, hw ▸ Gw.refl _⟩
  · unfold lgR erR; rw [if_neg h, if_neg h]; exact log_any a (by omega) a1 w
theorem inv_all (a : Int) (a0 : 0 ≤ a) (a1 : a < 256) (w : World) : Calls Try.prog 58 #[.int .u8 a] w fun e w' => e = .returned (.tuple #[.int .u8 (invR a), .int .i64 (erR a)]) ∧ Gw w w' := by
  by_cases h : a = 0
  · subst h; exact (inv_zero w).mono fun e w' ⟨he, hw⟩ => ⟨he, hw ▸ Gw.refl _⟩
  · unfold invR erR; rw [if_neg h, if_neg h]; exact inv_any a (by omega) a1 w
end Go.Proofs.Ytbhbdhkifkmkbaa

/- Plain arithmetic: a product of two polynomials, modulo the field's, is the product bit by bit; squares; what is looked for by going through all bytes. -/
namespace Go.Proofs.Ytbhbdhkifkmkbaa.Gf

def r1 (a b : Nat) : Nat → Nat
  | 0 => 0
  | k + 1 => cond (Nat.beq (b / 2 ^ k % 2) 1) (r1 a b k ^^^ (a * 2 ^ k)) (r1 a b k)

/-- j steps from the bit 14 down -/
def r2 (p : Nat) : Nat → Nat
  | 0 => p
  | j + 1 => force (r2 p j) fun q => cond (Nat.beq (q / 2 ^ (14 - j) % 2) 1) (q ^^^ (285 * 2 ^ (6 - j))) q

theorem r2_succ (p j : Nat) : r2 p (j + 1) = cond (Nat.beq (r2 p j / 2 ^ (14 - j) % 2) 1) (r2 p j ^^^ (285 * 2 ^ (6 - j))) (r2 p j) := force_eq _ _

def rmul (a b : Nat) : Nat := r2 (r1 a b 8) 7

theorem r1_right (a b c : Nat) : ∀ k, r1 a (b ^^^ c) k = r1 a b k ^^^ r1 a c k
  | 0 => by simp [r1]
  | k + 1 => by
    unfold r1
    rw [r1_right a b c k, bit_xor]
    rcases bit01 b k with e | e <;> rcases bit01 c k with f | f <;> rw [e, f]
    · rfl
    · exact Nat.xor_assoc _ _ _
    · show r1 a b k ^^^ r1 a c k ^^^ _ = r1 a b k ^^^ _ ^^^ r1 a c k
      rw [Nat.xor_assoc, Nat.xor_assoc, Nat.xor_comm (a * 2 ^ k)]
    · show r1 a b k ^^^ r1 a c k = (r1 a b k ^^^ _) ^^^ (r1 a c k ^^^ _)
      rw [xor4, Nat.xor_self, Nat.xor_zero]

theorem r2_xor (p q : Nat) : ∀ j, r2 (p ^^^ q) j = r2 p j ^^^ r2 q j
  | 0 => rfl
  | j + 1 => by
    rw [r2_succ, r2_succ, r2_succ, r2_xor p q j, bit_xor]
    rcases bit01 (r2 p j) (14 - j) with e | e <;> rcases bit01 (r2 q j) (14 - j) with f | f <;> rw [e, f]
    · rfl
    · exact Nat.xor_assoc _ _ _
    · show r2 p j ^^^ r2 q j ^^^ _ = r2 p j ^^^ _ ^^^ r2 q j
      rw [Nat.xor_assoc, Nat.xor_assoc, Nat.xor_comm (285 * 2 ^ (6 - j))]
    · show r2 p j ^^^ r2 q j = (r2 p j ^^^ _) ^^^ (r2 q j ^^^ _)
      rw [xor4, Nat.xor_self, Nat.xor_zero]

theorem rmul_basis (a i : Nat) (ha : a < 256) (hi : i < 8) : rmul a (2 ^ i) = mul a (2 ^ i) := by
  have := allB_spec (allB_spec (p := fun a => allB 8 fun i => Nat.beq (rmul a (2 ^ i)) (mul a (2 ^ i))) (n := 256) (by decide +kernel) a ha) i hi
  exact Nat.eq_of_beq_eq_true this

theorem rmul_eq (a b : Nat) (ha : a < 256) (hb : b < 256) : rmul a b = mul a b :=
  lin_ext (f := fun b => rmul a b) (g := fun b => mul a b) (fun x y _ _ => by show r2 (r1 a _ 8) 7 = _; rw [r1_right, r2_xor]; rfl) (fun x y _ _ => mul_add a x y ha) (fun i hi => rmul_basis a i ha hi) b hb

theorem r1_lt (a b : Nat) (ha : a < 256) : ∀ k, k ≤ 8 → r1 a b k < 32768
  | 0, _ => by show 0 < 32768; decide
  | k + 1, hk => by
    have h := r1_lt a b ha k (by omega)
    unfold r1
    cases Nat.beq (b / 2 ^ k % 2) 1
    · exact h
    · have hp : 2 ^ k ≤ 2 ^ 7 := Nat.pow_le_pow_right (by decide) (by omega)
      have hm : a * 2 ^ k ≤ 255 * 2 ^ 7 := Nat.mul_le_mul (by omega) hp
      exact Nat.xor_lt_two_pow (n := 15) h (by omega)

theorem r2_lt (p : Nat) (hp : p < 32768) : ∀ j, r2 p j < 32768
  | 0 => hp
  | j + 1 => by
    have h := r2_lt p hp j
    rw [r2_succ]
    cases Nat.beq (r2 p j / 2 ^ (14 - j) % 2) 1
    · exact h
    · have hq : 2 ^ (6 - j) ≤ 2 ^ 6 := Nat.pow_le_pow_right (by decide) (by omega)
      have hm : 285 * 2 ^ (6 - j) ≤ 285 * 2 ^ 6 := Nat.mul_le_mul (Nat.le_refl _) hq
      exact Nat.xor_lt_two_pow (n := 15) h (by omega)

/-! squares -/
theorem sq_add (a b : Nat) (ha : a < 256) (hb : b < 256) : mul (a ^^^ b) (a ^^^ b) = mul a a ^^^ mul b b := by
  rw [mul_add _ _ _ (xor_lt a b ha hb), add_mul a b a ha hb, add_mul a b b ha hb, mul_comm b a hb ha, Nat.xor_comm (mul a b) (mul b b), xor4, Nat.xor_self, Nat.xor_zero]

theorem xor_eq_zero {a b : Nat} (h : a ^^^ b = 0) : a = b := by
  have : a ^^^ (a ^^^ b) = a ^^^ 0 := by rw [h]
  rw [← Nat.xor_assoc, Nat.xor_self, Nat.zero_xor, Nat.xor_zero] at this
  exact this.symm

theorem sq_inj (a b : Nat) (ha : a < 256) (hb : b < 256) (h : mul a a = mul b b) : a = b := by
  have e := sq_add a b ha hb
  rw [h, Nat.xor_self] at e
  have := (mul_eq_zero _ _ (xor_lt a b ha hb) (xor_lt a b ha hb)).1 e
  exact xor_eq_zero (this.elim id id)

end Go.Proofs.Ytbhbdhkifkmkbaa.Gf

/- The field's arithmetic, said of whole numbers: sums, products, inverses, powers. -/
namespace Go.Proofs.Ytbhbdhkifkmkbaa

theorem add_comm (a b : Int) : addI b a = addI a b := by unfold addI; rw [Nat.xor_comm]
theorem add_assoc (a b c : Int) : addI (addI a b) c = addI a (addI b c) := by unfold addI; rw [Int.toNat_natCast, Int.toNat_natCast, Nat.xor_assoc]
theorem add_zero (a : Int) (a0 : 0 ≤ a) : addI a 0 = a := by unfold addI; simp; omega
theorem add_self (a : Int) : addI a a = 0 := by unfold addI; simp
theorem mul_comm (a b : Int) (a1 : a < 256) (b1 : b < 256) : mulI b a = mulI a b := by unfold mulI; rw [Gf.mul_comm _ _ (by omega) (by omega)]
theorem mul_assoc (a b c : Int) (a1 : a < 256) (b1 : b < 256) : mulI (mulI a b) c = mulI a (mulI b c) := by unfold mulI; rw [Int.toNat_natCast, Int.toNat_natCast, Gf.mul_assoc _ _ _ (by omega) (by omega)]
theorem mul_one (a : Int) (a0 : 0 ≤ a) (a1 : a < 256) : mulI a 1 = a := by
  unfold mulI; rw [show (1 : Int).toNat = 1 from rfl, Gf.mul_one _ (by omega)]; omega
theorem mul_zero (a : Int) (a1 : a < 256) : mulI a 0 = 0 := by
  unfold mulI; rw [show (0 : Int).toNat = 0 from rfl, Gf.mul_zero _ (by omega)]; rfl
theorem mul_add (a b c : Int) (a1 : a < 256) : mulI a (addI b c) = addI (mulI a b) (mulI a c) := by
  unfold mulI addI; rw [Int.toNat_natCast, Int.toNat_natCast, Int.toNat_natCast, Gf.mul_add _ _ _ (by omega)]
theorem mul_zero_iff (a b : Int) (a0 : 0 ≤ a) (a1 : a < 256) (b0 : 0 ≤ b) (b1 : b < 256) : mulI a b = 0 ↔ a = 0 ∨ b = 0 := by
  have := Gf.mul_eq_zero a.toNat b.toNat (by omega) (by omega)
  unfold mulI; omega

theorem expI_congr {m n : Int} (h : m % 255 = n % 255) : expI m = expI n := by unfold expI; rw [h]
theorem expI_nat (n : Nat) : expI n = ((Gf.exp n : Nat) : Int) := by
  unfold expI
  have : ((n : Int) % 255).toNat = n % 255 := by omega
  rw [this, Gf.exp_mod]
theorem expI_add (m n : Int) : mulI (expI m) (expI n) = expI (m + n) := by
  have h : mulI (expI m) (expI n) = expI (((m % 255).toNat + (n % 255).toNat : Nat) : Int) := by
    rw [expI_nat, Gf.exp_add]; unfold mulI expI; rw [Int.toNat_natCast, Int.toNat_natCast]
  rw [h]
  exact expI_congr (by omega)
theorem expI_zero : expI 0 = 1 := by decide +kernel
theorem expI_pos (n : Int) : 0 < expI n := by
  have := Gf.exp_ne (n % 255).toNat
  unfold expI; omega
theorem exp_lgI (a : Int) (a0 : 0 < a) (a1 : a < 256) : expI (lgI a) = a := by
  unfold lgI
  rw [expI_nat, (Gf.lg_facts a.toNat (by omega) (by omega)).2]; omega
theorem lg_expI (n : Int) : lgI (expI n) = n % 255 := by
  unfold lgI expI
  rw [Int.toNat_natCast, Gf.lg_exp]; omega

theorem inv_mul (b : Int) (b0 : 0 < b) (b1 : b < 256) : mulI (invI b) b = 1 := by
  have h : mulI (invI b) b = mulI (expI (-lgI b)) (expI (lgI b)) := by rw [exp_lgI b b0 b1]; rfl
  rw [h, expI_add, show -lgI b + lgI b = 0 by omega, expI_zero]
theorem inv_pos (b : Int) : 0 < invI b := expI_pos _
theorem div_mul (a b : Int) (a0 : 0 ≤ a) (a1 : a < 256) (b0 : 0 < b) (b1 : b < 256) : mulI (mulI a (invI b)) b = a := by
  rw [mul_assoc _ _ _ a1 (invI_bd b).2, inv_mul b b0 b1, mul_one a a0 a1]
theorem inv_inv (b : Int) (b0 : 0 < b) (b1 : b < 256) : invI (invI b) = b := by
  have h : lgI (invI b) = (-lgI b) % 255 := lg_expI _
  show expI (-lgI (invI b)) = b
  rw [h, expI_congr (n := lgI b) (by omega), exp_lgI b b0 b1]

theorem powI_eq (a n : Int) (a0 : 0 < a) : powI a n = expI (lgI a * n) := by
  unfold powI
  by_cases h : n = 0
  · subst h; rw [if_pos rfl, Int.mul_zero, expI_zero]
  · rw [if_neg h, if_neg (by omega)]
    exact expI_congr (by rw [Int.mul_emod, Int.emod_emod_of_dvd n (Int.dvd_refl _), ← Int.mul_emod])
theorem pow_sum (a m n : Int) (a0 : 0 < a) : mulI (powI a m) (powI a n) = powI a (m + n) := by
  rw [powI_eq a m a0, powI_eq a n a0, powI_eq a (m + n) a0, expI_add, Int.mul_add]
theorem pow_255 (a : Int) (a0 : 0 < a) : powI a 255 = 1 := by
  rw [powI_eq a 255 a0, expI_congr (n := 0) (by omega), expI_zero]
theorem pow_two (a : Int) (a0 : 0 ≤ a) (a1 : a < 256) : powI a 2 = mulI a a := by
  by_cases h : a = 0
  · subst h; decide +kernel
  · have e : mulI a a = mulI (expI (lgI a)) (expI (lgI a)) := by rw [exp_lgI a (by omega) a1]
    rw [powI_eq a 2 (by omega), e, expI_add]
    exact congrArg expI (by omega)
theorem sq_add (a b : Int) (a1 : a < 256) (b1 : b < 256) : mulI (addI a b) (addI a b) = addI (mulI a a) (mulI b b) := by
  unfold mulI addI; rw [Int.toNat_natCast, Int.toNat_natCast, Int.toNat_natCast, Gf.sq_add _ _ (by omega) (by omega)]
theorem sq_inj (a b : Int) (a0 : 0 ≤ a) (a1 : a < 256) (b0 : 0 ≤ b) (b1 : b < 256) : mulI a a = mulI b b ↔ a = b := by
  constructor
  · intro h
    unfold mulI at h
    have := Gf.sq_inj a.toNat b.toNat (by omega) (by omega) (by omega)
    omega
  · intro h; rw [h]

end Go.Proofs.Ytbhbdhkifkmkbaa

/- Contracts of the document's own answers for gf: Mul, Inverse, Exp, Log and Pow by definition; none of them touches memory. -/
namespace Go.Proofs.Ytbhbdhkifkmkbaa
open Go.RowKit

theorem i64_xor_nat (a b : Nat) (ha : a < 4611686018427387904) (hb : b < 4611686018427387904) : bits .xor .i64 (a : Int) (b : Int) = ((a ^^^ b : Nat) : Int) := by
  have hx : a ^^^ b < 2 ^ 62 := Nat.xor_lt_two_pow (n := 62) ha hb
  show IntKind.i64.wrap ((BitVec.ofInt 64 (a : Int) ^^^ BitVec.ofInt 64 (b : Int)).toNat) = _
  rw [BitVec.toNat_xor, ofInt_u64 a (by omega), ofInt_u64 b (by omega), IntKind.wrap_i64]
  omega

theorem i64_and1_nat (a : Nat) (ha : a < 4611686018427387904) : bits .and .i64 (a : Int) 1 = ((a % 2 : Nat) : Int) := by
  have := (bits_nat .i64 62 (by decide) (fun n h0 h1 => by rw [IntKind.wrap_i64]; omega) a 1 ha (by decide)).1
  rw [Nat.and_one_is_mod] at this
  exact this

def r1I (a b : Int) (k : Nat) : Int := ((Gf.r1 a.toNat b.toNat k : Nat) : Int)
def r2I (a b : Int) (j : Nat) : Int := ((Gf.r2 (Gf.r1 a.toNat b.toNat 8) j : Nat) : Int)

theorem r1I_bd (a b : Int) (a1 : a < 256) (k : Nat) (hk : k ≤ 8) : 0 ≤ r1I a b k ∧ r1I a b k < 32768 := by
  have := Gf.r1_lt a.toNat b.toNat (by omega) k hk
  unfold r1I; omega
theorem r2I_bd (a b : Int) (a1 : a < 256) (j : Nat) : 0 ≤ r2I a b j ∧ r2I a b j < 32768 := by
  have := Gf.r2_lt _ (Gf.r1_lt a.toNat b.toNat (by omega) 8 (Nat.le_refl _)) j
  unfold r2I; omega
theorem r2I_end (a b : Int) (a1 : a < 256) (b1 : b < 256) : r2I a b 7 = mulI a b := by
  unfold r2I mulI; rw [← Gf.rmul_eq _ _ (by omega) (by omega)]; rfl

theorem bit_i64 (x k : Nat) (hx : x < 4611686018427387904) : (bits .and .i64 ((x : Int) / 2 ^ k) 1 == 1) = Nat.beq (x / 2 ^ k % 2) 1 := by
  have e : ((x : Int) / 2 ^ k) = ((x / 2 ^ k : Nat) : Int) := by simp
  have hle : x / 2 ^ k ≤ x := Nat.div_le_self _ _
  rw [e, i64_and1_nat _ (by omega)]
  rcases Gf.bit01 x k with h | h <;> rw [h] <;> rfl

theorem up1_yes (a b : Int) (k : Nat) (a0 : 0 ≤ a) (a1 : a < 256) (b0 : 0 ≤ b) (b1 : b < 256) (hk : k < 8) (h : (bits .and .i64 (b / 2 ^ k) 1 == 1) = true) : bits .xor .i64 (r1I a b k) (wrap64 (a * 2 ^ k)) = r1I a b (k + 1) := by
  obtain ⟨x, rfl⟩ : ∃ x : Nat, a = x := ⟨a.toNat, by omega⟩
  obtain ⟨y, rfl⟩ : ∃ y : Nat, b = y := ⟨b.toNat, by omega⟩
  have hp : 2 ^ k ≤ 2 ^ 7 := Nat.pow_le_pow_right (by decide) (by omega)
  have hm : x * 2 ^ k ≤ 255 * 2 ^ 7 := Nat.mul_le_mul (by omega) hp
  have e : (x : Int) * 2 ^ k = ((x * 2 ^ k : Nat) : Int) := by simp
  have hr := Gf.r1_lt x y (by omega) k (by omega)
  rw [bit_i64 y k (by omega)] at h
  rw [e, IntWalk.wrap64_in _ ⟨by omega, by omega⟩]
  unfold r1I
  rw [Int.toNat_natCast, Int.toNat_natCast, i64_xor_nat _ _ (by omega) (by omega), Gf.r1, h]
  rfl

theorem up1_no (a b : Int) (k : Nat) (b0 : 0 ≤ b) (b1 : b < 256) (h : (bits .and .i64 (b / 2 ^ k) 1 == 1) = false) : r1I a b k = r1I a b (k + 1) := by
  obtain ⟨y, rfl⟩ : ∃ y : Nat, b = y := ⟨b.toNat, by omega⟩
  rw [bit_i64 y k (by omega)] at h
  unfold r1I
  rw [Int.toNat_natCast, Gf.r1, h]
  rfl

theorem up2_yes (a b : Int) (j : Nat) (a1 : a < 256) (hj : j < 7) (h : (bits .and .i64 (r2I a b j / 2 ^ (14 - j)) 1 == 1) = true) : bits .xor .i64 (r2I a b j) (wrap64 (285 * 2 ^ (14 - j - 8))) = r2I a b (j + 1) := by
  have hr := Gf.r2_lt _ (Gf.r1_lt a.toNat b.toNat (by omega) 8 (Nat.le_refl _)) j
  have hq : 2 ^ (6 - j) ≤ 2 ^ 6 := Nat.pow_le_pow_right (by decide) (by omega)
  have e : (285 : Int) * 2 ^ (14 - j - 8) = ((285 * 2 ^ (6 - j) : Nat) : Int) := by rw [show 14 - j - 8 = 6 - j by omega]; simp
  unfold r2I at h ⊢
  rw [bit_i64 _ _ (by omega)] at h
  rw [e, IntWalk.wrap64_in _ ⟨by omega, by omega⟩, i64_xor_nat _ _ (by omega) (by omega), Gf.r2_succ, h]
  rfl

theorem up2_no (a b : Int) (j : Nat) (a1 : a < 256) (h : (bits .and .i64 (r2I a b j / 2 ^ (14 - j)) 1 == 1) = false) : r2I a b j = r2I a b (j + 1) := by
  have hr := Gf.r2_lt _ (Gf.r1_lt a.toNat b.toNat (by omega) 8 (Nat.le_refl _)) j
  unfold r2I at h ⊢
  rw [bit_i64 _ _ (by omega)] at h
  rw [Gf.r2_succ, h]
  rfl

theorem rmul_any (a b : Int) (a0 : 0 ≤ a) (a1 : a < 256) (b0 : 0 ≤ b) (b1 : b < 256) (w : World) :
    Calls Try.prog 44 #[.int .u8 a, .int .u8 b] w fun e w' => e = .returned (.int .u8 (mulI a b)) ∧ w' = w := by
  go_enter Try.func44, Try.ntmps44
  go_wp2
  go_loop [5, 7] (fun p i => ∃ k : Nat, k ≤ 8 ∧ i = .int .i64 k ∧ p = .int .i64 (r1I a b k)) (fun _ i => 8 - (intOf i).toNat)
  case atStart => exact ⟨0, Nat.zero_le _, rfl, rfl⟩
  case round =>
    obtain ⟨k, hk, rfl, rfl⟩ := hrel
    have hp := r1I_bd a b a1 k hk
    by_cases hlt : k < 8
    · go_wp2
      all_goals
        go_round
        case rel => exact ⟨k + 1, by omega, by go_num, val_int (by first | exact up1_yes a b k a0 a1 b0 b1 hlt ‹_› | exact up1_no a b k b0 b1 ‹_›)⟩
        case measure => simp [intOf]; omega
    · have e8 : k = 8 := by omega
      subst e8
      clear hlt hk
      go_wp2
      go_loop [5, 8] (fun p i => ∃ j : Nat, j ≤ 7 ∧ i = .int .i64 (14 - (j : Int)) ∧ p = .int .i64 (r2I a b j)) (fun _ i => (intOf i - 7).toNat)
      case atStart => exact ⟨0, Nat.zero_le _, rfl, rfl⟩
      case round =>
        obtain ⟨j, hj, rfl, rfl⟩ := hrel
        have hq := r2I_bd a b a1 j
        by_cases hlt : j < 7
        · go_wp2
          all_goals
            go_round
            case rel => exact ⟨j + 1, by omega, by go_num, val_int (by first | exact up2_yes a b j a1 hlt ‹_› | exact up2_no a b j a1 ‹_›)⟩
            case measure => simp [intOf]; omega
        · have e8 : j = 7 := by omega
          subst e8
          have hm := r2I_end a b a1 b1
          go_wp2
          go_ret
          exact ⟨ret_int (by have := mulI_bd a b a1; omega), rfl⟩

theorem inv_only (a k : Int) (a0 : 0 ≤ a) (a1 : a < 256) (k0 : 0 ≤ k) (k1 : k < 256) (h : (mulI a k == 1) = true) : k = invR a := by
  have h1 : mulI a k = 1 := by simpa using h
  have ha : a ≠ 0 := by
    intro e; subst e
    have := (mul_zero_iff 0 k (by decide) (by decide) k0 k1).2 (Or.inl rfl)
    omega
  unfold invR; rw [if_neg ha]
  have e1 := inv_mul a (by omega) a1
  have e2 := mul_assoc (invI a) a k (invI_bd a).2 a1
  rw [e1, h1, mul_one _ (invI_bd a).1 (invI_bd a).2, mul_comm k 1 k1 (by decide), mul_one k k0 k1] at e2
  exact e2

theorem inv_none (a : Int) (a0 : 0 ≤ a) (a1 : a < 256) (h : ∀ j : Nat, 1 ≤ j → j < 256 → mulI a (j : Int) ≠ 1) : (0 : Int) = invR a := by
  unfold invR
  by_cases ha : a = 0
  · rw [if_pos ha]
  · exfalso
    have hb := invI_bd a
    have hp := inv_pos a
    have e := inv_mul a (by omega) a1
    rw [mul_comm a (invI a) a1 hb.2] at e
    have := h (invI a).toNat (by omega) (by omega)
    rw [show ((invI a).toNat : Int) = invI a by omega] at this
    exact this e

theorem no_more {a : Int} {k : Nat} (h : Hid (∀ j : Nat, 1 ≤ j → j < k → mulI a (j : Int) ≠ 1)) (hne : (mulI a (k : Int) == 1) = false) : Hid (∀ j : Nat, 1 ≤ j → j < k + 1 → mulI a (j : Int) ≠ 1) := fun j h1 h2 => by
  by_cases e : j = k
  · subst e; simpa using hne
  · exact h j h1 (by omega)

set_option maxRecDepth 100000 in
theorem rinv_any (a : Int) (a0 : 0 ≤ a) (a1 : a < 256) (w : World) :
    Calls Try.prog 45 #[.int .u8 a] w fun e w' => e = .returned (.int .u8 (invR a)) ∧ w' = w := by
  go_enter Try.func45, Try.ntmps45
  go_wp2
  go_loop [3] (fun i => ∃ k : Nat, 1 ≤ k ∧ k ≤ 256 ∧ i = .int .i64 k ∧ Hid (∀ j : Nat, 1 ≤ j → j < k → mulI a (j : Int) ≠ 1)) (fun i => 256 - (intOf i).toNat)
  case atStart => exact ⟨1, by decide, by decide, rfl, fun j h1 h2 => by omega⟩
  case round =>
    obtain ⟨k, hk1, hk, rfl, hno⟩ := hrel
    by_cases hlt : k < 256
    · go_wp2_with (go_at_call 44; refine (rmul_any _ _ (by omega) (by omega) (by omega) (by omega) _).mono ?_; rintro e w' ⟨rfl, rfl⟩)
      · go_ret
        exact ⟨ret_int (inv_only a k a0 a1 (by omega) (by omega) ‹_›), rfl⟩
      · go_round
        case rel => exact ⟨k + 1, by omega, by omega, by go_num, no_more hno ‹(mulI a (k : Int) == 1) = false›⟩
        case measure => simp [intOf]; omega
    · have e8 : k = 256 := by omega
      subst e8
      go_wp2
      go_ret
      exact ⟨ret_int (inv_none a a0 a1 hno.out), rfl⟩

theorem expI_one : expI 1 = 2 := by decide +kernel
theorem exp_step (k : Nat) : mulI (expI (k : Int)) 2 = expI ((k + 1 : Nat) : Int) := by
  rw [← expI_one, expI_add]; rfl

def rlgI (a : Int) : Int := if a = 0 then -1 else lgI a

theorem lg_only (a : Int) (k : Nat) (hk : k < 255) (h : (expI (k : Int) == a) = true) : (k : Int) = rlgI a := by
  have h1 : expI (k : Int) = a := by simpa using h
  have hp := expI_pos (k : Int)
  unfold rlgI; rw [if_neg (by omega), ← h1, lg_expI]; omega
theorem lg_none (a : Int) (a0 : 0 ≤ a) (a1 : a < 256) (h : ∀ j : Nat, j < 255 → expI (j : Int) ≠ a) : (-1 : Int) = rlgI a := by
  unfold rlgI
  by_cases ha : a = 0
  · rw [if_pos ha]
  · exfalso
    have hb := lgI_bd a (by omega) a1
    have := h (lgI a).toNat (by omega)
    rw [show ((lgI a).toNat : Int) = lgI a by omega] at this
    exact this (exp_lgI a (by omega) a1)

theorem lg_more {a : Int} {k : Nat} (h : Hid (∀ j : Nat, j < k → expI (j : Int) ≠ a)) (hne : (expI (k : Int) == a) = false) : Hid (∀ j : Nat, j < k + 1 → expI (j : Int) ≠ a) := fun j h2 => by
  by_cases e : j = k
  · subst e; simpa using hne
  · exact h j (by omega)

def powU (a : Int) : Nat → Int
  | 0 => 1
  | k + 1 => mulI (powU a k) a

theorem powU_bd (a : Int) : ∀ k, 0 ≤ powU a k ∧ powU a k < 256
  | 0 => by show (0 : Int) ≤ 1 ∧ (1 : Int) < 256; decide
  | k + 1 => mulI_bd _ _ (powU_bd a k).2

theorem powU_eq (a : Int) (a0 : 0 < a) (a1 : a < 256) : ∀ k : Nat, powU a k = expI (lgI a * (k : Int))
  | 0 => by rw [show ((0 : Nat) : Int) = 0 from rfl, Int.mul_zero, expI_zero]; rfl
  | k + 1 => by
    have e : mulI (powU a k) a = mulI (powU a k) (expI (lgI a)) := by rw [exp_lgI a a0 a1]
    show mulI (powU a k) a = _
    rw [e, powU_eq a a0 a1 k, expI_add]
    exact congrArg expI (by rw [show ((k + 1 : Nat) : Int) = (k : Int) + 1 from rfl, Int.mul_add, Int.mul_one])

end Go.Proofs.Ytbhbdhkifkmkbaa

/- Rows of bytes in memory, and what the document's own Plus and Dot answer for them. -/
namespace Go.Proofs.Ytbhbdhkifkmkbaa
open Go.RowKit

/-- what was there stays -/
abbrev Bw (w w' : World) : Prop := Below w.heap.size w w'

theorem Bw.trans {a b c : World} (h : Bw a b) (k : Bw b c) : Bw a c := Below.trans h (Below.mono k h.size)
theorem Bw.refl (a : World) : Bw a a := Below.refl _ _
theorem Bw.drewN (w : World) : ∀ n, Bw w (w.drewN n)
  | 0 => Below.refl _ _
  | n + 1 => (Bw.drewN w n).drew

/-- a row of L bytes at A -/
def RowAt (w : World) (A : Option Addr) (L : Nat) (f : Nat → Int) : Prop :=
  (L = 0 ∨ ∃ b off, A = some ⟨b, off, none⟩ ∧ ∀ i, i < L → w.cell? ⟨b, off + i, none⟩ = some (.int .u8 (f i))) ∧ ∀ i, 0 ≤ f i ∧ f i < 256

theorem RowAt.keep {w w' : World} {A : Option Addr} {L : Nat} {f : Nat → Int} (h : RowAt w A L f) (g : Bw w w') : RowAt w' A L f := by
  refine ⟨?_, h.2⟩
  rcases h.1 with h0 | ⟨b, off, hA, hc⟩
  · exact Or.inl h0
  · refine Or.inr ⟨b, off, hA, fun i hi => ?_⟩
    have := hc i hi
    rw [g.cell (p := ⟨b, off + i, none⟩) (block_lt_of_cell this)]
    exact this

theorem RowAt.at {w : World} {A : Option Addr} {L : Nat} {f : Nat → Int} (h : RowAt w A L f) {k : Nat} (hk : k < L) : ∃ b off, A = some ⟨b, off, none⟩ ∧ ∀ i, i < L → w.cell? ⟨b, off + i, none⟩ = some (.int .u8 (f i)) := by
  rcases h.1 with h0 | h
  · omega
  · exact h

def twoE (la lb : Nat) : Int := if 131072 < la ∨ 131072 < lb then 2 else if la ≠ lb then 6 else 0

/-- the sum of the first k products -/
def dotU (f g : Nat → Int) : Nat → Int
  | 0 => 0
  | k + 1 => addI (dotU f g k) (mulI (f k) (g k))

theorem dotU_bd (f g : Nat → Int) (hf : ∀ i, 0 ≤ f i ∧ f i < 256) : ∀ k, 0 ≤ dotU f g k ∧ dotU f g k < 256
  | 0 => by show (0 : Int) ≤ 0 ∧ (0 : Int) < 256; decide
  | k + 1 => addI_bd _ _ (dotU_bd f g hf k).2 (mulI_bd _ _ (hf k).2).2

end Go.Proofs.Ytbhbdhkifkmkbaa

/- What the document's own Plus answers: a new row. -/
namespace Go.Proofs.Ytbhbdhkifkmkbaa
open Go.RowKit

theorem info_u8 : (Try.prog.info? 5).map (fun i => (i.zero, i.size, i.bytes)) = some (some (.int .u8 0), 1, 1) := by kernel_rfl

/-- the cells of a row of k bytes -/
def cellsU (h : Nat → Int) (k : Nat) : List Value := (List.range k).map fun i => .int .u8 (h i)

theorem cellsU_succ (h : Nat → Int) (k : Nat) : cellsU h (k + 1) = cellsU h k ++ [.int .u8 (h k)] := by
  unfold cellsU; rw [List.range_succ, List.map_append]; rfl

/-- a cell below the base is as it was behind an append onto a row of the call's own -/
theorem far_of {W w1 : World} {base : Nat} {e : TypeId} {size n : Nat} {v : Value} {xs : List Value} (hgrow : W.grownBy w1 v.ownBlock) (hown : W.ownsRow base e size v n xs) (hb : base ≤ W.heap.size) {a : Addr} {x : Value} (hlt : a.block < base) (hc : W.cell? a = some x) : w1.cell? a = some x := by
  rw [World.cell?_of_block (w := W) (hgrow.block a.block (by omega) ?_)]
  · exact hc
  · intro h
    rcases hown.2 with ⟨rfl, _⟩ | ⟨g, cap, cur, rfl, hg, _⟩
    · cases h
    · simp only [Value.ownBlock, Option.some.injEq] at h
      omega

theorem own_ge {W : World} {base : Nat} {e : TypeId} {size n : Nat} {v : Value} {xs : List Value} (hown : W.ownsRow base e size v n xs) : ∀ k, v.ownBlock = some k → base ≤ k := by
  intro k h
  rcases hown.2 with ⟨rfl, _⟩ | ⟨g, cap, cur, rfl, hg, _⟩
  · cases h
  · simp only [Value.ownBlock, Option.some.injEq] at h
    omega

theorem RowAt.lt {w : World} {b off L : Nat} {f : Nat → Int} (h : RowAt w (some ⟨b, off, none⟩) L f) {k : Nat} (hk : k < L) : b < w.heap.size := by
  obtain ⟨b', o', e, hc⟩ := h.at hk
  simp only [Option.some.injEq, Addr.mk.injEq] at e
  obtain ⟨rfl, _⟩ := e
  exact block_lt_of_cell (hc k hk)

end Go.Proofs.Ytbhbdhkifkmkbaa

/- Matrices of bytes in memory, and what is read of them: how many columns, what is wrong with one, whether one is great. -/
namespace Go.Proofs.Ytbhbdhkifkmkbaa
open Go.RowKit

/-- a matrix of n rows at A: row r lies at R r, its length L r, its room C r, its numbers Z r -/
def MatAt (w : World) (A : Option Addr) (n : Nat) (R : Nat → Option Addr) (L C : Nat → Nat) (Z : Nat → Nat → Int) : Prop :=
  (n = 0 ∨ ∃ b off, A = some ⟨b, off, none⟩ ∧ ∀ r, r < n → w.cell? ⟨b, off + r, none⟩ = some (.slice (R r) (L r) (C r))) ∧ ∀ r, r < n → RowAt w (R r) (L r) (Z r)

theorem MatAt.keep {w w' : World} {A : Option Addr} {n : Nat} {R : Nat → Option Addr} {L C : Nat → Nat} {Z : Nat → Nat → Int} (h : MatAt w A n R L C Z) (g : Bw w w') : MatAt w' A n R L C Z := by
  refine ⟨?_, fun r hr => (h.2 r hr).keep g⟩
  rcases h.1 with h0 | ⟨b, off, hA, hc⟩
  · exact Or.inl h0
  · refine Or.inr ⟨b, off, hA, fun i hi => ?_⟩
    have := hc i hi
    rw [g.cell (p := ⟨b, off + i, none⟩) (block_lt_of_cell this)]
    exact this

theorem MatAt.at {w : World} {A : Option Addr} {n : Nat} {R : Nat → Option Addr} {L C : Nat → Nat} {Z : Nat → Nat → Int} (h : MatAt w A n R L C Z) {k : Nat} (hk : k < n) : ∃ b off, A = some ⟨b, off, none⟩ ∧ ∀ r, r < n → w.cell? ⟨b, off + r, none⟩ = some (.slice (R r) (L r) (C r)) := by
  rcases h.1 with h0 | h
  · omega
  · exact h

def colsI (n : Nat) (L : Nat → Nat) : Int := if n = 0 then 0 else (L 0 : Int)

/-- what the document says is wrong with a matrix -/
def Wrong (n : Nat) (L : Nat → Nat) (e : Int) : Prop :=
  (e = 2 ∧ (32 < n ∨ ∃ r, r < n ∧ 131072 < L r)) ∨ (e = 6 ∧ n ≤ 32 ∧ (∀ r, r < n → L r ≤ 131072) ∧ ∃ r, r < n ∧ L r ≠ L 0) ∨ (e = 0 ∧ n ≤ 32 ∧ (∀ r, r < n → L r ≤ 131072) ∧ ∀ r, r < n → L r = L 0)

/-- how many numbers and rows as far as row k -/
def bulk (L : Nat → Nat) : Nat → Nat
  | 0 => 0
  | k + 1 => bulk L k + 1 + L k

theorem bulk_mono (L : Nat → Nat) (j k : Nat) (h : j ≤ k) : bulk L j ≤ bulk L k := by
  induction k with
  | zero => have : j = 0 := by omega
            subst this; exact Nat.le_refl _
  | succ k ih =>
    by_cases e : j = k + 1
    · subst e; exact Nat.le_refl _
    · have := ih (by omega)
      show bulk L j ≤ bulk L k + 1 + L k
      omega

theorem ret_bool {a b : Bool} (h : a = b) : Ending.returned (.bool a) = .returned (.bool b) := by rw [h]

end Go.Proofs.Ytbhbdhkifkmkbaa
