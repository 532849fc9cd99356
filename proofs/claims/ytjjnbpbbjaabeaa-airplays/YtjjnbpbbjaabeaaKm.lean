/- Sums of bytes: the register as a number, what eight steps do to it, and what is noticed. Nothing of the program is named here. -/
import Derived.WalkKit
namespace Crc

def P : Nat := 2197175160
def ones : Nat := 4294967295

/-- one step of the register -/
def step (x : Nat) : Nat := cond (x % 2 == 1) (x / 2 ^^^ P) (x / 2)
def steps : Nat → Nat → Nat
  | 0, x => x
  | k + 1, x => steps k (step x)

theorem xor_lt32 {a b : Nat} (ha : a < 4294967296) (hb : b < 4294967296) : a ^^^ b < 4294967296 := Nat.xor_lt_two_pow (n := 32) ha hb
theorem xor_lt8 {a b : Nat} (ha : a < 256) (hb : b < 256) : a ^^^ b < 256 := Nat.xor_lt_two_pow (n := 8) ha hb

theorem xor_half (a b : Nat) : (a ^^^ b) / 2 = a / 2 ^^^ b / 2 := Nat.xor_div_two
theorem xor_odd (a b : Nat) : (a ^^^ b) % 2 = (a + b) % 2 := by
  have h : ∀ x : Nat, x % 2 = (x.testBit 0).toNat := fun x => by
    rw [Nat.testBit_eq_decide_div_mod_eq, Nat.pow_zero, Nat.div_one]
    rcases Nat.mod_two_eq_zero_or_one x with e | e <;> rw [e] <;> rfl
  have ha := h a
  have hb := h b
  rw [h (a ^^^ b), Nat.testBit_xor]
  revert ha hb
  cases a.testBit 0 <;> cases b.testBit 0 <;> simp <;> omega
theorem xor_none {a b : Nat} (h : a ^^^ b = 0) : a = b := by
  have := congrArg (· ^^^ b) h
  simpa [Nat.xor_assoc] using this
theorem xor4 (a b c d : Nat) : (a ^^^ b) ^^^ (c ^^^ d) = (a ^^^ c) ^^^ (b ^^^ d) := by
  rw [Nat.xor_assoc, Nat.xor_assoc, ← Nat.xor_assoc b c d, Nat.xor_comm b c, Nat.xor_assoc c b d]
theorem xor_cancel (a b : Nat) : a ^^^ b ^^^ b = a := by rw [Nat.xor_assoc, Nat.xor_self, Nat.xor_zero]

theorem step_xor (a b : Nat) : step (a ^^^ b) = step a ^^^ step b := by
  unfold step
  rw [xor_half, xor_odd]
  rcases Nat.mod_two_eq_zero_or_one a with ha | ha <;> rcases Nat.mod_two_eq_zero_or_one b with hb | hb
  · have : (a + b) % 2 = 0 := by omega
    rw [this, ha, hb]; rfl
  · have : (a + b) % 2 = 1 := by omega
    rw [this, ha, hb]
    show a / 2 ^^^ b / 2 ^^^ P = a / 2 ^^^ (b / 2 ^^^ P)
    rw [Nat.xor_assoc]
  · have : (a + b) % 2 = 1 := by omega
    rw [this, ha, hb]
    show a / 2 ^^^ b / 2 ^^^ P = (a / 2 ^^^ P) ^^^ b / 2
    rw [Nat.xor_assoc, Nat.xor_comm (b / 2) P, ← Nat.xor_assoc]
  · have : (a + b) % 2 = 0 := by omega
    rw [this, ha, hb]
    show a / 2 ^^^ b / 2 = (a / 2 ^^^ P) ^^^ (b / 2 ^^^ P)
    rw [xor4, Nat.xor_self, Nat.xor_zero]

theorem step_lt {x : Nat} (h : x < 4294967296) : step x < 4294967296 := by
  unfold step
  cases x % 2 == 1
  · show x / 2 < 4294967296; omega
  · exact xor_lt32 (by omega) (by decide)

theorem step_two (x : Nat) : step (x * 2) = x := by
  have h : (x * 2) % 2 = 0 := by omega
  unfold step; rw [h]
  show x * 2 / 2 = x
  omega

theorem step_ne {x : Nat} (h : x < 4294967296) (h0 : x ≠ 0) : step x ≠ 0 := by
  unfold step
  rcases Nat.mod_two_eq_zero_or_one x with hx | hx
  · rw [hx]; show x / 2 ≠ 0; omega
  · rw [hx]
    show x / 2 ^^^ P ≠ 0
    intro hc
    have := xor_none hc
    unfold P at this
    omega

theorem steps_xor (k a b : Nat) : steps k (a ^^^ b) = steps k a ^^^ steps k b := by
  induction k generalizing a b with
  | zero => rfl
  | succ k ih => show steps k (step _) = steps k (step _) ^^^ steps k (step _); rw [step_xor, ih]
theorem steps_zero (k : Nat) : steps k 0 = 0 := by
  induction k with
  | zero => rfl
  | succ k ih => exact ih
theorem steps_lt (k : Nat) {x : Nat} (h : x < 4294967296) : steps k x < 4294967296 := by
  induction k generalizing x with
  | zero => exact h
  | succ k ih => exact ih (step_lt h)
theorem steps_add (j k x : Nat) : steps (j + k) x = steps k (steps j x) := by
  induction j generalizing x with
  | zero => rw [Nat.zero_add]; rfl
  | succ j ih => rw [Nat.succ_add]; exact ih _
theorem steps_shift (k x : Nat) : steps k (x * 2 ^ k) = x := by
  induction k with
  | zero => rw [Nat.pow_zero, Nat.mul_one]; rfl
  | succ k ih =>
    show steps k (step _) = x
    rw [Nat.pow_succ, ← Nat.mul_assoc, step_two, ih]
theorem steps_ne (k : Nat) {x : Nat} (h : x < 4294967296) (h0 : x ≠ 0) : steps k x ≠ 0 := by
  induction k generalizing x with
  | zero => exact h0
  | succ k ih => exact ih (step_lt h) (step_ne h h0)

/-- eight steps -/
def mv (x : Nat) : Nat := steps 8 x
theorem mv_lt {x : Nat} (h : x < 4294967296) : mv x < 4294967296 := steps_lt 8 h

theorem low_high (x : Nat) : x % 256 ^^^ x / 256 * 2 ^ 8 = x := by
  apply Nat.eq_of_testBit_eq
  intro i
  rw [show (256 : Nat) = 2 ^ 8 from rfl, Nat.testBit_xor, Nat.testBit_mod_two_pow, Nat.testBit_mul_two_pow, Nat.testBit_div_two_pow]
  by_cases h : i < 8
  · simp [h, show ¬ 8 ≤ i by omega]
  · simp [h, show 8 ≤ i by omega, show i - 8 + 8 = i by omega]

/-- a byte's part is looked up -/
theorem mv_table (x c : Nat) : mv (x ^^^ c) = x / 256 ^^^ mv (x % 256 ^^^ c) := by
  have h : x ^^^ c = x / 256 * 2 ^ 8 ^^^ (x % 256 ^^^ c) := by
    rw [← Nat.xor_assoc, Nat.xor_comm _ (x % 256), low_high]
  unfold mv
  rw [h, steps_xor, steps_shift]

/-- the register behind n bytes -/
def reg (x : Nat) (f : Nat → Nat) : Nat → Nat
  | 0 => x
  | n + 1 => mv (reg x f n ^^^ f n)

theorem reg_lt {x : Nat} {f : Nat → Nat} (hx : x < 4294967296) (hf : ∀ i, f i < 256) : ∀ n, reg x f n < 4294967296
  | 0 => hx
  | n + 1 => mv_lt (xor_lt32 (reg_lt hx hf n) (by have := hf n; omega))
theorem reg_congr {x : Nat} {f g : Nat → Nat} : ∀ n, (∀ i, i < n → f i = g i) → reg x f n = reg x g n
  | 0, _ => rfl
  | n + 1, h => by
    show mv (reg x f n ^^^ f n) = mv (reg x g n ^^^ g n)
    rw [reg_congr n (fun i hi => h i (by omega)), h n (by omega)]
theorem reg_xor (x y : Nat) (f g : Nat → Nat) : ∀ n, reg (x ^^^ y) (fun i => f i ^^^ g i) n = reg x f n ^^^ reg y g n
  | 0 => rfl
  | n + 1 => by
    show mv (reg (x ^^^ y) _ n ^^^ (f n ^^^ g n)) = mv (reg x f n ^^^ f n) ^^^ mv (reg y g n ^^^ g n)
    rw [reg_xor x y f g n, xor4]; exact steps_xor 8 _ _
theorem reg_add (x : Nat) (f : Nat → Nat) (n : Nat) : ∀ m, reg x f (n + m) = reg (reg x f n) (fun i => f (n + i)) m
  | 0 => rfl
  | m + 1 => by
    show mv (reg x f (n + m) ^^^ f (n + m)) = mv (reg (reg x f n) _ m ^^^ f (n + m))
    rw [reg_add x f n m]
theorem reg_nought (x : Nat) : ∀ n, reg x (fun _ => 0) n = steps (8 * n) x
  | 0 => rfl
  | n + 1 => by
    show mv (reg x (fun _ => 0) n ^^^ 0) = _
    rw [Nat.xor_zero, reg_nought x n, Nat.mul_succ, steps_add]; rfl

/-- n bytes as one number, the lowest first -/
def num (f : Nat → Nat) : Nat → Nat
  | 0 => 0
  | n + 1 => num f n ^^^ f n * 2 ^ (8 * n)

theorem reg_num (x : Nat) (f : Nat → Nat) : ∀ n, reg x f n = steps (8 * n) (x ^^^ num f n)
  | 0 => (Nat.xor_zero x).symm
  | n + 1 => by
    show mv (reg x f n ^^^ f n) = steps (8 * n + 8) (x ^^^ (num f n ^^^ f n * 2 ^ (8 * n)))
    rw [reg_num x f n, steps_add, ← Nat.xor_assoc, steps_xor (8 * n) (x ^^^ num f n), steps_shift]; rfl

/-- byte j of a number -/
def byteAt (E j : Nat) : Nat := E / 2 ^ (8 * j) % 256
theorem byteAt_lt (E j : Nat) : byteAt E j < 256 := Nat.mod_lt _ (by decide)
theorem byteAt_bit (E j i : Nat) : (byteAt E j).testBit i = (decide (i < 8) && E.testBit (8 * j + i)) := by
  unfold byteAt
  rw [show (256 : Nat) = 2 ^ 8 from rfl, Nat.testBit_mod_two_pow, Nat.testBit_div_two_pow, Nat.add_comm i]
theorem byteAt_xor (a b j : Nat) : byteAt (a ^^^ b) j = byteAt a j ^^^ byteAt b j := by
  apply Nat.eq_of_testBit_eq
  intro i
  rw [Nat.testBit_xor, byteAt_bit, byteAt_bit, byteAt_bit, Nat.testBit_xor]
  cases decide (i < 8) <;> simp
theorem num_bytes (E : Nat) : ∀ n, num (byteAt E) n = E % 2 ^ (8 * n)
  | 0 => by show 0 = E % 1; omega
  | n + 1 => by
    show num (byteAt E) n ^^^ byteAt E n * 2 ^ (8 * n) = _
    rw [num_bytes E n]
    apply Nat.eq_of_testBit_eq
    intro i
    rw [Nat.testBit_xor, Nat.testBit_mod_two_pow, Nat.testBit_mod_two_pow, Nat.testBit_mul_two_pow, byteAt_bit]
    by_cases h : i < 8 * n
    · simp [h, show ¬ 8 * n ≤ i by omega, show i < 8 * (n + 1) by omega]
    · by_cases h2 : i < 8 * (n + 1)
      · simp [h, h2, show 8 * n ≤ i by omega, show i - 8 * n < 8 by omega, show 8 * n + (i - 8 * n) = i by omega]
      · simp [h, h2, show ¬ i - 8 * n < 8 by omega]
theorem num_congr {f g : Nat → Nat} : ∀ n, (∀ i, i < n → f i = g i) → num f n = num g n
  | 0, _ => rfl
  | n + 1, h => by
    show num f n ^^^ f n * _ = num g n ^^^ g n * _
    rw [num_congr n (fun i hi => h i (by omega)), h n (by omega)]
theorem xor_mul_pow (a b k : Nat) : (a ^^^ b) * 2 ^ k = a * 2 ^ k ^^^ b * 2 ^ k := by
  apply Nat.eq_of_testBit_eq
  intro i
  rw [Nat.testBit_xor, Nat.testBit_mul_two_pow, Nat.testBit_mul_two_pow, Nat.testBit_mul_two_pow, Nat.testBit_xor]
  cases decide (k ≤ i) <;> simp
theorem num_xor (f g : Nat → Nat) : ∀ n, num (fun i => f i ^^^ g i) n = num f n ^^^ num g n
  | 0 => by show 0 = 0 ^^^ 0; rfl
  | n + 1 => by
    show num (fun i => f i ^^^ g i) n ^^^ (f n ^^^ g n) * _ = (num f n ^^^ f n * _) ^^^ (num g n ^^^ g n * _)
    rw [num_xor f g n, xor_mul_pow, xor4]

/-- the sum that goes on from s -/
def more (s : Nat) (f : Nat → Nat) (n : Nat) : Nat := reg (s ^^^ ones) f n ^^^ ones
theorem more_lt {s : Nat} {f : Nat → Nat} (hs : s < 4294967296) (hf : ∀ i, f i < 256) (n : Nat) : more s f n < 4294967296 :=
  xor_lt32 (reg_lt (xor_lt32 hs (by decide)) hf n) (by decide)
theorem more_congr {s : Nat} {f g : Nat → Nat} (n : Nat) (h : ∀ i, i < n → f i = g i) : more s f n = more s g n := by
  unfold more; rw [reg_congr n h]
theorem more_more (s : Nat) (f : Nat → Nat) (n m : Nat) : more (more s f n) (fun i => f (n + i)) m = more s f (n + m) := by
  unfold more; rw [xor_cancel, reg_add]

/-- two sums joined -/
def join (a b n : Nat) : Nat := steps (8 * n) a ^^^ b
theorem join_lt {a b : Nat} (ha : a < 4294967296) (hb : b < 4294967296) (n : Nat) : join a b n < 4294967296 := xor_lt32 (steps_lt _ ha) hb
theorem join_noughts (a b n : Nat) : (steps (8 * n) (a ^^^ ones) ^^^ ones) ^^^ (steps (8 * n) (0 ^^^ ones) ^^^ ones) ^^^ b = join a b n := by
  unfold join
  rw [xor4, Nat.xor_self, Nat.xor_zero, steps_xor, Nat.zero_xor, xor_cancel]
theorem join_more (f : Nat → Nat) (s n : Nat) : join s (more 0 f n) n = more s f n := by
  unfold join more
  rw [reg_num, reg_num, Nat.zero_xor, ← Nat.xor_assoc, ← steps_xor, ← Nat.xor_assoc]

/-- sums of two rows, of both together and of noughts come to nothing -/
theorem adds (f g h : Nat → Nat) (n : Nat) (hh : ∀ i, i < n → h i = f i ^^^ g i) : more 0 f n ^^^ more 0 g n ^^^ more 0 h n ^^^ more 0 (fun _ => 0) n = 0 := by
  have e : reg (0 ^^^ ones) h n = reg (0 ^^^ ones) (fun i => f i ^^^ g i) n := reg_congr n hh
  unfold more
  rw [e, Nat.zero_xor]
  have h1 : reg ones f n ^^^ reg ones g n = reg 0 (fun i => f i ^^^ g i) n := by rw [← reg_xor, Nat.xor_self]
  have h2 : reg ones (fun i => f i ^^^ g i) n ^^^ reg ones (fun _ => 0) n = reg 0 (fun i => f i ^^^ g i) n := by
    rw [← reg_xor, Nat.xor_self]
    exact reg_congr n (fun i _ => Nat.xor_zero _)
  rw [xor4 (reg ones f n) ones, Nat.xor_self, Nat.xor_zero, Nat.xor_assoc, xor4 (reg ones _ n) ones, Nat.xor_self, Nat.xor_zero, h1, h2, Nat.xor_self]

/-- the four bytes behind n are the sum of the n -/
def Opens (f : Nat → Nat) (n : Nat) : Prop := ∀ k, k < 4 → f (n + k) = byteAt (more 0 f n) k

theorem opens_num {f : Nat → Nat} (hf : ∀ i, f i < 256) {n : Nat} (h : Opens f n) : num (fun i => f (n + i)) 4 = reg ones f n ^^^ ones := by
  rw [num_congr 4 (g := byteAt (more 0 f n)) (fun i hi => h i hi), num_bytes]
  have := more_lt (s := 0) (by decide) hf n
  rw [Nat.mod_eq_of_lt (by simpa using this)]
  unfold more; rw [Nat.zero_xor]

theorem notices (x : Nat → Nat) (hx : ∀ i, x i < 256) (n p u : Nat) (hu : u < 4294967296) (u0 : u ≠ 0) (hp : p + 32 ≤ 8 * (n + 4)) (ho : Opens x n) :
    ¬ Opens (fun j => x j ^^^ byteAt (u * 2 ^ p) j) n := by
  intro hc
  have h1 := opens_num hx ho
  have h2 := opens_num (fun i => xor_lt8 (hx i) (byteAt_lt _ i)) hc
  have h3 : num (fun i => byteAt (u * 2 ^ p) (n + i)) 4 = reg 0 (byteAt (u * 2 ^ p)) n := by
    have e1 := num_xor (fun i => x (n + i)) (fun i => byteAt (u * 2 ^ p) (n + i)) 4
    have e2 := reg_xor ones 0 x (byteAt (u * 2 ^ p)) n
    rw [Nat.xor_zero] at e2
    rw [h2, h1, e2] at e1
    have e3 : reg ones x n ^^^ ones ^^^ (reg ones x n ^^^ reg 0 (byteAt (u * 2 ^ p)) n ^^^ ones) = reg 0 (byteAt (u * 2 ^ p)) n := by
      rw [xor4, Nat.xor_self, Nat.xor_zero, ← Nat.xor_assoc, Nat.xor_self, Nat.zero_xor]
    rw [e1, ← Nat.xor_assoc, Nat.xor_self, Nat.zero_xor] at e3
    exact e3
  have h4 : reg 0 (byteAt (u * 2 ^ p)) (n + 4) = 0 := by
    rw [reg_add, reg_num, h3, Nat.xor_self, steps_zero]
  have hlt : u * 2 ^ p < 2 ^ (8 * (n + 4)) :=
    calc u * 2 ^ p < 2 ^ 32 * 2 ^ p := Nat.mul_lt_mul_of_pos_right hu (Nat.two_pow_pos p)
      _ = 2 ^ (32 + p) := (Nat.pow_add 2 32 p).symm
      _ ≤ 2 ^ (8 * (n + 4)) := Nat.pow_le_pow_right (by decide) (by omega)
  rw [reg_num, Nat.zero_xor, num_bytes, Nat.mod_eq_of_lt hlt, show 8 * (n + 4) = p + (8 * (n + 4) - p) by omega, steps_add, steps_shift] at h4
  exact steps_ne _ hu u0 h4

/-- the change, bit by bit -/
def chg (u p k : Nat) : Nat := u % 2 ^ k * 2 ^ p
theorem chg_zero (u p : Nat) : chg u p 0 = 0 := by unfold chg; rw [Nat.pow_zero, Nat.mod_one, Nat.zero_mul]
theorem chg_all {u : Nat} (p : Nat) (hu : u < 4294967296) : chg u p 32 = u * 2 ^ p := by unfold chg; rw [Nat.mod_eq_of_lt (by simpa using hu)]
theorem mod_succ (u k : Nat) : u % 2 ^ (k + 1) = u % 2 ^ k ^^^ (u / 2 ^ k % 2) * 2 ^ k := by
  apply Nat.eq_of_testBit_eq
  intro i
  rw [Nat.testBit_xor, Nat.testBit_mod_two_pow, Nat.testBit_mod_two_pow, Nat.testBit_mul_two_pow, show u / 2 ^ k % 2 = u / 2 ^ k % 2 ^ 1 from rfl, Nat.testBit_mod_two_pow, Nat.testBit_div_two_pow]
  by_cases h : i < k
  · simp [h, show ¬ k ≤ i by omega, show i < k + 1 by omega]
  · by_cases h2 : i = k
    · subst h2; simp
    · simp [h, show ¬ i < k + 1 by omega, show ¬ i - k < 1 by omega]
theorem chg_no {u p k : Nat} (h : u / 2 ^ k % 2 = 0) : chg u p (k + 1) = chg u p k := by
  unfold chg; rw [mod_succ, h, Nat.zero_mul, Nat.xor_zero]
theorem chg_yes {u p k : Nat} (h : u / 2 ^ k % 2 = 1) : chg u p (k + 1) = chg u p k ^^^ 2 ^ (p + k) := by
  unfold chg; rw [mod_succ, h, Nat.one_mul, xor_mul_pow, ← Nat.pow_add, Nat.add_comm k p]
theorem byteAt_pow (q j : Nat) : byteAt (2 ^ q) j = if j = q / 8 then 2 ^ (q % 8) else 0 := by
  apply Nat.eq_of_testBit_eq
  intro i
  rw [byteAt_bit, Nat.testBit_two_pow]
  by_cases h : j = q / 8
  · rw [if_pos h, Nat.testBit_two_pow]
    by_cases h2 : q % 8 = i
    · simp [show q = 8 * j + i by omega, show i < 8 by omega]
    · simp [h2]; intro; omega
  · rw [if_neg h, Nat.zero_testBit]
    simp; intro; omega

/-- what single bits come to -/
def sumBits (G : Nat → Nat) (x : Nat) : Nat → Nat
  | 0 => 0
  | k + 1 => cond (x / 2 ^ k % 2 == 1) (sumBits G x k ^^^ G k) (sumBits G x k)
theorem sumBits_eq (m x : Nat) : ∀ k, sumBits (fun i => steps m (2 ^ i)) x k = steps m (x % 2 ^ k)
  | 0 => by rw [Nat.pow_zero, Nat.mod_one, steps_zero]; rfl
  | k + 1 => by
    show cond _ (sumBits _ x k ^^^ _) (sumBits _ x k) = _
    rw [sumBits_eq m x k, mod_succ, steps_xor]
    rcases Nat.mod_two_eq_zero_or_one (x / 2 ^ k) with h | h
    · rw [h, Nat.zero_mul, steps_zero, Nat.xor_zero]; rfl
    · rw [h, Nat.one_mul]; rfl
theorem sumBits_lt {G : Nat → Nat} (hG : ∀ i, G i < 4294967296) (x : Nat) : ∀ k, sumBits G x k < 4294967296
  | 0 => by show 0 < 4294967296; decide
  | k + 1 => by
    show cond _ (sumBits G x k ^^^ _) (sumBits G x k) < _
    cases x / 2 ^ k % 2 == 1
    · exact sumBits_lt hG x k
    · exact xor_lt32 (sumBits_lt hG x k) (hG k)

end Crc
