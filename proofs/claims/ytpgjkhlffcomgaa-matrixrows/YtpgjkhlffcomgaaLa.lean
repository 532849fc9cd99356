/- Plain linear algebra over the field of 256 numbers: sums, products of matrices in any order of brackets, a matrix that is taken back from one side is taken back from the other, and the rank is one number; nothing of the program is named here. -/
import Derived.Test.YtpgjkhlffcomgaaMath2
namespace Go.Proofs.Ytpgjkhlffcomgaa.La

/-- a number of the field -/
structure F8 where
  v : Nat
  h : v < 256

theorem F8.ext {a b : F8} (e : a.v = b.v) : a = b := by
  cases a; cases b; simp only at e; subst e; rfl

/-- the sum -/
def ad (a b : F8) : F8 := ⟨a.v ^^^ b.v, Gf.xor_lt _ _ a.h b.h⟩
/-- the product -/
def ml (a b : F8) : F8 := ⟨Gf.mul a.v b.v, Gf.mul_lt _ _ a.h⟩
def f0 : F8 := ⟨0, by decide⟩
def f1 : F8 := ⟨1, by decide⟩

theorem add_v (a b : F8) : (ad a b).v = a.v ^^^ b.v := rfl
theorem mul_v (a b : F8) : (ml a b).v = Gf.mul a.v b.v := rfl

theorem add_comm (a b : F8) : ad a b = ad b a := F8.ext (Nat.xor_comm _ _)
theorem add_assoc (a b c : F8) : ad (ad a b) c = ad a (ad b c) := F8.ext (Nat.xor_assoc _ _ _)
theorem add_zero (a : F8) : ad a f0 = a := F8.ext (Nat.xor_zero _)
theorem zero_add (a : F8) : ad f0 a = a := F8.ext (Nat.zero_xor _)
theorem add_self (a : F8) : ad a a = f0 := F8.ext (Nat.xor_self _)
theorem mul_comm (a b : F8) : ml a b = ml b a := F8.ext (Gf.mul_comm _ _ a.h b.h)
theorem mul_assoc (a b c : F8) : ml (ml a b) c = ml a (ml b c) := F8.ext (Gf.mul_assoc _ _ _ a.h b.h)
theorem mul_add (a b c : F8) : ml a (ad b c) = ad (ml a b) (ml a c) := F8.ext (Gf.mul_add _ _ _ a.h)
theorem add_mul (a b c : F8) : ml (ad a b) c = ad (ml a c) (ml b c) := by rw [mul_comm, mul_add, mul_comm c a, mul_comm c b]
theorem mul_one (a : F8) : ml a f1 = a := F8.ext (Gf.mul_one _ a.h)
theorem one_mul (a : F8) : ml f1 a = a := by rw [mul_comm, mul_one]
theorem mul_zero (a : F8) : ml a f0 = f0 := F8.ext (Gf.mul_zero _ a.h)
theorem zero_mul (a : F8) : ml f0 a = f0 := by rw [mul_comm, mul_zero]
theorem add_left_comm (a b c : F8) : ad a (ad b c) = ad b (ad a c) := by rw [← add_assoc, add_comm a b, add_assoc]
theorem add_self_left (a b : F8) : ad a (ad a b) = b := by rw [← add_assoc, add_self, zero_add]

/-- a sum of n numbers -/
def sum : Nat → (Nat → F8) → F8
  | 0, _ => f0
  | n + 1, f => ad (sum n f) (f n)

theorem sum_congr {n : Nat} {f g : Nat → F8} (h : ∀ i, i < n → f i = g i) : sum n f = sum n g := by
  induction n with
  | zero => rfl
  | succ n ih => show ad (sum n f) (f n) = ad (sum n g) (g n); rw [ih (fun i hi => h i (by omega)), h n (by omega)]

theorem sum_zero (n : Nat) : sum n (fun _ => f0) = f0 := by
  induction n with
  | zero => rfl
  | succ n ih => show ad (sum n _) f0 = f0; rw [ih, add_zero]

theorem sum_add (n : Nat) (f g : Nat → F8) : sum n (fun i => ad (f i) (g i)) = ad (sum n f) (sum n g) := by
  induction n with
  | zero => exact (add_zero f0).symm
  | succ n ih =>
    show ad (sum n _) (ad (f n) (g n)) = ad (ad (sum n f) (f n)) (ad (sum n g) (g n))
    rw [ih, add_assoc, add_assoc, add_left_comm (sum n g) (f n)]

theorem sum_mul_left (n : Nat) (c : F8) (f : Nat → F8) : sum n (fun i => ml c (f i)) = ml c (sum n f) := by
  induction n with
  | zero => exact (mul_zero c).symm
  | succ n ih => show ad (sum n _) (ml c (f n)) = ml c (ad (sum n f) (f n)); rw [ih, mul_add]

theorem sum_mul_right (n : Nat) (c : F8) (f : Nat → F8) : sum n (fun i => ml (f i) c) = ml (sum n f) c := by
  rw [mul_comm, ← sum_mul_left]; exact sum_congr fun i _ => mul_comm _ _

theorem sum_swap (n m : Nat) (f : Nat → Nat → F8) : sum n (fun i => sum m (fun j => f i j)) = sum m (fun j => sum n (fun i => f i j)) := by
  induction n with
  | zero => exact (sum_zero m).symm
  | succ n ih =>
    show ad (sum n _) (sum m _) = sum m (fun j => ad (sum n (fun i => f i j)) (f n j))
    rw [ih, sum_add]

/-- 1 where two places are one -/
def one (i j : Nat) : F8 := if i = j then f1 else f0

theorem sum_one_left (n k : Nat) (hk : k < n) (f : Nat → F8) : sum n (fun i => ml (one k i) (f i)) = f k := by
  induction n with
  | zero => omega
  | succ n ih =>
    show ad (sum n _) (ml (one k n) (f n)) = f k
    by_cases e : k = n
    · subst e
      rw [sum_congr (g := fun _ => f0) (fun i hi => by unfold one; rw [if_neg (by omega), zero_mul]), sum_zero, zero_add]
      unfold one; rw [if_pos rfl, one_mul]
    · rw [ih (by omega)]
      unfold one; rw [if_neg e, zero_mul, add_zero]

theorem one_symm (i j : Nat) : one i j = one j i := by
  unfold one; by_cases h : i = j
  · rw [if_pos h, if_pos h.symm]
  · rw [if_neg h, if_neg (Ne.symm h)]

theorem sum_one_right (n k : Nat) (hk : k < n) (f : Nat → F8) : sum n (fun i => ml (f i) (one i k)) = f k := by
  rw [← sum_one_left n k hk f]
  exact sum_congr fun i _ => by rw [mul_comm, one_symm]

/-- a row times a matrix of q rows -/
def vm (q : Nat) (x : Nat → F8) (Y : Nat → Nat → F8) (j : Nat) : F8 := sum q fun t => ml (x t) (Y t j)
/-- the product of two matrices, q numbers a row of the first -/
def mm (q : Nat) (X Y : Nat → Nat → F8) (i j : Nat) : F8 := sum q fun t => ml (X i t) (Y t j)

theorem vm_mm (p q : Nat) (x : Nat → F8) (X Y : Nat → Nat → F8) (j : Nat) : vm q (vm p x X) Y j = vm p x (mm q X Y) j := by
  unfold vm mm
  rw [sum_congr (g := fun t => sum p fun s => ml (ml (x s) (X s t)) (Y t j)) (fun t _ => (sum_mul_right p _ _).symm), sum_swap]
  refine sum_congr fun s _ => ?_
  rw [← sum_mul_left]
  exact sum_congr fun t _ => mul_assoc _ _ _

theorem mm_assoc (p q : Nat) (X Y Z : Nat → Nat → F8) (i j : Nat) : mm q (mm p X Y) Z i j = mm p X (mm q Y Z) i j := vm_mm p q (X i) Y Z j

theorem mm_congr {q : Nat} {X X' Y Y' : Nat → Nat → F8} {i j : Nat} (h : ∀ t, t < q → X i t = X' i t) (k : ∀ t, t < q → Y t j = Y' t j) : mm q X Y i j = mm q X' Y' i j :=
  sum_congr fun t ht => by rw [h t ht, k t ht]

theorem mm_one_left (q : Nat) (X : Nat → Nat → F8) (i j : Nat) (hi : i < q) : mm q one X i j = X i j := sum_one_left q i hi (fun t => X t j)
theorem mm_one_right (q : Nat) (X : Nat → Nat → F8) (i j : Nat) (hj : j < q) : mm q X one i j = X i j := sum_one_right q j hj (fun t => X i t)

/-! counting -/
theorem pigeon (M : Nat) : ∀ (N : Nat) (f : Nat → Nat), (∀ i, i < N → f i < M) → (∀ i j, i < N → j < N → f i = f j → i = j) → N ≤ M := by
  induction M with
  | zero => intro N f h _; rcases Nat.eq_zero_or_pos N with h0 | h0
            · omega
            · have := h 0 h0; omega
  | succ M ih =>
    intro N f h inj
    by_cases hN : N = 0
    · omega
    obtain ⟨n, rfl⟩ : ∃ n, N = n + 1 := ⟨N - 1, by omega⟩
    -- the last one's image is put away
    have hl := h n (by omega)
    have := ih n (fun i => if f i < f n then f i else f i - 1) (fun i hi => by
      have h1 := h i (by omega)
      have h2 : f i ≠ f n := fun e => by have := inj i n (by omega) (by omega) e; omega
      show (if f i < f n then f i else f i - 1) < M
      split <;> omega) (fun i j hi hj e => by
      have h2 : f i ≠ f n := fun e => by have := inj i n (by omega) (by omega) e; omega
      have h3 : f j ≠ f n := fun e => by have := inj j n (by omega) (by omega) e; omega
      refine inj i j (by omega) (by omega) ?_
      have e' : (if f i < f n then f i else f i - 1) = (if f j < f n then f j else f j - 1) := e
      split at e' <;> split at e' <;> omega)
    omega

/-- who takes N into N, no two to one, leaves none out -/
theorem onto (N : Nat) (f : Nat → Nat) (h : ∀ i, i < N → f i < N) (inj : ∀ i j, i < N → j < N → f i = f j → i = j) (y : Nat) (hy : y < N) : ∃ i, i < N ∧ f i = y := by
  apply Classical.byContradiction
  intro hno
  have hne : ∀ i, i < N → f i ≠ y := fun i hi e => hno ⟨i, hi, e⟩
  obtain ⟨m, rfl⟩ : ∃ m, N = m + 1 := ⟨N - 1, by omega⟩
  have := pigeon m (m + 1) (fun i => if f i < y then f i else f i - 1) (fun i hi => by
    have := h i hi; have := hne i hi
    show (if f i < y then f i else f i - 1) < m
    split <;> omega) (fun i j hi hj e => by
    have := hne i hi; have := hne j hj
    refine inj i j hi hj ?_
    have e' : (if f i < y then f i else f i - 1) = (if f j < y then f j else f j - 1) := e
    split at e' <;> split at e' <;> omega)
  omega

/-- a row of p numbers as one number, and back -/
def enc (x : Nat → F8) : Nat → Nat
  | 0 => 0
  | p + 1 => enc x p + (x p).v * 256 ^ p
def dec (n i : Nat) : F8 := ⟨n / 256 ^ i % 256, Nat.mod_lt _ (by decide)⟩

theorem enc_lt (x : Nat → F8) : ∀ p, enc x p < 256 ^ p
  | 0 => by show 0 < 1; decide
  | p + 1 => by
    have h := enc_lt x p
    have hx : (x p).v ≤ 255 := by have := (x p).h; omega
    have hm : (x p).v * 256 ^ p ≤ 255 * 256 ^ p := Nat.mul_le_mul_right _ hx
    show enc x p + (x p).v * 256 ^ p < 256 ^ (p + 1)
    rw [Nat.pow_succ]; omega

theorem dec_enc (x : Nat → F8) : ∀ p i, i < p → dec (enc x p) i = x i
  | 0, i, h => by omega
  | p + 1, i, h => by
    have hlt := enc_lt x p
    have hp : 0 < 256 ^ p := Nat.pow_pos (by decide)
    apply F8.ext
    show (enc x p + (x p).v * 256 ^ p) / 256 ^ i % 256 = (x i).v
    by_cases e : i = p
    · subst e
      rw [Nat.add_mul_div_right _ _ hp, Nat.div_eq_of_lt hlt, Nat.zero_add, Nat.mod_eq_of_lt (x i).h]
    · have hi : 0 < 256 ^ i := Nat.pow_pos (by decide)
      obtain ⟨d, hd⟩ : ∃ d, p = i + 1 + d := ⟨p - i - 1, by omega⟩
      have e2 : (x p).v * 256 ^ p = ((x p).v * 256 ^ d * 256) * 256 ^ i := by
        have hpow : (256 : Nat) ^ p = 256 ^ d * 256 * 256 ^ i := by rw [hd, Nat.pow_add, Nat.pow_add, Nat.pow_one, Nat.mul_comm (256 ^ i) 256, Nat.mul_comm (256 * 256 ^ i), Nat.mul_assoc]
        rw [hpow, Nat.mul_assoc, Nat.mul_assoc, Nat.mul_assoc]
      have ih := dec_enc x p i (by omega)
      have ih' : enc x p / 256 ^ i % 256 = (x i).v := congrArg F8.v ih
      rw [e2, Nat.add_mul_div_right _ _ hi, Nat.add_mul_mod_self_right]
      exact ih'

theorem enc_congr {x y : Nat → F8} : ∀ {p : Nat}, (∀ i, i < p → x i = y i) → enc x p = enc y p
  | 0, _ => rfl
  | p + 1, h => by show enc x p + _ = enc y p + _; rw [enc_congr (fun i hi => h i (by omega)), h p (by omega)]

theorem enc_dec : ∀ (p n : Nat), n < 256 ^ p → enc (dec n) p = n
  | 0, n, h => by have : n = 0 := by simpa using h
                  subst this; rfl
  | p + 1, n, h => by
    have hp : 0 < 256 ^ p := Nat.pow_pos (by decide)
    have h1 := enc_dec p (n % 256 ^ p) (Nat.mod_lt _ hp)
    have h2 : enc (dec n) p = enc (dec (n % 256 ^ p)) p := enc_congr fun i hi => by
      apply F8.ext
      show n / 256 ^ i % 256 = (n % 256 ^ p) / 256 ^ i % 256
      obtain ⟨d, hd⟩ : ∃ d, p = i + (1 + d) := ⟨p - i - 1, by omega⟩
      rw [hd, Nat.pow_add, Nat.mod_mul_right_div_self, Nat.pow_add, Nat.pow_one, Nat.mod_mul_right_mod]
    show enc (dec n) p + (n / 256 ^ p % 256) * 256 ^ p = n
    have h3 : n / 256 ^ p < 256 := Nat.div_lt_of_lt_mul (by rw [Nat.pow_succ] at h; exact h)
    rw [h2, h1, Nat.mod_eq_of_lt h3, Nat.mul_comm]
    exact Nat.mod_add_div n (256 ^ p)

/-- rows of p numbers that are taken to rows of q numbers, and back: p is not above q -/
theorem dim_le (p q : Nat) (X Y : Nat → Nat → F8) (h : ∀ i j, i < p → j < p → mm q X Y i j = one i j) : p ≤ q := by
  have key := pigeon (256 ^ q) (256 ^ p) (fun n => enc (vm p (dec n) X) q) (fun n _ => enc_lt _ q) (fun n m hn hm e => by
    have e1 : ∀ t, t < q → vm p (dec n) X t = vm p (dec m) X t := fun t ht => by
      rw [← dec_enc (vm p (dec n) X) q t ht, ← dec_enc (vm p (dec m) X) q t ht, e]
    have back : ∀ k j, j < p → vm q (vm p (dec k) X) Y j = dec k j := fun k j hj => by
      rw [vm_mm]
      have : vm p (dec k) (mm q X Y) j = vm p (dec k) one j := sum_congr fun t ht => by rw [h t j ht hj]
      rw [this]
      exact sum_one_right p j hj (dec k)
    have e2 : ∀ j, j < p → dec n j = dec m j := fun j hj => by
      rw [← back n j hj, ← back m j hj]
      exact sum_congr fun t ht => by rw [e1 t ht]
    rw [← enc_dec p n hn, ← enc_dec p m hm]
    exact enc_congr e2)
  exact (Nat.pow_le_pow_iff_right (by decide)).1 key

/-- what is taken back from one side is taken back from the other -/
theorem both (n : Nat) (A B : Nat → Nat → F8) (h : ∀ i j, i < n → j < n → mm n A B i j = one i j) : ∀ i j, i < n → j < n → mm n B A i j = one i j := by
  intro i j hi hj
  have back : ∀ (x : Nat → F8) j, j < n → vm n (vm n x A) B j = x j := fun x j hj => by
    rw [vm_mm]
    have : vm n x (mm n A B) j = vm n x one j := sum_congr fun t ht => by rw [h t j ht hj]
    rw [this]
    exact sum_one_right n j hj x
  obtain ⟨k, hk, hk2⟩ := onto (256 ^ n) (fun m => enc (vm n (dec m) A) n) (fun m _ => enc_lt _ n) (fun a b ha hb e => by
    have e1 : ∀ t, t < n → vm n (dec a) A t = vm n (dec b) A t := fun t ht => by
      rw [← dec_enc (vm n (dec a) A) n t ht, ← dec_enc (vm n (dec b) A) n t ht, e]
    rw [← enc_dec n a ha, ← enc_dec n b hb]
    refine enc_congr fun j hj => ?_
    rw [← back (dec a) j hj, ← back (dec b) j hj]
    exact sum_congr fun t ht => by rw [e1 t ht]) (enc (one i) n) (enc_lt _ n)
  have e1 : ∀ t, t < n → vm n (dec k) A t = one i t := fun t ht => by
    rw [← dec_enc (vm n (dec k) A) n t ht, ← dec_enc (one i) n t ht, hk2]
  have e2 : ∀ t, t < n → dec k t = B i t := fun t ht => by
    rw [← back (dec k) t ht]
    have : vm n (vm n (dec k) A) B t = vm n (one i) B t := sum_congr fun s hs => by rw [e1 s hs]
    rw [this]
    exact sum_one_left n i hi (fun s => B s t)
  rw [← e1 j hj]
  exact sum_congr fun t ht => by rw [e2 t ht]

/-- there is but one matrix that takes A back -/
theorem inv_unique (n : Nat) (A B C : Nat → Nat → F8) (hB : ∀ i j, i < n → j < n → mm n A B i j = one i j) (hC : ∀ i j, i < n → j < n → mm n A C i j = one i j) : ∀ i j, i < n → j < n → B i j = C i j := by
  intro i j hi hj
  have hB' := both n A B hB
  have h1 : mm n (mm n B A) C i j = C i j := by
    rw [mm_congr (X' := one) (Y' := C) (fun t ht => hB' i t hi ht) (fun _ _ => rfl)]
    exact mm_one_left n C i j hi
  have h2 : mm n (mm n B A) C i j = B i j := by
    rw [mm_assoc, mm_congr (X' := B) (Y' := one) (fun _ _ => rfl) (fun t ht => hC t j ht hj)]
    exact mm_one_right n B i j hj
  rw [← h2, h1]

/-- A of n rows and m columns goes through r numbers, and no fewer -/
def IsRank (n m : Nat) (A : Nat → Nat → F8) (r : Nat) : Prop :=
  ∃ P Q U V : Nat → Nat → F8, (∀ i j, i < n → j < m → A i j = mm r P Q i j) ∧ (∀ i j, i < r → j < r → mm m (mm n U A) V i j = one i j)

theorem rank_le {n m : Nat} {A : Nat → Nat → F8} {r s : Nat} (h : IsRank n m A r) (k : IsRank n m A s) : s ≤ r := by
  obtain ⟨P, Q, _, _, hA, _⟩ := h
  obtain ⟨_, _, U, V, _, hk⟩ := k
  refine dim_le s r (mm n U P) (mm m Q V) (fun i j hi hj => ?_)
  rw [← hk i j hi hj]
  have e1 : mm r (mm n U P) (mm m Q V) i j = mm m (mm r (mm n U P) Q) V i j := (mm_assoc r m _ _ _ _ _).symm
  rw [e1]
  refine mm_congr (fun t ht => ?_) (fun _ _ => rfl)
  rw [mm_assoc]
  exact mm_congr (fun _ _ => rfl) (fun s hs => (hA s t hs ht).symm)

theorem rank_unique {n m : Nat} {A : Nat → Nat → F8} {r s : Nat} (h : IsRank n m A r) (k : IsRank n m A s) : r = s := Nat.le_antisymm (rank_le k h) (rank_le h k)

theorem mm_turned (q : Nat) (X Y : Nat → Nat → F8) (i j : Nat) : mm q X Y i j = mm q (fun a b => Y b a) (fun a b => X b a) j i := sum_congr fun _ _ => mul_comm _ _

theorem rank_turned {n m : Nat} {A : Nat → Nat → F8} {r : Nat} (h : IsRank n m A r) : IsRank m n (fun i j => A j i) r := by
  obtain ⟨P, Q, U, V, hA, hk⟩ := h
  refine ⟨fun a b => Q b a, fun a b => P b a, fun a b => V b a, fun a b => U b a, fun i j hi hj => ?_, fun i j hi hj => ?_⟩
  · rw [← mm_turned]; exact hA j i hj hi
  · have e : mm n (mm m (fun a b => V b a) fun i j => A j i) (fun a b => U b a) i j = mm n U (mm m A V) j i := by
      rw [mm_turned n U]
      refine mm_congr (fun t _ => ?_) (fun _ _ => rfl)
      exact (mm_turned m A V t i).symm
    rw [e, ← mm_assoc, hk j i hj hi, one_symm]

theorem rank_le_rows {n m : Nat} {A : Nat → Nat → F8} {r : Nat} (h : IsRank n m A r) : r ≤ n := by
  obtain ⟨_, _, U, V, _, hk⟩ := h
  exact dim_le r n U (mm m A V) (fun i j hi hj => by rw [← mm_assoc]; exact hk i j hi hj)

/-- a square matrix can be taken back just if its rank is its side -/
theorem inv_of_rank {n : Nat} {A : Nat → Nat → F8} (h : IsRank n n A n) : ∃ B, ∀ i j, i < n → j < n → mm n A B i j = one i j := by
  obtain ⟨_, _, U, V, _, hk⟩ := h
  -- (U A) V = 1, so V (U A) = 1, so (V U) A = 1, so A (V U) = 1
  have h1 := both n (mm n U A) V hk
  refine ⟨mm n V U, both n (mm n V U) A (fun i j hi hj => ?_)⟩
  rw [mm_assoc]; exact h1 i j hi hj

theorem rank_of_inv {n : Nat} {A B : Nat → Nat → F8} (h : ∀ i j, i < n → j < n → mm n A B i j = one i j) : IsRank n n A n := by
  refine ⟨A, one, one, B, fun i j _ hj => (mm_one_right n A i j hj).symm, fun i j hi hj => ?_⟩
  rw [mm_congr (X' := A) (Y' := B) (fun t _ => mm_one_left n A i t hi) (fun _ _ => rfl)]
  exact h i j hi hj

end Go.Proofs.Ytpgjkhlffcomgaa.La
