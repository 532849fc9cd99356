/- Plain linear algebra: rows brought to steps, what is kept by it, and what the steps tell of the rank and of the matrix that takes one back; nothing of the program is named here. -/
import Derived.Test.YtpgjkhlffcomgaaLa
namespace Go.Proofs.Ytpgjkhlffcomgaa.La

/-- the rows of each are sums of multiples of the other's -/
def RowEq (n m : Nat) (A W : Nat → Nat → F8) : Prop :=
  ∃ E E' : Nat → Nat → F8, (∀ i j, i < n → j < m → W i j = mm n E A i j) ∧ (∀ i j, i < n → j < m → A i j = mm n E' W i j)

theorem RowEq.refl (n m : Nat) (A : Nat → Nat → F8) : RowEq n m A A :=
  ⟨one, one, fun i j hi _ => (mm_one_left n A i j hi).symm, fun i j hi _ => (mm_one_left n A i j hi).symm⟩

theorem RowEq.symm {n m : Nat} {A W : Nat → Nat → F8} (h : RowEq n m A W) : RowEq n m W A := by
  obtain ⟨E, E', h1, h2⟩ := h
  exact ⟨E', E, h2, h1⟩

theorem RowEq.trans {n m : Nat} {A B C : Nat → Nat → F8} (h : RowEq n m A B) (k : RowEq n m B C) : RowEq n m A C := by
  obtain ⟨E, E', h1, h2⟩ := h
  obtain ⟨G, G', k1, k2⟩ := k
  refine ⟨mm n G E, mm n E' G', fun i j hi hj => ?_, fun i j hi hj => ?_⟩
  · rw [k1 i j hi hj, mm_assoc]; exact mm_congr (fun _ _ => rfl) (fun t ht => h1 t j ht hj)
  · rw [h2 i j hi hj, mm_assoc]; exact mm_congr (fun _ _ => rfl) (fun t ht => k2 t j ht hj)

theorem RowEq.less {n m c : Nat} {A W : Nat → Nat → F8} (h : RowEq n m A W) (hc : c ≤ m) : RowEq n c A W := by
  obtain ⟨E, E', h1, h2⟩ := h
  exact ⟨E, E', fun i j hi hj => h1 i j hi (by omega), fun i j hi hj => h2 i j hi (by omega)⟩

theorem RowEq.of_eq {n m : Nat} {A W : Nat → Nat → F8} (h : ∀ i j, i < n → j < m → W i j = A i j) : RowEq n m A W :=
  ⟨one, one, fun i j hi hj => by rw [mm_one_left n A i j hi, h i j hi hj], fun i j hi hj => by rw [mm_one_left n W i j hi, h i j hi hj]⟩

/-- every row is a multiple of one row and a multiple of another one -/
theorem two_rows {n : Nat} (E : Nat → Nat → F8) (A : Nat → Nat → F8) {i a b : Nat} {x y : F8} (ha : a < n) (hb : b < n) (h : ∀ t, E i t = ad (ml x (one a t)) (ml y (one b t))) (j : Nat) : mm n E A i j = ad (ml x (A a j)) (ml y (A b j)) := by
  unfold mm
  rw [sum_congr (g := fun t => ad (ml x (ml (one a t) (A t j))) (ml y (ml (one b t) (A t j)))) (fun t _ => by rw [h t, add_mul, mul_assoc, mul_assoc]), sum_add, sum_mul_left, sum_mul_left, sum_one_left n a ha (fun t => A t j), sum_one_left n b hb (fun t => A t j)]

/-- one row scaled and another one put in its place -/
theorem swap_scale {n m r p : Nat} {W : Nat → Nat → F8} {c d : F8} (hr : r < n) (hp : p < n) (hc : ml d c = f1) :
    RowEq n m W (fun i j => if i = r then ml c (W p j) else if i = p then W r j else W i j) := by
  refine ⟨fun i t => if i = r then ad (ml c (one p t)) (ml f0 (one p t)) else if i = p then ad (ml f1 (one r t)) (ml f0 (one r t)) else ad (ml f1 (one i t)) (ml f0 (one i t)),
    fun i t => if i = p then ad (ml d (one r t)) (ml f0 (one r t)) else if i = r then ad (ml f1 (one p t)) (ml f0 (one p t)) else ad (ml f1 (one i t)) (ml f0 (one i t)), fun i j hi _ => ?_, fun i j hi _ => ?_⟩
  · by_cases h1 : i = r
    · rw [two_rows _ W (x := c) (y := f0) hp hp (fun t => by rw [if_pos h1])]; dsimp only; rw [if_pos h1, zero_mul, add_zero]
    · by_cases h2 : i = p
      · rw [two_rows _ W (x := f1) (y := f0) hr hr (fun t => by rw [if_neg h1, if_pos h2])]; dsimp only; rw [if_neg h1, if_pos h2, zero_mul, add_zero, one_mul]
      · rw [two_rows _ W (x := f1) (y := f0) hi hi (fun t => by rw [if_neg h1, if_neg h2])]; dsimp only; rw [if_neg h1, if_neg h2, zero_mul, add_zero, one_mul]
  · by_cases h2 : i = p
    · rw [two_rows _ _ (x := d) (y := f0) hr hr (fun t => by rw [if_pos h2]), if_pos rfl, zero_mul, add_zero, ← mul_assoc, hc, one_mul, h2]
    · by_cases h1 : i = r
      · rw [two_rows _ _ (x := f1) (y := f0) hp hp (fun t => by rw [if_neg h2, if_pos h1]), zero_mul, add_zero, one_mul]
        have hpr : ¬ p = r := fun e => h2 (h1.trans e.symm)
        show W i j = if p = r then ml c (W p j) else if p = p then W r j else W p j
        rw [if_neg hpr, if_pos rfl, h1]
      · rw [two_rows _ _ (x := f1) (y := f0) hi hi (fun t => by rw [if_neg h2, if_neg h1]), zero_mul, add_zero, one_mul]
        show W i j = if i = r then ml c (W p j) else if i = p then W r j else W i j
        rw [if_neg h1, if_neg h2]

/-- multiples of one row added to the others -/
theorem add_rows {n m r : Nat} {W : Nat → Nat → F8} (f : Nat → F8) (hr : r < n) :
    RowEq n m W (fun i j => if i = r then W r j else ad (W i j) (ml (f i) (W r j))) := by
  refine ⟨fun i t => if i = r then ad (ml f1 (one r t)) (ml f0 (one r t)) else ad (ml f1 (one i t)) (ml (f i) (one r t)), fun i t => if i = r then ad (ml f1 (one r t)) (ml f0 (one r t)) else ad (ml f1 (one i t)) (ml (f i) (one r t)), fun i j hi _ => ?_, fun i j hi _ => ?_⟩
  · by_cases h1 : i = r
    · rw [two_rows _ W (x := f1) (y := f0) hr hr (fun t => by rw [if_pos h1])]; dsimp only; rw [if_pos h1, zero_mul, add_zero, one_mul]
    · rw [two_rows _ W (x := f1) (y := f i) hi hr (fun t => by rw [if_neg h1])]; dsimp only; rw [if_neg h1, one_mul]
  · by_cases h1 : i = r
    · rw [two_rows _ _ (x := f1) (y := f0) hr hr (fun t => by rw [if_pos h1]), if_pos rfl, zero_mul, add_zero, one_mul, h1]
    · rw [two_rows _ _ (x := f1) (y := f i) hi hr (fun t => by rw [if_neg h1]), if_pos rfl, one_mul]
      show W i j = ad (if i = r then W r j else ad (W i j) (ml (f i) (W r j))) (ml (f i) (W r j))
      rw [if_neg h1, add_assoc, add_self, add_zero]

/-- the rows stand in steps as far as column c: r of them, step i in column p i, each 1 and alone in its column -/
structure Stepped (n c : Nat) (W : Nat → Nat → F8) (r : Nat) (p : Nat → Nat) : Prop where
  le : r ≤ n
  lt : ∀ i, i < r → p i < c
  rise : ∀ i k, i < k → k < r → p i < p k
  at_ : ∀ k i, k < n → i < r → W k (p i) = one k i
  none : ∀ k j, r ≤ k → k < n → j < c → W k j = f0

/-- what one turn of the reckoning makes of the rows -/
def turn (W : Nat → Nat → F8) (r p j : Nat) (c : F8) : Nat → Nat → F8 := fun i k =>
  if i = r then ml c (W p k) else ad (if i = p then W r k else W i k) (ml (if i = p then W r j else W i j) (ml c (W p k)))

theorem turn_eq {n m : Nat} {W : Nat → Nat → F8} {r p j : Nat} {c : F8} (hr : r < n) (hp : p < n) (hc : ml (W p j) c = f1) : RowEq n m W (turn W r p j c) := by
  refine (swap_scale (m := m) hr hp hc).trans ?_
  refine RowEq.trans (add_rows (fun i => if i = p then W r j else W i j) hr) (RowEq.of_eq fun i k _ _ => ?_)
  show turn W r p j c i k = if i = r then (if r = r then ml c (W p k) else if r = p then W r k else W r k) else ad (if i = r then ml c (W p k) else if i = p then W r k else W i k) (ml (if i = p then W r j else W i j) (if r = r then ml c (W p k) else if r = p then W r k else W r k))
  unfold turn
  by_cases h1 : i = r
  · rw [if_pos h1, if_pos h1, if_pos rfl]
  · rw [if_neg h1, if_neg h1, if_neg h1, if_pos rfl]

theorem Stepped.skip {n c : Nat} {W : Nat → Nat → F8} {r : Nat} {p : Nat → Nat} (h : Stepped n c W r p) (hz : ∀ k, r ≤ k → k < n → W k c = f0) : Stepped n (c + 1) W r p :=
  ⟨h.le, fun i hi => by have := h.lt i hi; omega, h.rise, h.at_, fun k j h1 h2 h3 => by
    by_cases e : j = c
    · subst e; exact hz k h1 h2
    · exact h.none k j h1 h2 (by omega)⟩

theorem Stepped.next {n j : Nat} {W : Nat → Nat → F8} {r q : Nat} {p : Nat → Nat} {c : F8} (h : Stepped n j W r p) (hr : r < n) (hq : r ≤ q) (hqn : q < n) (hc : ml (W q j) c = f1) :
    Stepped n (j + 1) (turn W r q j c) (r + 1) (fun i => if i = r then j else p i) := by
  have hqz : ∀ k, k < j → W q k = f0 := fun k hk => h.none q k hq hqn hk
  have hrz : ∀ k, k < j → W r k = f0 := fun k hk => h.none r k (Nat.le_refl _) hr hk
  have hcj : ml c (W q j) = f1 := by rw [mul_comm]; exact hc
  refine ⟨hr, fun i hi => ?_, fun i k hik hk => ?_, fun k i hk hi => ?_, fun k l h1 h2 h3 => ?_⟩
  · show (if i = r then j else p i) < j + 1
    split
    · omega
    · have := h.lt i (by omega); omega
  · show (if i = r then j else p i) < (if k = r then j else p k)
    rw [if_neg (by omega)]
    by_cases e : k = r
    · rw [if_pos e]; exact h.lt i (by omega)
    · rw [if_neg e]; exact h.rise i k hik (by omega)
  · show turn W r q j c k (if i = r then j else p i) = one k i
    by_cases e : i = r
    · rw [if_pos e]
      unfold turn
      by_cases e2 : k = r
      · rw [if_pos e2, hcj]; unfold one; rw [if_pos (by omega)]
      · rw [if_neg e2, hcj, mul_one, add_self]; unfold one; rw [if_neg (by omega)]
    · have hi' : i < r := by omega
      have hpj := h.lt i hi'
      rw [if_neg e]
      unfold turn
      rw [hqz _ hpj, mul_zero, mul_zero, add_zero]
      by_cases e2 : k = r
      · rw [if_pos e2]; unfold one; rw [if_neg (by omega)]
      · rw [if_neg e2]
        by_cases e3 : k = q
        · rw [if_pos e3, hrz _ hpj]; unfold one; rw [if_neg (by omega)]
        · rw [if_neg e3]; exact h.at_ k i hk hi'
  · unfold turn
    rw [if_neg (by omega)]
    by_cases e : l = j
    · subst e; rw [hcj, mul_one, add_self]
    · rw [hqz l (by omega), mul_zero, mul_zero, add_zero]
      by_cases e3 : k = q
      · rw [if_pos e3]; exact hrz l (by omega)
      · rw [if_neg e3]; exact h.none k l (by omega) h2 (by omega)

/-- what the steps tell of the rank -/
theorem Stepped.rank {n m : Nat} {A W : Nat → Nat → F8} {r : Nat} {p : Nat → Nat} (e : RowEq n m A W) (h : Stepped n m W r p) : IsRank n m A r := by
  obtain ⟨E, E', h1, h2⟩ := e
  refine ⟨E', W, E, fun t i => one t (p i), fun i j hi hj => ?_, fun i j hi hj => ?_⟩
  · rw [h2 i j hi hj]
    -- rows behind the steps are noughts
    have cut : ∀ d, r + d ≤ n → mm (r + d) E' W i j = mm r E' W i j := by
      intro d
      induction d with
      | zero => intro _; rfl
      | succ d ih =>
        intro hd
        show ad (sum (r + d) _) (ml (E' i (r + d)) (W (r + d) j)) = _
        rw [h.none (r + d) j (by omega) (by omega) hj, mul_zero, add_zero]
        exact ih (by omega)
    have hle := h.le
    have := cut (n - r) (by omega)
    rw [show r + (n - r) = n by omega] at this
    exact this
  · have hin : i < n := by have := h.le; omega
    have e1 : mm m (mm n E A) (fun t i => one t (p i)) i j = mm m W (fun t i => one t (p i)) i j :=
      mm_congr (fun t ht => (h1 i t hin ht).symm) (fun _ _ => rfl)
    rw [e1]
    show sum m (fun t => ml (W i t) (one t (p j))) = one i j
    rw [sum_one_right m (p j) (h.lt j hj) (fun t => W i t)]
    exact h.at_ i j hin hj

/-- n steps in n columns: step i is in column i -/
theorem Stepped.own {n : Nat} {W : Nat → Nat → F8} {p : Nat → Nat} (h : Stepped n n W n p) : ∀ i, i < n → p i = i := by
  have lo : ∀ i, i < n → i ≤ p i := by
    intro i
    induction i with
    | zero => intro _; exact Nat.zero_le _
    | succ i ih => intro hi; have := ih (by omega); have := h.rise i (i + 1) (by omega) hi; omega
  have hi : ∀ d i, i + d + 1 = n → p i ≤ i := by
    intro d
    induction d with
    | zero => intro i e; have := h.lt i (by omega); omega
    | succ d ih => intro i e; have := ih (i + 1) (by omega); have := h.rise i (i + 1) (by omega) (by omega); omega
  intro i hin
  have := lo i hin
  have := hi (n - 1 - i) i (by omega)
  omega

/-- n steps in n columns beside the one that changes nothing: what stands there takes the matrix back -/
theorem Stepped.inverse {n : Nat} {A W : Nat → Nat → F8} {p : Nat → Nat} (e : RowEq n (n + n) (fun i j => if j < n then A i j else one i (j - n)) W) (h : Stepped n n W n p) :
    ∀ i j, i < n → j < n → mm n A (fun i j => W i (n + j)) i j = one i j := by
  have hp := h.own
  obtain ⟨E, _, h1, _⟩ := e
  apply both
  intro i j hi hj
  have hE : ∀ t, t < n → W i (n + t) = E i t := fun t ht => by
    rw [h1 i (n + t) hi (by omega)]
    have : mm n E (fun i j => if j < n then A i j else one i (j - n)) i (n + t) = sum n (fun s => ml (E i s) (one s t)) :=
      sum_congr fun s _ => by dsimp only; rw [if_neg (by omega), show n + t - n = t by omega]
    rw [this]
    exact sum_one_right n t ht (fun s => E i s)
  have hL : W i j = mm n E A i j := by
    rw [h1 i j hi (by omega)]
    exact mm_congr (fun _ _ => rfl) (fun _ _ => by rw [if_pos hj])
  have := h.at_ i j hi hj
  rw [hp j hj] at this
  rw [← this, hL]
  exact mm_congr (fun t ht => hE t ht) (fun _ _ => rfl)

end Go.Proofs.Ytpgjkhlffcomgaa.La
