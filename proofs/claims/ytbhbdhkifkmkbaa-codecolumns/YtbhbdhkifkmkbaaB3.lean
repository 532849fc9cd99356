/- Texts of mine, put together. -/
import Derived.Test.YtbhbdhkifkmkbaaB2
import Derived.Deep.Slices

set_option linter.unusedVariables false

/- Rows under work: what lies where while rows are changed about, and the numbers as numbers of the field. -/
namespace Go.Proofs.Ytbhbdhkifkmkbaa
open Go.RowKit

/-- a byte as a number of the field -/
def fi (a : Int) : La.F8 := ⟨a.toNat % 256, Nat.mod_lt _ (by decide)⟩

theorem fi_v {a : Int} (h : 0 ≤ a ∧ a < 256) : (fi a).v = a.toNat := Nat.mod_eq_of_lt (by omega)
theorem fi_inj {a b : Int} (ha : 0 ≤ a ∧ a < 256) (hb : 0 ≤ b ∧ b < 256) (h : fi a = fi b) : a = b := by
  have := congrArg La.F8.v h
  rw [fi_v ha, fi_v hb] at this
  omega
theorem fi_add {a b : Int} (ha : 0 ≤ a ∧ a < 256) (hb : 0 ≤ b ∧ b < 256) : fi (addI a b) = La.ad (fi a) (fi b) := by
  apply La.F8.ext
  rw [fi_v (addI_bd a b ha.2 hb.2), La.add_v, fi_v ha, fi_v hb]
  unfold addI; rw [Int.toNat_natCast]
theorem fi_mul {a b : Int} (ha : 0 ≤ a ∧ a < 256) (hb : 0 ≤ b ∧ b < 256) : fi (mulI a b) = La.ml (fi a) (fi b) := by
  apply La.F8.ext
  rw [fi_v (mulI_bd a b ha.2), La.mul_v, fi_v ha, fi_v hb]
  unfold mulI; rw [Int.toNat_natCast]
theorem fi_zero : fi 0 = La.f0 := rfl
theorem fi_one : fi 1 = La.f1 := rfl
theorem fi_inv {a : Int} (ha : 0 < a) (h1 : a < 256) : La.ml (fi a) (fi (invR a)) = La.f1 := by
  have e : invR a = invI a := by unfold invR; rw [if_neg (by omega)]
  rw [← fi_mul ⟨by omega, h1⟩ (invR_bd a), e, mul_comm (invI a) a (invI_bd a).2 h1, inv_mul a ha h1]
  rfl

/-- a matrix's numbers as numbers of the field -/
def fm (Z : Nat → Nat → Int) (i j : Nat) : La.F8 := fi (Z i j)

/-- n rows of m numbers, their heads in the block g, the rows elsewhere -/
structure Work (W : World) (g n m : Nat) (R : Nat → Option Addr) (C : Nat → Nat) (Z : Nat → Nat → Int) : Prop where
  outer : ∃ cur, W.heap[g]? = some (.cells cur 37 (0, 0)) ∧ ∀ r, r < n → cur[r]? = some (.slice (R r) m (C r))
  row : ∀ r, r < n → RowAt W (R r) m (Z r)
  apart : ∀ r a, r < n → R r = some a → a.block ≠ g
  room : ∀ r, r < n → m ≤ C r

theorem Work.keep {W W' : World} {g n m : Nat} {R : Nat → Option Addr} {C : Nat → Nat} {Z : Nat → Nat → Int} (h : Work W g n m R C Z) (b : Bw W W') : Work W' g n m R C Z := by
  obtain ⟨cur, h1, h2⟩ := h.outer
  exact ⟨⟨cur, by rw [b.block g (Array.getElem?_eq_some_iff.1 h1).1, h1], h2⟩, fun r hr => (h.row r hr).keep b, h.apart, h.room⟩

theorem Work.cell {W : World} {g n m : Nat} {R : Nat → Option Addr} {C : Nat → Nat} {Z : Nat → Nat → Int} (h : Work W g n m R C Z) {r : Nat} (hr : r < n) : W.cell? ⟨g, r, none⟩ = some (.slice (R r) m (C r)) ∧ W.frozen? ⟨g, r, none⟩ = false := by
  obtain ⟨cur, h1, h2⟩ := h.outer
  exact ⟨(cell_of_row W g r cur _ _ h1).trans (h2 r hr), frozen_of_row W g r cur _ h1⟩

theorem Work.lt {W : World} {g n m : Nat} {R : Nat → Option Addr} {C : Nat → Nat} {Z : Nat → Nat → Int} (h : Work W g n m R C Z) : g < W.heap.size := by
  obtain ⟨cur, h1, _⟩ := h.outer
  exact (Array.getElem?_eq_some_iff.1 h1).1

theorem RowAt.set {W : World} {A : Option Addr} {m g p : Nat} {v : Value} {f : Nat → Int} (h : RowAt W A m f) (hne : ∀ a, A = some a → a.block ≠ g) : RowAt (W.setCell ⟨g, p, none⟩ v) A m f := by
  refine ⟨?_, h.2⟩
  rcases h.1 with h0 | ⟨b, off, hA, hc⟩
  · exact Or.inl h0
  · refine Or.inr ⟨b, off, hA, fun i hi => ?_⟩
    rw [World.cell?_of_block (w := W) (heap_setCell_other W ⟨g, p, none⟩ b v (hne _ hA))]
    exact hc i hi

theorem Work.set {W : World} {g n m p : Nat} {R : Nat → Option Addr} {C : Nat → Nat} {Z : Nat → Nat → Int} (h : Work W g n m R C Z) (hp : p < n) {A : Option Addr} {c : Nat} {z : Nat → Int} (hr : RowAt W A m z) (hA : ∀ a, A = some a → a.block ≠ g) (hc : m ≤ c) :
    Work (W.setCell ⟨g, p, none⟩ (.slice A m c)) g n m (upd R p A) (upd C p c) (upd Z p z) := by
  obtain ⟨cur, h1, h2⟩ := h.outer
  have hsz : p < cur.size := by
    have := h2 p hp
    rcases Nat.lt_or_ge p cur.size with h | h
    · exact h
    · rw [Array.getElem?_eq_none h] at this; cases this
  refine ⟨⟨_, heap_setCell_same W g p cur _ _ h1, fun r hr' => ?_⟩, fun r hr' => ?_, fun r a hr' ha => ?_, fun r hr' => ?_⟩
  · by_cases e : r = p
    · subst e; rw [Array.getElem?_setIfInBounds_self_of_lt hsz, upd_at, upd_at]
    · rw [Array.getElem?_setIfInBounds_ne (Ne.symm e), h2 r hr', upd_ne _ _ e, upd_ne _ _ e]
  · by_cases e : r = p
    · subst e; rw [upd_at, upd_at]; exact hr.set hA
    · rw [upd_ne _ _ e, upd_ne _ _ e]; exact (h.row r hr').set (fun a ha => h.apart r a hr' ha)
  · by_cases e : r = p
    · subst e; rw [upd_at] at ha; exact hA a ha
    · rw [upd_ne _ _ e] at ha; exact h.apart r a hr' ha
  · by_cases e : r = p
    · subst e; rw [upd_at]; exact hc
    · rw [upd_ne _ _ e]; exact h.room r hr'

theorem Work.congr {W : World} {g n m : Nat} {R : Nat → Option Addr} {C : Nat → Nat} {Z Z' : Nat → Nat → Int} (h : Work W g n m R C Z) (e : ∀ r, r < n → Z' r = Z r) : Work W g n m R C Z' :=
  ⟨h.outer, fun r hr => by rw [e r hr]; exact h.row r hr, h.apart, h.room⟩

/-- a matrix that was made, as rows under work -/
theorem Work.of_own {W : World} {base n m : Nat} {v : Value} {R : Nat → Option Addr} {L C : Nat → Nat} {Z : Nat → Nat → Int} (h : OwnMat W base v n R L C Z) (hn : 0 < n) (hL : ∀ r, r < n → L r = m) :
    ∃ g cap, v = .slice (some ⟨g, 0, none⟩) n cap ∧ base ≤ g ∧ Work W g n m R C Z := by
  obtain ⟨h1, h2⟩ := h.own
  rcases h2 with ⟨_, h0⟩ | ⟨g, cap, cur, rfl, hb, hg, h3, h4, h5, h6⟩
  · omega
  · refine ⟨g, cap, rfl, hb, ⟨cur, hg, fun r hr => ?_⟩, fun r hr => by rw [← hL r hr]; exact h.row r hr, fun r a hr ha e => (h.apart r a hr ha).2.2 (by simp only [Value.ownBlock, Option.some.injEq]; exact e.symm), fun r hr => by rw [← hL r hr]; exact (h.cap r hr).1⟩
    have e : (cur.toList.take (n * 1))[r]? = (rowsU R L C n)[r]? := by rw [h6]
    rw [Nat.mul_one, List.getElem?_take, if_pos hr] at e
    rw [← Array.getElem?_toList, e]
    unfold rowsU
    rw [List.getElem?_map, List.getElem?_range hr, ← hL r hr]; rfl

/-- and as a matrix in memory -/
theorem Work.mat {W : World} {g n m : Nat} {R : Nat → Option Addr} {C : Nat → Nat} {Z : Nat → Nat → Int} (h : Work W g n m R C Z) : MatAt W (some ⟨g, 0, none⟩) n R (fun _ => m) C Z :=
  ⟨Or.inr ⟨g, 0, rfl, fun r hr => by rw [Nat.zero_add]; exact (h.cell hr).1⟩, h.row⟩

end Go.Proofs.Ytbhbdhkifkmkbaa

/- Plain algebra: polynomials over the field of 256 numbers: one of a degree below k is fixed by k points, and what goes through points at some place is the same whichever k of its points are taken; nothing of the program is named here. -/
namespace Go.Proofs.Ytbhbdhkifkmkbaa.La

/-- x to the power t -/
def pw (x : F8) : Nat → F8
  | 0 => f1
  | t + 1 => ml (pw x t) x

/-- the polynomial with the coefficients c, below the degree k, at x -/
def ev (k : Nat) (c : Nat → F8) (x : F8) : F8 := sum k fun t => ml (c t) (pw x t)

theorem ev_add (k : Nat) (c d : Nat → F8) (x : F8) : ev k (fun t => ad (c t) (d t)) x = ad (ev k c x) (ev k d x) := by
  unfold ev
  rw [← sum_add]
  exact sum_congr fun t _ => add_mul _ _ _

theorem ev_scale (k : Nat) (a : F8) (c : Nat → F8) (x : F8) : ev k (fun t => ml a (c t)) x = ml a (ev k c x) := by
  unfold ev
  rw [← sum_mul_left]
  exact sum_congr fun t _ => mul_assoc _ _ _

/-- the coefficients one place up -/
def up (c : Nat → F8) : Nat → F8
  | 0 => f0
  | t + 1 => c t

theorem sum_shift (n : Nat) (f : Nat → F8) : sum (n + 1) f = ad (f 0) (sum n fun t => f (t + 1)) := by
  induction n with
  | zero => show ad f0 (f 0) = ad (f 0) f0; exact add_comm _ _
  | succ n ih =>
    show ad (sum (n + 1) f) (f (n + 1)) = ad (f 0) (ad (sum n _) (f (n + 1)))
    rw [ih, add_assoc]

theorem ev_up (k : Nat) (c : Nat → F8) (x : F8) : ev (k + 1) (up c) x = ml x (ev k c x) := by
  unfold ev
  rw [sum_shift]
  show ad (ml f0 _) _ = _
  rw [zero_mul, zero_add, ← sum_mul_left]
  refine sum_congr fun t _ => ?_
  show ml (c t) (ml (pw x t) x) = ml x (ml (c t) (pw x t))
  rw [← mul_assoc, mul_comm]

/-- a degree more, with 0 there -/
theorem ev_more (k : Nat) (c : Nat → F8) (x : F8) : ev (k + 1) (fun t => if t < k then c t else f0) x = ev k c x := by
  show ad (sum k _) (ml (if k < k then c k else f0) _) = _
  rw [if_neg (Nat.lt_irrefl k), zero_mul, add_zero]
  exact sum_congr fun t ht => by dsimp only; rw [if_pos ht]

/-- one factor more -/
theorem ev_factor (k : Nat) (c : Nat → F8) (a : F8) : ∃ d, ∀ x, ev (k + 1) d x = ml (ad x a) (ev k c x) :=
  ⟨fun t => ad (up c t) (ml a (if t < k then c t else f0)), fun x => by
    rw [ev_add, ev_scale (k + 1) a (fun t => if t < k then c t else f0), ev_up, ev_more, add_mul]⟩

/-- one factor less, where there is a nought -/
theorem ev_root (k : Nat) : ∀ (c : Nat → F8) (a : F8), ∃ d r, ∀ x, ev (k + 1) c x = ad (ml (ad x a) (ev k d x)) r := by
  induction k with
  | zero => intro c a; exact ⟨c, c 0, fun x => by show ad f0 (ml (c 0) f1) = ad (ml _ f0) (c 0); rw [mul_one, mul_zero]⟩
  | succ k ih =>
    intro c a
    -- c = c0 + x c', c' = (x + a) d' + r'
    obtain ⟨d, r, h⟩ := ih (fun t => c (t + 1)) a
    have e : ∀ x, ev (k + 2) c x = ad (c 0) (ml x (ev (k + 1) (fun t => c (t + 1)) x)) := fun x => by
      unfold ev
      rw [sum_shift]
      show ad (ml (c 0) f1) _ = _
      rw [mul_one, ← sum_mul_left]
      congr 1
      refine sum_congr fun t _ => ?_
      show ml (c (t + 1)) (ml (pw x t) x) = ml x (ml (c (t + 1)) (pw x t))
      rw [← mul_assoc, mul_comm]
    -- x ((x + a) d + r) + c0 = (x + a) (x d + r) + (a r + c0)
    refine ⟨fun t => ad (up d t) (if t = 0 then r else f0), ad (ml a r) (c 0), fun x => ?_⟩
    have hd : ev (k + 1) (fun t => ad (up d t) (if t = 0 then r else f0)) x = ad (ml x (ev k d x)) r := by
      rw [ev_add, ev_up]
      congr 1
      unfold ev
      rw [sum_shift]
      show ad (ml (if (0 : Nat) = 0 then r else f0) f1) _ = r
      rw [if_pos rfl, mul_one, sum_congr (g := fun _ => f0) (fun t _ => by dsimp only; rw [if_neg (by omega), zero_mul]), sum_zero, add_zero]
    have e1 : ml x (ad (ml (ad x a) (ev k d x)) r) = ad (ml (ad x a) (ml x (ev k d x))) (ml x r) := by rw [mul_add, ← mul_assoc, mul_comm x (ad x a), mul_assoc]
    have e2 : ml (ad x a) (ad (ml x (ev k d x)) r) = ad (ml (ad x a) (ml x (ev k d x))) (ad (ml x r) (ml a r)) := by rw [mul_add, add_mul x a r]
    rw [e, h, hd, e1, e2, add_assoc, add_assoc, add_self_left, add_comm (c 0), add_assoc]

theorem ml_eq_zero {a b : F8} (h : ml a b = f0) : a = f0 ∨ b = f0 := by
  have := (Gf.mul_eq_zero a.v b.v a.h b.h).1 (congrArg F8.v h)
  exact this.imp F8.ext F8.ext

theorem ad_eq_zero {a b : F8} (h : ad a b = f0) : a = b := F8.ext (Gf.xor_eq_zero (congrArg F8.v h))

/-- who is 0 at k unlike points is 0 everywhere -/
theorem ev_zero (k : Nat) : ∀ (c : Nat → F8) (p : Nat → F8), (∀ i j, i < j → j < k → p i ≠ p j) → (∀ i, i < k → ev k c (p i) = f0) → ∀ x, ev k c x = f0 := by
  induction k with
  | zero => intro c p _ _ x; rfl
  | succ k ih =>
    intro c p hp hz x
    obtain ⟨d, r, h⟩ := ev_root k c (p k)
    have hr : r = f0 := by
      have := hz k (by omega)
      rw [h, add_self, zero_mul, zero_add] at this
      exact this
    have hd := ih d p (fun i j hij hj => hp i j hij (by omega)) (fun i hi => by
      have := hz i (by omega)
      rw [h, hr, add_zero] at this
      rcases ml_eq_zero this with h1 | h1
      · exact absurd (ad_eq_zero h1) (hp i k hi (by omega))
      · exact h1)
    rw [h, hr, add_zero, hd, mul_zero]

/-- two of a degree below k that are the same at k unlike points are the same -/
theorem ev_same (k : Nat) (c d : Nat → F8) (p : Nat → F8) (hp : ∀ i j, i < j → j < k → p i ≠ p j) (h : ∀ i, i < k → ev k c (p i) = ev k d (p i)) (x : F8) : ev k c x = ev k d x := by
  have := ev_zero k (fun t => ad (c t) (d t)) p hp (fun i hi => by rw [ev_add, h i hi, add_self]) x
  rw [ev_add] at this
  exact ad_eq_zero this

/-- the product of the factors for the points below n, but for point j -/
def lag (p : Nat → F8) (iv : F8 → F8) (j : Nat) (x : F8) : Nat → F8
  | 0 => f1
  | n + 1 => if n = j then lag p iv j x n else ml (lag p iv j x n) (ml (ad x (p n)) (iv (ad (p j) (p n))))

/-- what has one factor less than there are points is a polynomial of that degree -/
theorem lag_ev (p : Nat → F8) (iv : F8 → F8) (j : Nat) : ∀ n, ∃ c, ∀ x, lag p iv j x n = ev (if j < n then n else n + 1) c x
  | 0 => ⟨fun _ => f1, fun x => by
      rw [if_neg (Nat.not_lt_zero j)]
      show f1 = ad f0 (ml f1 f1)
      rw [zero_add, mul_one]⟩
  | n + 1 => by
    obtain ⟨c, hc⟩ := lag_ev p iv j n
    by_cases e : n = j
    · subst e
      refine ⟨c, fun x => ?_⟩
      show (if n = n then lag p iv n x n else _) = _
      rw [if_pos rfl, hc x, if_neg (Nat.lt_irrefl n), if_pos (Nat.lt_succ_self n)]
    · obtain ⟨d, hd⟩ := ev_factor (if j < n then n else n + 1) c (p n)
      refine ⟨fun t => ml (iv (ad (p j) (p n))) (d t), fun x => ?_⟩
      have ek : (if j < n + 1 then n + 1 else n + 1 + 1) = (if j < n then n else n + 1) + 1 := by
        by_cases h : j < n
        · rw [if_pos h, if_pos (by omega)]
        · rw [if_neg h, if_neg (by omega)]
      show (if n = j then _ else ml (lag p iv j x n) (ml (ad x (p n)) (iv (ad (p j) (p n))))) = _
      rw [if_neg e, hc x, ek, ev_scale, hd x, ← mul_assoc, mul_comm (iv _), mul_comm (ev _ c x)]

theorem lag_other (p : Nat → F8) (iv : F8 → F8) (j i : Nat) (h : i ≠ j) : ∀ n, i < n → lag p iv j (p i) n = f0
  | 0, hi => by omega
  | n + 1, hi => by
    show (if n = j then lag p iv j (p i) n else ml (lag p iv j (p i) n) (ml (ad (p i) (p n)) (iv (ad (p j) (p n))))) = f0
    by_cases e : i = n
    · subst e; rw [if_neg h, add_self, zero_mul, mul_zero]
    · by_cases e2 : n = j
      · rw [if_pos e2]; exact lag_other p iv j i h n (by omega)
      · rw [if_neg e2, lag_other p iv j i h n (by omega), zero_mul]

theorem lag_own (p : Nat → F8) (iv : F8 → F8) (j : Nat) (hiv : ∀ a, a ≠ f0 → ml a (iv a) = f1) : ∀ n, (∀ i, i < n → i ≠ j → p i ≠ p j) → lag p iv j (p j) n = f1
  | 0, _ => rfl
  | n + 1, h => by
    show (if n = j then lag p iv j (p j) n else ml (lag p iv j (p j) n) (ml (ad (p j) (p n)) (iv (ad (p j) (p n))))) = f1
    rw [lag_own p iv j hiv n (fun i hi => h i (by omega))]
    by_cases e : n = j
    · rw [if_pos e]
    · rw [if_neg e, hiv _ (fun h0 => h n (by omega) e (ad_eq_zero h0).symm), mul_one]

/-- what goes through the numbers y at the points p, at x -/
def thro (k : Nat) (p : Nat → F8) (iv : F8 → F8) (y : Nat → F8) (x : F8) : F8 := sum k fun j => ml (lag p iv j x k) (y j)

theorem sum_ev (k n : Nat) (c : Nat → Nat → F8) (y : Nat → F8) (x : F8) : sum n (fun j => ml (ev k (c j) x) (y j)) = ev k (fun t => sum n fun j => ml (y j) (c j t)) x := by
  unfold ev
  rw [sum_congr (g := fun j => sum k fun t => ml (ml (y j) (c j t)) (pw x t)) (fun j _ => by
    rw [mul_comm, ← sum_mul_left]
    exact sum_congr fun t _ => (mul_assoc _ _ _).symm), sum_swap]
  exact sum_congr fun t _ => sum_mul_right _ _ _

/-- it is a polynomial of a degree below k -/
theorem thro_ev (k : Nat) (p : Nat → F8) (iv : F8 → F8) (y : Nat → F8) : ∃ c, ∀ x, thro k p iv y x = ev k c x := by
  have h : ∀ j, ∃ c, j < k → ∀ x, lag p iv j x k = ev k c x := fun j => by
    obtain ⟨c, hc⟩ := lag_ev p iv j k
    exact ⟨c, fun hj x => by rw [hc x, if_pos hj]⟩
  refine ⟨fun t => sum k fun j => ml (y j) (Classical.choose (h j) t), fun x => ?_⟩
  rw [← sum_ev]
  exact sum_congr fun j hj => by rw [Classical.choose_spec (h j) hj x]

theorem thro_at (k : Nat) (p : Nat → F8) (iv : F8 → F8) (hiv : ∀ a, a ≠ f0 → ml a (iv a) = f1) (hp : ∀ i j, i < k → j < k → i ≠ j → p i ≠ p j) (y : Nat → F8) (i : Nat) (hi : i < k) : thro k p iv y (p i) = y i := by
  unfold thro
  rw [sum_congr (g := fun j => ml (one i j) (y j)) (fun j hj => by
    unfold one
    by_cases e : i = j
    · subst e; rw [if_pos rfl, lag_own p iv i hiv k (fun t ht hne => hp t i ht hi hne)]
    · rw [if_neg e, lag_other p iv j i e k hi])]
  exact sum_one_left k i hi y

/-- whichever k points of it are taken, it is the same -/
theorem thro_thro (k : Nat) (p q : Nat → F8) (iv : F8 → F8) (hiv : ∀ a, a ≠ f0 → ml a (iv a) = f1) (hq : ∀ i j, i < k → j < k → i ≠ j → q i ≠ q j)
    (y : Nat → F8) (x : F8) : thro k q iv (fun i => thro k p iv y (q i)) x = thro k p iv y x := by
  obtain ⟨c, hc⟩ := thro_ev k p iv y
  obtain ⟨d, hd⟩ := thro_ev k q iv (fun i => thro k p iv y (q i))
  rw [hd x, hc x]
  refine ev_same k d c q (fun i j hij hj => hq i j (by omega) hj (by omega)) (fun i hi => ?_) x
  rw [← hd, ← hc, thro_at k q iv hiv hq _ i hi]

/-- what goes through k points of a polynomial of a degree below k is it -/
theorem thro_of_ev (k : Nat) (q : Nat → F8) (iv : F8 → F8) (hiv : ∀ a, a ≠ f0 → ml a (iv a) = f1) (hq : ∀ i j, i < k → j < k → i ≠ j → q i ≠ q j) (c : Nat → F8) (x : F8) : thro k q iv (fun i => ev k c (q i)) x = ev k c x := by
  obtain ⟨d, hd⟩ := thro_ev k q iv (fun i => ev k c (q i))
  rw [hd x]
  refine ev_same k d c q (fun i j hij hj => hq i j (by omega) hj (by omega)) (fun i hi => ?_) x
  rw [← hd, thro_at k q iv hiv hq _ i hi]

theorem thro_add (k : Nat) (p : Nat → F8) (iv : F8 → F8) (y z : Nat → F8) (x : F8) : thro k p iv (fun i => ad (y i) (z i)) x = ad (thro k p iv y x) (thro k p iv z x) := by
  unfold thro
  rw [← sum_add]
  exact sum_congr fun j _ => mul_add _ _ _

/-- a word that is 0 at k points is 0 -/
theorem thro_zero (k : Nat) (p q : Nat → F8) (iv : F8 → F8) (hiv : ∀ a, a ≠ f0 → ml a (iv a) = f1) (hp : ∀ i j, i < k → j < k → i ≠ j → p i ≠ p j) (hq : ∀ i j, i < k → j < k → i ≠ j → q i ≠ q j)
    (y : Nat → F8) (h : ∀ i, i < k → thro k p iv y (q i) = f0) : ∀ i, i < k → y i = f0 := by
  intro i hi
  obtain ⟨c, hc⟩ := thro_ev k p iv y
  rw [← thro_at k p iv hiv hp y i hi, hc]
  exact ev_zero k c q (fun i j hij hj => hq i j (by omega) hj (by omega)) (fun j hj => by rw [← hc]; exact h j hj) _

end Go.Proofs.Ytbhbdhkifkmkbaa.La

/- Words: what the document says of shards, as numbers; nothing of the program is named here. -/
namespace Go.Proofs.Ytbhbdhkifkmkbaa
open Go.RowKit

/-- what takes a number back -/
def ivF (a : La.F8) : La.F8 := fi (invR (a.v : Int))
/-- the point i -/
def ptF (i : Nat) : La.F8 := fi (i : Int)

theorem fi_self (a : La.F8) : fi (a.v : Int) = a := by
  apply La.F8.ext
  have := a.h
  rw [fi_v (by omega)]; omega

theorem ivF_ok : ∀ a : La.F8, a ≠ La.f0 → La.ml a (ivF a) = La.f1 := by
  intro a ha
  have h0 : a.v ≠ 0 := fun e => ha (La.F8.ext e)
  have h1 := a.h
  have := fi_inv (a := (a.v : Int)) (by omega) (by omega)
  rw [fi_self] at this
  exact this

theorem ptF_inj {i j : Nat} (hi : i < 256) (hj : j < 256) (h : ptF i = ptF j) : i = j := by
  have := fi_inj (a := (i : Int)) (b := (j : Int)) (by omega) (by omega) h
  omega

/-- the number in column c of the shard i of the word of k rows of data -/
def wordI (k : Nat) (Z : Nat → Nat → Int) (i c : Nat) : Int := ((La.thro k ptF ivF (fun j => fm Z j c) (ptF i)).v : Int)

theorem wordI_bd (k : Nat) (Z : Nat → Nat → Int) (i c : Nat) : 0 ≤ wordI k Z i c ∧ wordI k Z i c < 256 := by
  unfold wordI
  have := (La.thro k ptF ivF (fun j => fm Z j c) (ptF i)).h
  omega

theorem wordI_fi (k : Nat) (Z : Nat → Nat → Int) (i c : Nat) : fi (wordI k Z i c) = La.thro k ptF ivF (fun j => fm Z j c) (ptF i) := fi_self _

theorem pts_apart {k : Nat} (hk : k ≤ 256) : ∀ i j, i < k → j < k → i ≠ j → ptF i ≠ ptF j := fun i j hi hj hne e => hne (ptF_inj (by omega) (by omega) e)

/-- the first shards are the data -/
theorem word_data {k : Nat} {Z : Nat → Nat → Int} {i c : Nat} (hk : k ≤ 256) (hi : i < k) (hZ : 0 ≤ Z i c ∧ Z i c < 256) : wordI k Z i c = Z i c := by
  apply fi_inj (wordI_bd _ _ _ _) hZ
  rw [wordI_fi, La.thro_at k ptF ivF ivF_ok (pts_apart hk) (fun j => fm Z j c) i hi]
  rfl

theorem thro_congr {k : Nat} {p : Nat → La.F8} {iv : La.F8 → La.F8} {y z : Nat → La.F8} {x : La.F8} (h : ∀ j, j < k → y j = z j) : La.thro k p iv y x = La.thro k p iv z x := by
  unfold La.thro
  exact La.sum_congr (fun j hj => by rw [h j hj])

theorem word_congr {k : Nat} {Z Y : Nat → Nat → Int} {i c d : Nat} (h : ∀ j, j < k → Z j c = Y j d) : wordI k Z i c = wordI k Y i d := by
  unfold wordI
  rw [thro_congr (z := fun j => fm Y j d) (fun j hj => by unfold fm; rw [h j hj])]

/-- the word of a sum is the sum of the words -/
theorem word_sum {k : Nat} {Z Y : Nat → Nat → Int} {i c : Nat} (hZ : ∀ j, j < k → 0 ≤ Z j c ∧ Z j c < 256) (hY : ∀ j, j < k → 0 ≤ Y j c ∧ Y j c < 256) : wordI k (fun j c => addI (Z j c) (Y j c)) i c = addI (wordI k Z i c) (wordI k Y i c) := by
  apply fi_inj (wordI_bd _ _ _ _) (addI_bd _ _ (wordI_bd _ _ _ _).2 (wordI_bd _ _ _ _).2)
  rw [fi_add (wordI_bd _ _ _ _) (wordI_bd _ _ _ _), wordI_fi, wordI_fi, wordI_fi, ← La.thro_add]
  exact thro_congr (fun j hj => fi_add (hZ j hj) (hY j hj))

/-- two data whose words agree in a column at k shards agree in that column -/
theorem word_same {k : Nat} {Z Y : Nat → Nat → Int} {c : Nat} (hk : k ≤ 256) (hZ : ∀ j, j < k → 0 ≤ Z j c ∧ Z j c < 256) (hY : ∀ j, j < k → 0 ≤ Y j c ∧ Y j c < 256) {q : Nat → Nat} (hq : ∀ i j, i < k → j < k → i ≠ j → q i ≠ q j) (hq2 : ∀ j, j < k → q j < 256)
    (h : ∀ j, j < k → wordI k Z (q j) c = wordI k Y (q j) c) : ∀ j, j < k → Z j c = Y j c := by
  have hz : ∀ j, j < k → La.ad (fm Z j c) (fm Y j c) = La.f0 := by
    refine La.thro_zero k ptF (fun j => ptF (q j)) ivF ivF_ok (pts_apart hk) (fun i j hi hj hne e => hq i j hi hj hne (ptF_inj (hq2 i hi) (hq2 j hj) e)) (fun j => La.ad (fm Z j c) (fm Y j c)) (fun j hj => ?_)
    rw [La.thro_add, ← wordI_fi, ← wordI_fi, h j hj, La.add_self]
  intro j hj
  exact fi_inj (hZ j hj) (hY j hj) (La.ad_eq_zero (hz j hj))

/-- how many below n -/
def cntB (p : Nat → Bool) : Nat → Nat
  | 0 => 0
  | n + 1 => cntB p n + (if p n then 1 else 0)

theorem cntB_le (p : Nat → Bool) : ∀ n, cntB p n ≤ n
  | 0 => Nat.le_refl _
  | n + 1 => by have := cntB_le p n; show cntB p n + (if p n then 1 else 0) ≤ n + 1; split <;> omega

theorem cntB_not (p : Nat → Bool) : ∀ n, cntB p n + cntB (fun i => !p i) n = n
  | 0 => rfl
  | n + 1 => by
    have := cntB_not p n
    show cntB p n + (if p n then 1 else 0) + (cntB (fun i => !p i) n + (if !p n then 1 else 0)) = n + 1
    cases p n <;> simp <;> omega

theorem picks (p : Nat → Bool) : ∀ n k, k ≤ cntB p n → ∃ q : Nat → Nat, (∀ i j, i < j → j < k → q i < q j) ∧ ∀ j, j < k → q j < n ∧ p (q j) = true
  | 0, k, h => ⟨fun _ => 0, fun i j _ hj => by have : k ≤ 0 := h; omega, fun j hj => by have : k ≤ 0 := h; omega⟩
  | n + 1, k, h => by
    by_cases hk : k ≤ cntB p n
    · obtain ⟨q, h1, h2⟩ := picks p n k hk
      exact ⟨q, h1, fun j hj => ⟨by have := (h2 j hj).1; omega, (h2 j hj).2⟩⟩
    · have h' : k ≤ cntB p n + (if p n then 1 else 0) := h
      have hp : p n = true := by
        cases hpn : p n
        · rw [hpn] at h'; simp at h'; omega
        · rfl
      rw [hp] at h'
      simp only [if_true] at h'
      obtain ⟨q, h1, h2⟩ := picks p n (k - 1) (by omega)
      refine ⟨fun j => if j < k - 1 then q j else n, fun i j hij hj => ?_, fun j hj => ?_⟩
      · dsimp only
        rw [if_pos (by omega)]
        split
        · rename_i h3; exact h1 i j hij h3
        · exact (h2 i (by omega)).1
      · dsimp only
        split
        · rename_i h3; exact ⟨by have := (h2 j h3).1; omega, (h2 j h3).2⟩
        · exact ⟨by omega, hp⟩

/-- words of unlike data differ in at least n - k + 1 shards: 'like' marks shards that agree in the column in which the data do not -/
theorem word_far {k n : Nat} {Z Y : Nat → Nat → Int} {c r : Nat} (hk : k ≤ 256) (hn : n ≤ 256) (hZ : ∀ j, j < k → 0 ≤ Z j c ∧ Z j c < 256) (hY : ∀ j, j < k → 0 ≤ Y j c ∧ Y j c < 256) (hr : r < k) (hne : Z r c ≠ Y r c)
    (like : Nat → Bool) (hl : ∀ i, i < n → like i = true → wordI k Z i c = wordI k Y i c) : cntB like n < k := by
  rcases Nat.lt_or_ge (cntB like n) k with h | h
  · exact h
  · exfalso
    obtain ⟨q, h1, h2⟩ := picks like n k h
    refine hne (word_same hk hZ hY (q := q) (fun i j hi hj hij e => ?_) (fun j hj => by have := (h2 j hj).1; omega) (fun j hj => hl _ (h2 j hj).1 (h2 j hj).2) r hr)
    rcases Nat.lt_or_gt_of_ne hij with h3 | h3
    · have := h1 i j h3 hj; omega
    · have := h1 j i h3 hi; omega

end Go.Proofs.Ytbhbdhkifkmkbaa

/- The document's own weights and polynomials at points (layer 3's answer by definition). -/
namespace Go.Proofs.Ytbhbdhkifkmkbaa
open Go.RowKit

attribute [local go_sem ↓] Go.wp_at_zero Go.wp_at_succ

/-- a row of whole numbers -/
def IntsAt (w : World) (A : Option Addr) (L : Nat) (f : Nat → Int) : Prop :=
  L = 0 ∨ ∃ b off, A = some ⟨b, off, none⟩ ∧ ∀ i, i < L → w.cell? ⟨b, off + i, none⟩ = some (.int .i64 (f i))

theorem IntsAt.keep {w w' : World} {A : Option Addr} {L : Nat} {f : Nat → Int} (h : IntsAt w A L f) (g : Bw w w') : IntsAt w' A L f := by
  rcases h with h0 | ⟨b, off, hA, hc⟩
  · exact Or.inl h0
  · refine Or.inr ⟨b, off, hA, fun i hi => ?_⟩
    have := hc i hi
    rw [g.cell (p := ⟨b, off + i, none⟩) (block_lt_of_cell this)]
    exact this

/-- the weight of point j at x, of the first k points -/
def wgtI (P : Nat → Int) (j : Nat) (x : Int) : Nat → Int
  | 0 => 1
  | k + 1 => if k = j then wgtI P j x k else mulI (wgtI P j x k) (mulI (addI x (P k)) (invR (addI (P j) (P k))))

theorem wgtI_bd (P : Nat → Int) (j : Nat) (x : Int) : ∀ k, 0 ≤ wgtI P j x k ∧ wgtI P j x k < 256
  | 0 => by show (0 : Int) ≤ 1 ∧ (1 : Int) < 256; decide
  | k + 1 => by
    unfold wgtI; split
    · exact wgtI_bd P j x k
    · exact mulI_bd _ _ (wgtI_bd P j x k).2

set_option maxRecDepth 100000 in
theorem rweight_any (A : Option Addr) (k cap j : Nat) (P : Nat → Int) (x : Int) (w : World) (h : IntsAt w A k P) (hP : Hid (∀ i, i < k → 0 ≤ P i ∧ P i < 256)) (hj : j < k) (hk : k ≤ 140737488355328) (x0 : 0 ≤ x) (x1 : x < 256) :
    Calls Try.prog 30 #[.slice A k cap, .int .i64 (j : Int), .int .i64 x] w fun e w' => e = .returned (.int .u8 (wgtI P j x k)) ∧ Bw w w' := by
  go_enter Try.func30, Try.ntmps30
  go_wp2
  go_loopw [7, 8] (fun p i wr => ∃ t : Nat, t ≤ k ∧ i = .int .i64 t ∧ p = .int .u8 (wgtI P j x t) ∧ Bw w wr) (fun _ i _ => k - (intOf i).toNat)
  case atStart => exact ⟨0, Nat.zero_le _, rfl, rfl, Bw.refl _⟩
  case round =>
    obtain ⟨t, ht, rfl, rfl, hw⟩ := hrel
    by_cases hlt : t < k
    · obtain ⟨b, o, rfl, hc⟩ := (h.keep hw).resolve_left (by omega)
      have h1 := hc t hlt
      have h2 := hc j hj
      have p1 := hP.out t hlt
      have p2 := hP.out j hj
      have wb := wgtI_bd P j x t
      have t0 : (0 : Int) ≤ (t : Int) := Int.natCast_nonneg _
      have t1 : (t : Int) < (k : Int) := by omega
      have j0 : (0 : Int) ≤ (j : Int) := Int.natCast_nonneg _
      have j1 : (j : Int) < (k : Int) := by omega
      clear hc
      by_cases hjt : t = j
      · have e1 : ((t : Int) != (j : Int)) = false := by simp [hjt]
        have e2 : wgtI P j x (t + 1) = wgtI P j x t := by show (if t = j then _ else _) = _; rw [if_pos hjt]
        go_wp2
        go_roundw
        case rel => exact ⟨t + 1, by omega, by go_num, by rw [e2], hw⟩
        case measure => simp [intOf]; omega
      · have e1 : ((t : Int) != (j : Int)) = true := by simp; omega
        have e2 : wgtI P j x (t + 1) = mulI (wgtI P j x t) (mulI (addI x (P t)) (invR (addI (P j) (P t)))) := by show (if t = j then _ else _) = _; rw [if_neg hjt]
        have a1 := addI_bd x (P t) x1 p1.2
        have a2 := addI_bd (P j) (P t) p2.2 p1.2
        have r1 : bits .xor .u8 x (P t) = addI x (P t) := u8_xor _ _ x0 x1 p1.1 p1.2
        have r2 : bits .xor .u8 (P j) (P t) = addI (P j) (P t) := u8_xor _ _ p2.1 p2.2 p1.1 p1.2
        have i1 := invR_bd (addI (P j) (P t))
        have m1 := mulI_bd (addI x (P t)) (invR (addI (P j) (P t))) a1.2
        go_wp2
        go_quiet (fail)
        go_wp2_with (first | (go_at_call 45; refine (rinv_any _ (by omega) (by omega) _).mono ?_; rintro e w' ⟨rfl, hw'⟩; subst w') | (go_at_call 44; refine (rmul_any _ _ (by omega) (by omega) (by omega) (by omega) _).mono ?_; rintro e w' ⟨rfl, hw'⟩; subst w'))
        go_roundw
        case rel => exact ⟨t + 1, by omega, by go_num, by rw [e2], hw.trans (Bw.drewN _ _)⟩
        case measure => simp [intOf]; omega
    · have ek : k = t := by omega
      subst ek
      go_wp2
      go_ret
      exact ⟨rfl, hw⟩

end Go.Proofs.Ytbhbdhkifkmkbaa

/- The row that polynomials through rows at points have at a point. -/
namespace Go.Proofs.Ytbhbdhkifkmkbaa
open Go.RowKit

attribute [local go_sem ↓] Go.wp_at_zero Go.wp_at_succ

/-- what the polynomial through k rows at points has at x, in column c -/
def atZ (k : Nat) (P : Nat → Int) (Z : Nat → Nat → Int) (x : Int) (c : Nat) : Int := dotU (fun j => wgtI P j x k) (fun j => Z j c) k
/-- .. under way: j rows are added, and i numbers of the next one -/
def wayA (k : Nat) (P : Nat → Int) (Z : Nat → Nat → Int) (x : Int) (j i c : Nat) : Int := dotU (fun j => wgtI P j x k) (fun j => Z j c) (if c < i then j + 1 else j)

theorem wayA_bd (k : Nat) (P : Nat → Int) (Z : Nat → Nat → Int) (x : Int) (j i c : Nat) : 0 ≤ wayA k P Z x j i c ∧ wayA k P Z x j i c < 256 := dotU_bd _ _ (fun i => wgtI_bd P i x k) _
theorem atZ_bd (k : Nat) (P : Nat → Int) (Z : Nat → Nat → Int) (x : Int) (c : Nat) : 0 ≤ atZ k P Z x c ∧ atZ k P Z x c < 256 := dotU_bd _ _ (fun i => wgtI_bd P i x k) _
theorem wayA_at (k : Nat) (P : Nat → Int) (Z : Nat → Nat → Int) (x : Int) (j i : Nat) : addI (wayA k P Z x j i i) (mulI (wgtI P j x k) (Z j i)) = wayA k P Z x j (i + 1) i := by
  unfold wayA; rw [if_neg (by omega), if_pos (by omega)]; rfl
theorem wayA_ne (k : Nat) (P : Nat → Int) (Z : Nat → Nat → Int) (x : Int) (j i c : Nat) (h : c ≠ i) : wayA k P Z x j (i + 1) c = wayA k P Z x j i c := by
  unfold wayA
  by_cases h' : c < i
  · rw [if_pos h', if_pos (by omega)]
  · rw [if_neg h', if_neg (by omega)]
theorem wayA_next (k : Nat) (P : Nat → Int) (Z : Nat → Nat → Int) (x : Int) (j q c : Nat) (h : c < q) : wayA k P Z x (j + 1) 0 c = wayA k P Z x j q c := by
  unfold wayA; rw [if_neg (by omega), if_pos h]

set_option maxRecDepth 100000 in
set_option maxHeartbeats 4000000 in
theorem rat_any (A B : Option Addr) (k q ca cb : Nat) (P : Nat → Int) (S : Nat → Option Addr) (M D : Nat → Nat) (Z : Nat → Nat → Int) (x : Int) (w : World) (ha : IntsAt w A k P) (hb : MatAt w B k S M D Z)
    (hP : Hid (∀ i, i < k → 0 ≤ P i ∧ P i < 256)) (hM : Hid (∀ r, r < k → M r = q)) (hk0 : 0 < k) (hk : k ≤ 32) (hq : q ≤ 131072) (x0 : 0 ≤ x) (x1 : x < 256) :
    Calls Try.prog 34 #[.slice A k ca, .slice B k cb, .int .i64 x] w fun e w' => ∃ g, e = .returned (.slice (some ⟨g, 0, none⟩) q q) ∧ w.heap.size ≤ g ∧ BlockIs w' g q (atZ k P Z x) ∧ Bw w w' := by
  obtain ⟨M0, hs0, hM0, hmk⟩ := made_bytes q (by omega)
  have HM : Hid (∀ i, i < q → M0[i]? = some (.int .u8 0)) := hM0
  clear hM0
  obtain ⟨b0, o0, rfl, hc0⟩ := hb.at (k := 0) hk0
  have h0 := hc0 0 hk0
  rw [hM.out 0 hk0, Nat.add_zero] at h0
  have hblk : BlockIs (w.alloc (.cells M0 5)) w.heap.size q (wayA k P Z x 0 0) := ⟨M0, heap_alloc_new _ _, hs0, fun c hc => by rw [HM.out c hc]; unfold wayA; rw [if_neg (by omega)]; rfl⟩
  have hbw0 : Bw w (w.alloc (.cells M0 5)) := (Below.refl _ _).alloc (Nat.le_refl _) _
  have k0 : (0 : Int) < (k : Int) := by omega
  clear hc0
  go_enter Try.func34, Try.ntmps34
  go_wp2
  go_loopw [8, 10] (fun i _ wr => ∃ j : Nat, j ≤ k ∧ i = .int .i64 j ∧ BlockIs wr w.heap.size q (wayA k P Z x j 0) ∧ Bw w wr) (fun i _ _ => k - (intOf i).toNat)
  case atStart => exact ⟨0, Nat.zero_le _, rfl, hblk, hbw0⟩
  case round =>
    rename World => wo
    obtain ⟨j, hj, rfl, hbj, hwj⟩ := hrel
    by_cases hlt : j < k
    · have j0 : (0 : Int) ≤ (j : Int) := Int.natCast_nonneg _
      have j1 : (j : Int) < (k : Int) := by omega
      go_wp2_with (go_at_call 30; refine (rweight_any A k ca j P x _ (ha.keep hwj) hP hlt (by omega) x0 x1).mono ?_; rintro e w1 ⟨rfl, hw1⟩; have hbj1 := hbj.keep hw1; have hwj1 := hwj.trans hw1)
      have wb := wgtI_bd P j x k
      go_loopw [10] (fun i wr => ∃ t : Nat, t ≤ q ∧ i = .int .i64 t ∧ BlockIs wr w.heap.size q (wayA k P Z x j t) ∧ Bw w wr) (fun i _ => q - (intOf i).toNat)
      case atStart => exact ⟨0, Nat.zero_le _, rfl, hbj1, hwj1⟩
      case round =>
        obtain ⟨t, ht, rfl, hbt, hwt⟩ := hrel
        by_cases htq : t < q
        · obtain ⟨b1, o1, e1, hc1⟩ := (hb.keep hwt).at hlt
          have h1 := hc1 j hlt
          rw [hM.out j hlt] at h1
          have hrow := hb.2 j hlt
          rw [hM.out j hlt] at hrow
          obtain ⟨b2, o2, e2, hc2⟩ := (hrow.keep hwt).at htq
          have h2 := hc2 t htq
          rw [e2] at h1
          obtain ⟨h3, f3⟩ := hbt.cell htq
          have z2 := hrow.2 t
          have d1 := wayA_bd k P Z x j t t
          have m1 := mulI_bd (wgtI P j x k) (Z j t) wb.2
          have r1 : bits .xor .u8 (wayA k P Z x j t t) (mulI (wgtI P j x k) (Z j t)) = wayA k P Z x j (t + 1) t := (u8_xor _ _ d1.1 d1.2 m1.1 m1.2).trans (wayA_at k P Z x j t)
          have t0 : (0 : Int) ≤ (t : Int) := Int.natCast_nonneg _
          have t1 : (t : Int) < (q : Int) := by omega
          have l1 : b1 < w.heap.size := by obtain ⟨b, o, e, hc⟩ := hb.at hlt; rw [e] at e1; cases e1; exact block_lt_of_cell (hc j hlt)
          have l2 : b2 < w.heap.size := RowAt.lt (e2 ▸ hrow) (k := t) htq
          cases e1
          clear hc1 hc2 e2 hrow
          go_wp2
          go_region_with (go_at_call 44; refine (rmul_any _ _ (by omega) (by omega) (by omega) (by omega) _).mono ?_; rintro e w' ⟨rfl, hw'⟩; subst w')
          all_goals
            go_wp2
            go_roundw
            case rel => exact ⟨t + 1, by omega, by go_num, BlockIs.set hbt htq rfl (fun c _ hne => wayA_ne k P Z x j t c hne), (Bw.put hwt (Nat.le_refl _) t _).drew⟩
            case measure => simp [intOf]; omega
        · have ek : q = t := by omega
          subst ek
          go_wp2
          go_roundw
          case rel => exact ⟨j + 1, by omega, by go_num, hbt.congr (fun c hc => wayA_next k P Z x j q c hc), hwt⟩
          case measure => simp [intOf]; omega
    · have ek : k = j := by omega
      subst ek
      go_wp2
      go_ret
      exact ⟨_, rfl, Nat.le_refl _, hbj.congr (fun c hc => by unfold wayA atZ; rw [if_neg (by omega)]), hwj⟩

end Go.Proofs.Ytbhbdhkifkmkbaa

/- What is reckoned at points, as the polynomial that the document names. -/
namespace Go.Proofs.Ytbhbdhkifkmkbaa
open Go.RowKit

theorem ivF_fi {a : Int} (h : 0 ≤ a ∧ a < 256) : ivF (fi a) = fi (invR a) := by
  unfold ivF
  rw [fi_v h, Int.toNat_of_nonneg h.1]

theorem wgt_fi (P : Nat → Int) (j : Nat) (x : Int) (hx : 0 ≤ x ∧ x < 256) (hj : 0 ≤ P j ∧ P j < 256) : ∀ k, (∀ i, i < k → 0 ≤ P i ∧ P i < 256) → fi (wgtI P j x k) = La.lag (fun i => fi (P i)) ivF j (fi x) k
  | 0, _ => rfl
  | k + 1, h => by
    have ih := wgt_fi P j x hx hj k (fun i hi => h i (by omega))
    have hk := h k (by omega)
    by_cases e : k = j
    · have e1 : wgtI P j x (k + 1) = wgtI P j x k := by show (if k = j then _ else _) = _; rw [if_pos e]
      have e2 : La.lag (fun i => fi (P i)) ivF j (fi x) (k + 1) = La.lag (fun i => fi (P i)) ivF j (fi x) k := by show (if k = j then _ else _) = _; rw [if_pos e]
      rw [e1, e2, ih]
    · have e1 : wgtI P j x (k + 1) = mulI (wgtI P j x k) (mulI (addI x (P k)) (invR (addI (P j) (P k)))) := by show (if k = j then _ else _) = _; rw [if_neg e]
      have e2 : La.lag (fun i => fi (P i)) ivF j (fi x) (k + 1) = La.ml (La.lag (fun i => fi (P i)) ivF j (fi x) k) (La.ml (La.ad (fi x) (fi (P k))) (ivF (La.ad (fi (P j)) (fi (P k))))) := by show (if k = j then _ else _) = _; rw [if_neg e]
      have b1 := addI_bd x (P k) hx.2 hk.2
      have b2 := addI_bd (P j) (P k) hj.2 hk.2
      rw [e1, e2, ← ih, fi_mul (wgtI_bd P j x k) (mulI_bd _ _ b1.2), fi_mul b1 (invR_bd _), fi_add hx hk, ← fi_add hj hk, ivF_fi b2]

theorem dot_fi3 (f g : Nat → Int) (hf : ∀ i, 0 ≤ f i ∧ f i < 256) : ∀ k, (∀ i, i < k → 0 ≤ g i ∧ g i < 256) → fi (dotU f g k) = La.sum k fun t => La.ml (fi (f t)) (fi (g t))
  | 0, _ => rfl
  | k + 1, hg => by
    show fi (addI (dotU f g k) (mulI (f k) (g k))) = La.ad (La.sum k _) _
    rw [fi_add (dotU_bd f g hf k) (mulI_bd _ _ (hf k).2), fi_mul (hf k) (hg k (by omega)), dot_fi3 f g hf k (fun i hi => hg i (by omega))]

theorem at_fi {k : Nat} {P : Nat → Int} {Z : Nat → Nat → Int} {x : Int} {c : Nat} (hx : 0 ≤ x ∧ x < 256) (hP : ∀ i, i < k → 0 ≤ P i ∧ P i < 256) (hZ : ∀ j, j < k → 0 ≤ Z j c ∧ Z j c < 256) : fi (atZ k P Z x c) = La.thro k (fun j => fi (P j)) ivF (fun j => fm Z j c) (fi x) := by
  unfold atZ La.thro
  rw [dot_fi3 _ _ (fun i => wgtI_bd P i x k) k hZ]
  exact La.sum_congr (fun j hj => by rw [wgt_fi P j x hx (hP j hj) k hP]; rfl)

/-- the document's own reckoning at the points 0 to k - 1 is the word -/
theorem at_word {k : Nat} {P : Nat → Int} {Z : Nat → Nat → Int} {i c : Nat} (hk : k ≤ 256) (hi : i < 256) (hP : ∀ j, j < k → P j = (j : Int)) (hZ : ∀ j, j < k → 0 ≤ Z j c ∧ Z j c < 256) : atZ k P Z (i : Int) c = wordI k Z i c := by
  apply fi_inj (atZ_bd _ _ _ _ _) (wordI_bd _ _ _ _)
  rw [at_fi (by omega) (fun j hj => by rw [hP j hj]; omega) hZ, wordI_fi]
  have hl : ∀ n j, n ≤ k → j < k → La.lag (fun j => fi (P j)) ivF j (fi (i : Int)) n = La.lag ptF ivF j (ptF i) n := by
    intro n
    induction n with
    | zero => intro j _ _; rfl
    | succ n ih =>
      intro j hn hj
      show (if n = j then _ else _) = (if n = j then _ else _)
      rw [ih j (by omega) hj]
      have e1 : fi (P n) = ptF n := by rw [hP n (by omega)]; rfl
      have e2 : fi (P j) = ptF j := by rw [hP j hj]; rfl
      dsimp only
      rw [e1, e2]; rfl
  unfold La.thro
  exact La.sum_congr (fun j hj => by rw [hl k j (Nat.le_refl _) hj])

/-- at any k points of a word it is that word -/
theorem at_points {k : Nat} {P : Nat → Int} {D Z : Nat → Nat → Int} {p : Nat → Nat} {i c : Nat} (hk : k ≤ 256) (hi : i < 256) (hp : ∀ j, j < k → P j = (p j : Int) ∧ p j < 256) (hd : ∀ a b, a < k → b < k → a ≠ b → p a ≠ p b) (hZ : ∀ j, j < k → Z j c = wordI k D (p j) c) : atZ k P Z (i : Int) c = wordI k D i c := by
  apply fi_inj (atZ_bd _ _ _ _ _) (wordI_bd _ _ _ _)
  rw [at_fi (by omega) (fun j hj => by have := hp j hj; omega) (fun j hj => by rw [hZ j hj]; exact wordI_bd _ _ _ _), wordI_fi]
  have hl : ∀ n j, n ≤ k → j < k → La.lag (fun j => fi (P j)) ivF j (fi (i : Int)) n = La.lag (fun j => ptF (p j)) ivF j (ptF i) n := by
    intro n
    induction n with
    | zero => intro j _ _; rfl
    | succ n ih =>
      intro j hn hj
      show (if n = j then _ else _) = (if n = j then _ else _)
      rw [ih j (by omega) hj]
      have e1 : fi (P n) = ptF (p n) := by rw [(hp n (by omega)).1]; rfl
      have e2 : fi (P j) = ptF (p j) := by rw [(hp j hj).1]; rfl
      dsimp only
      rw [e1, e2]; rfl
  have ht := La.thro_thro k ptF (fun j => ptF (p j)) ivF ivF_ok (fun a b ha hb hab e => hd a b ha hb hab (ptF_inj (hp a ha).2 (hp b hb).2 e)) (fun j => fm D j c) (ptF i)
  rw [← ht]
  unfold La.thro
  refine La.sum_congr (fun j hj => ?_)
  rw [hl k j (Nat.le_refl _) hj]
  show La.ml _ (fi (Z j c)) = _
  rw [hZ j hj, wordI_fi]; rfl

end Go.Proofs.Ytbhbdhkifkmkbaa

/- What the document's own Steps makes of rows: they are brought to steps. -/
namespace Go.Proofs.Ytbhbdhkifkmkbaa
open Go.RowKit

/-- what is kept from turn to turn -/
def StepInv (n m j r : Nat) (Z0 Z : Nat → Nat → Int) (p : Nat → Nat) : Prop := La.RowEq n m (fm Z0) (fm Z) ∧ La.Stepped n j (fm Z) r p

theorem stepped_full {n j c : Nat} {W : Nat → Nat → La.F8} {p : Nat → Nat} (h : La.Stepped n j W n p) (hc : j ≤ c) : La.Stepped n c W n p :=
  ⟨h.le, fun i hi => by have := h.lt i hi; omega, h.rise, h.at_, fun k l h1 h2 _ => by omega⟩

/-- the numbers behind the change of rows: row q scaled stands in the row r, row r in the row q -/
def swapZ (Z : Nat → Nat → Int) (r q j : Nat) : Nat → Nat → Int := upd (upd Z q (Z r)) r (fun i => mulI (Z q i) (invR (Z q j)))
/-- i rows are done -/
def doneZ (Z : Nat → Nat → Int) (r j i : Nat) : Nat → Nat → Int := fun k l => if k < i ∧ k ≠ r then addI (Z k l) (mulI (Z k j) (Z r l)) else Z k l

theorem doneZ_zero (Z : Nat → Nat → Int) (r j : Nat) : doneZ Z r j 0 = Z := by
  funext k l; unfold doneZ; rw [if_neg (by omega)]
theorem doneZ_skip (Z : Nat → Nat → Int) (r j : Nat) : doneZ Z r j (r + 1) = doneZ Z r j r := by
  funext k l; unfold doneZ
  by_cases h : k < r
  · rw [if_pos ⟨by omega, by omega⟩, if_pos ⟨h, by omega⟩]
  · rw [if_neg (fun e => by omega), if_neg (fun e => by omega)]
theorem doneZ_at (Z : Nat → Nat → Int) (r j i : Nat) : doneZ Z r j i i = Z i := by
  funext l; unfold doneZ; rw [if_neg (by omega)]
theorem doneZ_piv (Z : Nat → Nat → Int) (r j i : Nat) : doneZ Z r j i r = Z r := by
  funext l; unfold doneZ; rw [if_neg (fun e => e.2 rfl)]
theorem doneZ_next (Z : Nat → Nat → Int) (r j i : Nat) (h : i ≠ r) : doneZ Z r j (i + 1) = upd (doneZ Z r j i) i (fun l => addI (Z i l) (mulI (Z i j) (Z r l))) := by
  funext k l
  unfold upd doneZ
  by_cases e : k = i
  · subst e; rw [if_pos ⟨by omega, h⟩, if_pos rfl]
  · rw [if_neg e]
    by_cases h2 : k < i ∧ k ≠ r
    · rw [if_pos ⟨by omega, h2.2⟩, if_pos h2]
    · rw [if_neg (fun e => h2 ⟨by omega, e.2⟩), if_neg h2]

theorem turn_is {n : Nat} {Z : Nat → Nat → Int} {r q j : Nat} (hZ : ∀ i, i < n → ∀ l, 0 ≤ Z i l ∧ Z i l < 256) (hr : r < n) (hq : q < n) :
    ∀ k l, k < n → fm (doneZ (swapZ Z r q j) r j n) k l = La.turn (fm Z) r q j (fi (invR (Z q j))) k l := by
  intro k l hk
  have hqj := hZ q hq j
  have hinv := invR_bd (Z q j)
  have hpiv : ∀ l, swapZ Z r q j r l = mulI (Z q l) (invR (Z q j)) := fun l => by unfold swapZ; rw [upd_at]
  have hpf : ∀ l, fi (swapZ Z r q j r l) = La.ml (fi (invR (Z q j))) (fm Z q l) := fun l => by
    rw [hpiv, fi_mul (hZ q hq l) hinv, La.mul_comm]; rfl
  have hpb : ∀ l, 0 ≤ swapZ Z r q j r l ∧ swapZ Z r q j r l < 256 := fun l => by rw [hpiv]; exact mulI_bd _ _ (hZ q hq l).2
  unfold La.turn
  by_cases e : k = r
  · subst e
    rw [if_pos rfl]
    show fi (doneZ _ _ _ _ _ _) = _
    rw [doneZ_piv, hpf]
  · rw [if_neg e]
    have hsk : ∀ l, swapZ Z r q j k l = if k = q then Z r l else Z k l := fun l => by
      unfold swapZ; rw [upd_ne _ _ e]; unfold upd
      by_cases e2 : k = q
      · rw [if_pos e2, if_pos e2]
      · rw [if_neg e2, if_neg e2]
    have hkb : ∀ l, 0 ≤ swapZ Z r q j k l ∧ swapZ Z r q j k l < 256 := fun l => by
      rw [hsk]; split
      · exact hZ r hr l
      · exact hZ k hk l
    have hkf : ∀ l, fi (swapZ Z r q j k l) = if k = q then fm Z r l else fm Z k l := fun l => by
      rw [hsk]; split <;> rfl
    show fi (doneZ (swapZ Z r q j) r j n k l) = _
    have e3 : doneZ (swapZ Z r q j) r j n k l = addI (swapZ Z r q j k l) (mulI (swapZ Z r q j k j) (swapZ Z r q j r l)) := by
      unfold doneZ; rw [if_pos ⟨hk, e⟩]
    rw [e3, fi_add (hkb l) (mulI_bd _ _ (hkb j).2), fi_mul (hkb j) (hpb l), hkf, hkf, hpf]

theorem inv_next {n m j r q : Nat} {Z0 Z : Nat → Nat → Int} {p : Nat → Nat} (h : StepInv n m j r Z0 Z p) (hZ : ∀ i, i < n → ∀ l, 0 ≤ Z i l ∧ Z i l < 256) (hr : r < n) (hrq : r ≤ q) (hq : q < n) (hne : Z q j ≠ 0) (hjm : j < m) :
    StepInv n m (j + 1) (r + 1) Z0 (doneZ (swapZ Z r q j) r j n) (fun i => if i = r then j else p i) := by
  have hpos : 0 < Z q j := by have := hZ q hq j; omega
  have hc : La.ml (fm Z q j) (fi (invR (Z q j))) = La.f1 := fi_inv hpos (hZ q hq j).2
  have ht := turn_is (j := j) hZ hr hq
  refine ⟨h.1.trans ((La.turn_eq hr hq hc).trans (La.RowEq.of_eq fun i l hi _ => ht i l hi)), ?_⟩
  have hs := h.2.next hr hrq hq hc
  have hjm' := hjm
  refine ⟨hs.le, hs.lt, hs.rise, fun k i hk hi => ?_, fun k l h1 h2 h3 => ?_⟩
  · rw [ht k _ hk]; exact hs.at_ k i hk hi
  · rw [ht k l h2]; exact hs.none k l h1 h2 h3

theorem inv_skip {n m j r : Nat} {Z0 Z : Nat → Nat → Int} {p : Nat → Nat} (h : StepInv n m j r Z0 Z p) (hz : ∀ k, r ≤ k → k < n → Z k j = 0) : StepInv n m (j + 1) r Z0 Z p :=
  ⟨h.1, h.2.skip (fun k h1 h2 => by show fi (Z k j) = La.f0; rw [hz k h1 h2]; rfl)⟩

theorem cell_bw {W W' : World} (h : Bw W W') {a : Addr} {v : Value} (hc : W.cell? a = some v) : W'.cell? a = some v := by
  rw [h.cell (p := a) (block_lt_of_cell hc)]; exact hc

end Go.Proofs.Ytbhbdhkifkmkbaa

/- What the document's own Rank tells. -/
namespace Go.Proofs.Ytbhbdhkifkmkbaa
open Go.RowKit

/-- rows of m numbers each, n of them -/
def colsN (n : Nat) (L : Nat → Nat) : Nat := if n = 0 then 0 else L 0
theorem colsI_eq (n : Nat) (L : Nat → Nat) : colsI n L = (colsN n L : Int) := by
  unfold colsI colsN; split <;> rfl

theorem rank_zero (m : Nat) (A : Nat → Nat → La.F8) : La.IsRank 0 m A 0 := ⟨A, A, A, A, fun i j hi => by omega, fun i j hi => by omega⟩

end Go.Proofs.Ytbhbdhkifkmkbaa

/- What the document's own Inverse makes. -/
namespace Go.Proofs.Ytbhbdhkifkmkbaa
open Go.RowKit

/-- what is told of a matrix that is to be taken back -/
def InvSays (n : Nat) (Z : Nat → Nat → Int) (e : Ending) (w' : World) : Prop :=
  (e = .returned (.tuple #[.slice none 0 0, .int .i64 20]) ∧ ¬ ∃ B, ∀ i j, i < n → j < n → La.mm n (fm Z) B i j = La.one i j) ∨
  ∃ A' cap' R' C' Y, e = .returned (.tuple #[.slice A' n cap', .int .i64 0]) ∧ MatAt w' A' n R' (fun _ => n) C' Y ∧ ∀ i j, i < n → j < n → La.mm n (fm Z) (fm Y) i j = La.one i j

theorem rank_congr {n m : Nat} {A B : Nat → Nat → La.F8} {r : Nat} (h : La.IsRank n m A r) (e : ∀ i j, i < n → j < m → B i j = A i j) : La.IsRank n m B r := by
  obtain ⟨P, Q, U, V, h1, h2⟩ := h
  refine ⟨P, Q, U, V, fun i j hi hj => by rw [e i j hi hj, h1 i j hi hj], fun i j hi hj => ?_⟩
  rw [← h2 i j hi hj]
  exact La.mm_congr (fun t ht => La.mm_congr (fun _ _ => rfl) (fun s hs => e s t hs ht)) (fun _ _ => rfl)

/-- a row and another one behind it -/
def wideZ (n : Nat) (Z Y : Nat → Nat → Int) (i c : Nat) : Int := if c < n then Z i c else Y i (c - n)

theorem cellsU_append (f g : Nat → Int) (n k : Nat) : cellsU f n ++ cellsU g k = cellsU (fun c => if c < n then f c else g (c - n)) (n + k) := by
  induction k with
  | zero =>
    show cellsU f n ++ [] = cellsU _ (n + 0)
    rw [List.append_nil, Nat.add_zero]
    exact List.map_congr_left fun i hi => by dsimp only; rw [if_pos (List.mem_range.1 hi)]
  | succ k ih =>
    rw [cellsU_succ, ← List.append_assoc, ih, Nat.add_succ, cellsU_succ]
    rw [if_neg (by omega), show n + k - n = k by omega]

theorem rowat_news {w : World} {b o L : Nat} {f : Nat → Int} (h : RowAt w (some ⟨b, o, none⟩) L f) : ∀ j u, (cellsU f L)[j]? = some u → w.cell? ((⟨b, o, none⟩ : Addr).add j) = some u := by
  intro j u hu
  obtain ⟨hj, rfl⟩ := cellsU_get f L j u hu
  obtain ⟨b', o', e, hc⟩ := h.at hj
  cases e
  rw [Addr.add_lit]; exact hc j hj

theorem grown_drew {X y : World} {r : Option Nat} (h : X.drew.grownBy y r) : X.grownBy y r := ⟨h.os, h.tape, h.output, h.size, h.block⟩

/-- a row of the call's own, appended to: what lay below its base stays -/
theorem bw_grow {W X y : World} {base : Nat} {e : TypeId} {size n : Nat} {v : Value} {xs : List Value} (h : X.grownBy y v.ownBlock) (b : Below base W X) (hX : base ≤ X.heap.size) (hown : X.ownsRow base e size v n xs) : Below base W y := b.grown h hX (own_ge hown)

theorem wide_fm (n : Nat) (Z : Nat → Nat → Int) (i j : Nat) : fm (wideZ n Z oneZ) i j = if j < n then fm Z i j else La.one i (j - n) := by
  unfold fm wideZ
  by_cases h : j < n
  · rw [if_pos h, if_pos h]
  · rw [if_neg h, if_neg h]
    unfold oneZ La.one
    split <;> rfl

theorem inv_none_of {n r : Nat} {Z Z9 : Nat → Nat → Int} {p : Nat → Nat} (h : StepInv n (n + n) n r (wideZ n Z oneZ) Z9 p) (hr : r < n) : ¬ ∃ B, ∀ i j, i < n → j < n → La.mm n (fm Z) B i j = La.one i j := by
  rintro ⟨B, hB⟩
  have h1 : La.IsRank n n (fm (wideZ n Z oneZ)) r := La.Stepped.rank (h.1.less (by omega)) h.2
  have h2 : La.IsRank n n (fm (wideZ n Z oneZ)) n := rank_congr (La.rank_of_inv hB) (fun i j _ hj => by rw [wide_fm, if_pos hj])
  have := La.rank_unique h1 h2
  omega

theorem inv_some_of {n : Nat} {Z Z9 : Nat → Nat → Int} {p : Nat → Nat} (h : StepInv n (n + n) n n (wideZ n Z oneZ) Z9 p) : ∀ i j, i < n → j < n → La.mm n (fm Z) (fm (fun i j => Z9 i (n + j))) i j = La.one i j := by
  have e : La.RowEq n (n + n) (fun i j => if j < n then fm Z i j else La.one i (j - n)) (fm Z9) := (La.RowEq.of_eq (fun i j _ _ => wide_fm n Z i j)).trans h.1
  exact La.Stepped.inverse e h.2

/-- an outer row of the call's own over rows in memory -/
theorem mat_of_own {W : World} {base n : Nat} {v : Value} {R : Nat → Option Addr} {L C : Nat → Nat} {Z : Nat → Nat → Int} (h : W.ownsRow base 37 1 v n (rowsU R L C n)) (hr : ∀ r, r < n → RowAt W (R r) (L r) (Z r)) :
    ∃ A cap, v = .slice A n cap ∧ MatAt W A n R L C Z := by
  obtain ⟨_, h2⟩ := h
  rcases h2 with ⟨rfl, rfl⟩ | ⟨g, cap, cur, rfl, hb, hg, h3, h4, h5, h6⟩
  · exact ⟨_, _, rfl, Or.inl rfl, hr⟩
  · refine ⟨_, _, rfl, Or.inr ⟨g, 0, rfl, fun r hr' => ?_⟩, hr⟩
    rw [Nat.zero_add, cell_of_row W g r cur _ _ hg]
    have e : (cur.toList.take (n * 1))[r]? = (rowsU R L C n)[r]? := by rw [h6]
    rw [Nat.mul_one, List.getElem?_take, if_pos hr'] at e
    rw [← Array.getElem?_toList, e]
    unfold rowsU
    rw [List.getElem?_map, List.getElem?_range hr']; rfl

/-- a row from some place on -/
theorem RowAt.from_ {w : World} {b o L s : Nat} {f : Nat → Int} (h : RowAt w (some ⟨b, o, none⟩) (s + L) f) : RowAt w (some ⟨b, o + s, none⟩) L (fun i => f (s + i)) := by
  refine ⟨?_, fun i => h.2 _⟩
  rcases Nat.eq_zero_or_pos L with h0 | h0
  · exact Or.inl h0
  · obtain ⟨b', o', e, hc⟩ := h.at (k := 0) (by omega)
    cases e
    exact Or.inr ⟨b, o + s, rfl, fun i hi => by rw [Nat.add_assoc]; exact hc (s + i) (by omega)⟩

end Go.Proofs.Ytbhbdhkifkmkbaa

/- The document's own list of the first numbers, and what it finds wrong with k and n and with rows. -/
namespace Go.Proofs.Ytbhbdhkifkmkbaa
open Go.RowKit

theorem info_int : (Try.prog.info? 3).map (fun i => (i.zero, i.size, i.bytes)) = some (some (.int .i64 0), 1, 8) := by kernel_rfl

/-- the cells of a row of whole numbers -/
def intsU (f : Nat → Int) (k : Nat) : List Value := (List.range k).map fun i => .int .i64 (f i)
theorem intsU_succ (f : Nat → Int) (k : Nat) : intsU f (k + 1) = intsU f k ++ [.int .i64 (f k)] := by
  unfold intsU; rw [List.range_succ, List.map_append]; rfl

theorem ints_of_own {W : World} {base L : Nat} {v : Value} {f : Nat → Int} (h : W.ownsRow base 3 1 v L (intsU f L)) :
    ∃ A cap, v = .slice A L cap ∧ IntsAt W A L f ∧ (A = none → cap = 0) ∧ ∀ a, A = some a → base ≤ a.block ∧ a.block < W.heap.size := by
  obtain ⟨_, h⟩ := h
  rcases h with ⟨rfl, rfl⟩ | ⟨g, cap, cur, rfl, hb, hg, h1, h2, h3, h4⟩
  · exact ⟨none, 0, rfl, Or.inl rfl, fun _ => rfl, fun a ha => by cases ha⟩
  · refine ⟨_, cap, rfl, Or.inr ⟨g, 0, rfl, fun i hi => ?_⟩, fun e => (by cases e), fun a ha => by cases ha; exact ⟨hb, (Array.getElem?_eq_some_iff.1 hg).1⟩⟩
    rw [Nat.zero_add, cell_of_row W g i cur _ _ hg]
    have e : (cur.toList.take (L * 1))[i]? = (intsU f L)[i]? := by rw [h4]
    rw [Nat.mul_one, List.getElem?_take, if_pos hi] at e
    rw [← Array.getElem?_toList, e]
    unfold intsU
    rw [List.getElem?_map, List.getElem?_range hi]; rfl

set_option maxHeartbeats 1000000 in
theorem rfirst_any (k : Nat) (hk : k ≤ 1048576) (w : World) :
    Calls Try.prog 31 #[.int .i64 (k : Int)] w fun e w' => ∃ A cap, e = .returned (.slice A k cap) ∧ IntsAt w' A k (fun i => (i : Int)) ∧ Bw w w' := by
  obtain ⟨i0, hi0, hz0, hz1, hz2⟩ := info_parts info_int
  go_enter Try.func31, Try.ntmps31
  go_wp2
  go_loopw [3, 4] (fun v i wr => ∃ t : Nat, t ≤ k ∧ i = .int .i64 t ∧ wr.ownsRow w.heap.size 3 1 v t (intsU (fun i => (i : Int)) t) ∧ Bw w wr) (fun _ i _ => k - (intOf i).toNat)
  case atStart => exact ⟨0, Nat.zero_le _, rfl, World.ownsRow_nil _ _ _ _, Bw.refl _⟩
  case round =>
    obtain ⟨t, ht, rfl, hown, hw⟩ := hrel
    by_cases hlt : t < k
    · have hmx : t + 1 ≤ maxLen := by unfold maxLen; omega
      have hsz := hw.size
      have ha : Bw w (wr.alloc (.cells #[.int .i64 (t : Int)] 3)) := hw.alloc hsz _
      go_wp2_with (at_builtin; refine wpList_append_lies _ (by rfl) (.tmp 10) (.tmp 12) _ (by rfl) w.heap.size 3 i0 _ 1 8 Try.underlying33 hi0 hz0 hz1 hz2 rfl (by omega) _ _ _ (by rfl) (hown.alloc _) ⟨wr.heap.size, 0, none⟩ 1 1 [.int .i64 (t : Int)] (by rfl) (by rfl) (World.news_of_block (cs := #[.int .i64 (t : Int)]) (t := 3) (fr := (0, 0)) (heap_alloc_new wr _)) (by simp [Value.oneCell']) (by omega) hmx (by omega) (by simp; omega) (wr.heap.size + 1) (by simp) ?_; intro gg cc w2 hown2 hgrow2 hat hlt')
      have hb2 : Bw w w2 := bw_grow hgrow2 ha ha.size (hown.alloc _)
      rw [← intsU_succ (fun i => (i : Int)) t] at hown2
      go_roundw
      case rel => exact ⟨t + 1, by omega, by go_num, hown2, hb2⟩
      case measure => simp [intOf]; omega
    · have ek : k = t := by omega
      subst ek
      obtain ⟨A, cap, rfl, hi, -, -⟩ := ints_of_own hown
      go_wp2
      go_ret
      exact ⟨A, cap, rfl, hi, hw⟩

/-- what is wrong with k and n -/
def KnWrong (k n x : Int) : Prop := (x = 1 ∧ (k < 1 ∨ n < k)) ∨ (x = 2 ∧ 1 ≤ k ∧ k ≤ n ∧ 32 < n) ∨ (x = 0 ∧ 1 ≤ k ∧ k ≤ n ∧ n ≤ 32)
theorem KnWrong.unique {k n x y : Int} (h : KnWrong k n x) (h' : KnWrong k n y) : x = y := by unfold KnWrong at h h'; omega

theorem rkn_any (k n : Int) (w : World) : Calls Try.prog 29 #[.int .i64 k, .int .i64 n] w fun e w' => ∃ x, e = .returned (.int .i64 x) ∧ KnWrong k n x ∧ w' = w := by
  rcases (show k < 1 ∨ (¬ k < 1 ∧ n < k) ∨ (¬ k < 1 ∧ ¬ n < k ∧ 32 < n) ∨ (¬ k < 1 ∧ ¬ n < k ∧ ¬ 32 < n) by omega) with h | ⟨h, h2⟩ | ⟨h, h2, h3⟩ | ⟨h, h2, h3⟩
  · go_enter Try.func29, Try.ntmps29
    go_wp2
    go_ret
    exact ⟨1, rfl, Or.inl ⟨rfl, Or.inl h⟩, rfl⟩
  · go_enter Try.func29, Try.ntmps29
    go_wp2
    go_ret
    exact ⟨1, rfl, Or.inl ⟨rfl, Or.inr h2⟩, rfl⟩
  · go_enter Try.func29, Try.ntmps29
    go_wp2
    go_ret
    exact ⟨2, rfl, Or.inr (Or.inl ⟨rfl, by omega, by omega, h3⟩), rfl⟩
  · go_enter Try.func29, Try.ntmps29
    go_wp2
    go_ret
    exact ⟨0, rfl, Or.inr (Or.inr ⟨rfl, by omega, by omega, by omega⟩), rfl⟩

/-- what is wrong with rows -/
def RowsWrong (n : Nat) (L : Nat → Nat) (e : Int) : Prop :=
  (e = 2 ∧ ∃ r, r < n ∧ 131072 < L r) ∨ (e = 6 ∧ (∀ r, r < n → L r ≤ 131072) ∧ ∃ r, r < n ∧ L r ≠ L 0) ∨ (e = 0 ∧ (∀ r, r < n → L r ≤ 131072) ∧ ∀ r, r < n → L r = L 0)
theorem RowsWrong.unique {n : Nat} {L : Nat → Nat} {x y : Int} (h : RowsWrong n L x) (k : RowsWrong n L y) : x = y := by
  rcases h with ⟨rfl, r, hr, h⟩ | ⟨rfl, h2, r, hr, hne⟩ | ⟨rfl, h2, h3⟩ <;> rcases k with ⟨rfl, s, hs, k⟩ | ⟨rfl, k2, s, hs, kne⟩ | ⟨rfl, k2, k3⟩
  · rfl
  · have := k2 r hr; omega
  · have := k2 r hr; omega
  · have := h2 s hs; omega
  · rfl
  · exact absurd (k3 r hr) hne
  · have := h2 s hs; omega
  · exact absurd (h3 s hs) kne
  · rfl

theorem rrows_any (A : Option Addr) (n cap : Nat) (R : Nat → Option Addr) (L C : Nat → Nat) (Z : Nat → Nat → Int) (hn : n ≤ 140737488355328) (w : World) (h : MatAt w A n R L C Z) :
    Calls Try.prog 33 #[.slice A n cap] w fun e w' => ∃ x, e = .returned (.int .i64 x) ∧ RowsWrong n L x ∧ Bw w w' := by
  go_enter Try.func33, Try.ntmps33
  go_wp2
  go_loop [3] (fun i => ∃ k : Nat, k ≤ n ∧ i = .int .i64 k ∧ Hid (∀ r, r < k → L r ≤ 131072)) (fun i => n - (intOf i).toNat)
  case atStart => exact ⟨0, Nat.zero_le _, rfl, fun r hr => by omega⟩
  case round =>
    obtain ⟨k, hk, rfl, hno⟩ := hrel
    by_cases hlt : k < n
    · obtain ⟨b, off, rfl, hc⟩ := h.at hlt
      have h1 := hc k hlt
      clear hc
      by_cases hl : 131072 < L k
      · go_wp2
        go_ret
        exact ⟨2, rfl, Or.inl ⟨rfl, k, hlt, hl⟩, Bw.refl _⟩
      · go_wp2
        go_round
        case rel => exact ⟨k + 1, by omega, by go_num, fun r hr => by by_cases e : r = k; (subst e; omega); exact hno r (by omega)⟩
        case measure => simp [intOf]; omega
    · have ek : n = k := by omega
      subst ek
      clear hlt hk
      go_wp2
      go_loopw [4] (fun i wr => ∃ k : Nat, k ≤ n ∧ i = .int .i64 k ∧ Hid (∀ r, r < k → L r = L 0) ∧ Bw w wr) (fun i _ => n - (intOf i).toNat)
      case atStart => exact ⟨0, Nat.zero_le _, rfl, (fun r hr => by omega), Bw.refl _⟩
      case round =>
        obtain ⟨k, hk, rfl, hsame, hw⟩ := hrel
        by_cases hlt : k < n
        · obtain ⟨b, off, rfl, hc⟩ := (h.keep hw).at hlt
          have h1 := hc k hlt
          have h2 := hc 0 (by omega)
          rw [Nat.add_zero] at h2
          have hk0 : (0 : Int) ≤ (k : Int) := Int.natCast_nonneg _
          have hk1 : (k : Int) < (n : Int) := by omega
          have hk2 : (0 : Int) < (n : Int) := by omega
          clear hc
          by_cases hl : L k = L 0
          · have hl2 : ((L k : Int) != (L 0 : Int)) = false := by rw [hl]; simp
            go_wp2
            go_quiet (fail)
            go_wp2
            go_roundw
            case rel => exact ⟨k + 1, by omega, by go_num, (fun r hr => by by_cases e : r = k; (subst e; exact hl); exact hsame r (by omega)), hw.trans (Bw.drewN _ _)⟩
            case measure => simp [intOf]; omega
          · have hl2 : ((L k : Int) != (L 0 : Int)) = true := by simp; omega
            go_wp2
            go_quiet (fail)
            go_wp2
            go_ret
            exact ⟨6, rfl, Or.inr (Or.inl ⟨rfl, hno.out, k, hlt, hl⟩), hw.trans (Bw.drewN _ _)⟩
        · have ek : n = k := by omega
          subst ek
          go_wp2
          go_ret
          exact ⟨0, rfl, Or.inr (Or.inr ⟨rfl, hno.out, hsame.out⟩), hw⟩

end Go.Proofs.Ytbhbdhkifkmkbaa
