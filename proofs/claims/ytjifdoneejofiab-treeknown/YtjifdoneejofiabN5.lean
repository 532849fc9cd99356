/- The order of texts; the document's own Compare and Up. -/
import Derived.Test.YtjifdoneejofiabN4
import Derived.Laws.Cover1
import Derived.BigRegion
namespace Go.Proofs.Ytjifdoneejofiab
open Go.RowKit Go.Deep
set_option linter.unusedVariables false
set_option linter.unusedSimpArgs false

namespace Nm
abbrev less (a b : B) : Bool := Op.bytesLess a b
theorem less_nil (a : B) : less a [] = false := by cases a <;> rfl
theorem less_cons (a b : UInt8) (x y : B) : less (a :: x) (b :: y) = (decide (a < b) || (a == b && less x y)) := rfl
theorem less_irr : ∀ a : B, less a a = false
  | [] => rfl
  | c :: a => by
    rw [less_cons, less_irr a]
    simp [UInt8.lt_irrefl]
theorem less_tot : ∀ a b : B, less a b = false → less b a = false → a = b
  | [], [], _, _ => rfl
  | [], c :: b, h, _ => by simp [less, Op.bytesLess] at h
  | c :: a, [], _, h => by simp [less, Op.bytesLess] at h
  | c :: a, d :: b, h, k => by
    rw [less_cons] at h k
    simp only [Bool.or_eq_false_iff, decide_eq_false_iff_not, Bool.and_eq_false_imp, beq_iff_eq] at h k
    have e : c = d := UInt8.le_antisymm (UInt8.not_lt.1 k.1) (UInt8.not_lt.1 h.1)
    subst e
    rw [less_tot a b (h.2 rfl) (k.2 rfl)]
theorem less_trans : ∀ a b c : B, less a b = true → less b c = true → less a c = true
  | _, _, [], _, h => by rw [less_nil] at h; cases h
  | _, [], _ :: _, h, _ => by rw [less_nil] at h; cases h
  | [], _ :: _, _ :: _, _, _ => rfl
  | x :: a, y :: b, z :: c, h, k => by
    rw [less_cons] at h k ⊢
    simp only [Bool.or_eq_true, decide_eq_true_eq, Bool.and_eq_true, beq_iff_eq] at h k ⊢
    rcases h with h | ⟨rfl, h⟩
    · rcases k with k | ⟨rfl, k⟩
      · exact Or.inl (UInt8.lt_trans h k)
      · exact Or.inl h
    · rcases k with k | ⟨rfl, k⟩
      · exact Or.inl k
      · exact Or.inr ⟨rfl, less_trans a b c h k⟩
theorem less_asym {a b : B} (h : less a b = true) : less b a = false := by
  cases k : less b a with
  | false => rfl
  | true => have := less_trans a b a h k; rw [less_irr] at this; cases this
/-- the order of lists of pieces -/
def cmpP : List B → List B → Int
  | [], [] => 0
  | [], _ :: _ => -1
  | _ :: _, [] => 1
  | x :: xs, y :: ys => if less x y = true then -1 else if less y x = true then 1 else cmpP xs ys
/-- the order of texts -/
def cmp (a b : B) : Int := cmpP (pieces a) (pieces b)
theorem cmpP_less : ∀ (xs ys : List B) (k : Nat) (hx : k < xs.length) (hy : k < ys.length), (∀ i (h1 : i < xs.length) (h2 : i < ys.length), i < k → xs[i] = ys[i]) → less xs[k] ys[k] = true → cmpP xs ys = -1
  | x :: xs, y :: ys, 0, hx, hy, _, h => by unfold cmpP; rw [if_pos (by simpa using h)]
  | x :: xs, y :: ys, k + 1, hx, hy, ha, h => by
    have e : x = y := ha 0 (by simp) (by simp) (by omega)
    subst e
    unfold cmpP
    rw [less_irr, if_neg (by simp), if_neg (by simp)]
    exact cmpP_less xs ys k (by simpa using hx) (by simpa using hy) (fun i h1 h2 hk => by have := ha (i + 1) (by simpa using h1) (by simpa using h2) (by omega); simpa using this) (by simpa using h)
theorem cmpP_more : ∀ (xs ys : List B) (k : Nat) (hx : k < xs.length) (hy : k < ys.length), (∀ i (h1 : i < xs.length) (h2 : i < ys.length), i < k → xs[i] = ys[i]) → less ys[k] xs[k] = true → cmpP xs ys = 1
  | x :: xs, y :: ys, 0, hx, hy, _, h => by
    have h' : less y x = true := by simpa using h
    unfold cmpP; rw [less_asym h', if_neg (by simp), if_pos h']
  | x :: xs, y :: ys, k + 1, hx, hy, ha, h => by
    have e : x = y := ha 0 (by simp) (by simp) (by omega)
    subst e
    unfold cmpP
    rw [less_irr, if_neg (by simp), if_neg (by simp)]
    exact cmpP_more xs ys k (by simpa using hx) (by simpa using hy) (fun i h1 h2 hk => by have := ha (i + 1) (by simpa using h1) (by simpa using h2) (by omega); simpa using this) (by simpa using h)
theorem cmpP_end : ∀ (xs ys : List B), (∀ i (h1 : i < xs.length) (h2 : i < ys.length), xs[i] = ys[i]) → cmpP xs ys = if xs.length < ys.length then -1 else if ys.length < xs.length then 1 else 0
  | [], [], _ => rfl
  | [], _ :: _, _ => by simp [cmpP]
  | _ :: _, [], _ => by simp [cmpP]
  | x :: xs, y :: ys, ha => by
    have e : x = y := ha 0 (by simp) (by simp)
    subst e
    unfold cmpP
    rw [less_irr, if_neg (by simp), if_neg (by simp), cmpP_end xs ys (fun i h1 h2 => by have := ha (i + 1) (by simpa using h1) (by simpa using h2); simpa using this)]
    simp only [List.length_cons, Nat.add_lt_add_iff_right]
end Nm

theorem drewN_add8 (w : World) (q : Nat) : ∀ n, (w.drewN q).drewN n = w.drewN (q + n)
  | 0 => rfl
  | n + 1 => by show ((w.drewN q).drewN n).drew = (w.drewN (q + n)).drew; rw [drewN_add8 w q n]
namespace Nm
/-- what stands above a text -/
def up (l : B) : B := joined (pieces l).dropLast
theorem joined_append : ∀ (ps : List B) (p : B), ps ≠ [] → joined (ps ++ [p]) = joined ps ++ 47 :: p
  | [], p, h => absurd rfl h
  | [q], p, _ => rfl
  | q :: r :: t, p, _ => by
    show q ++ 47 :: joined ((r :: t) ++ [p]) = (q ++ 47 :: joined (r :: t)) ++ 47 :: p
    rw [joined_append (r :: t) p (by simp)]; simp
theorem up_of {l : B} {ps : List B} {p : B} (h : pieces l = ps ++ [p]) : up l = if tot ps = 0 then [] else l.take (tot ps - 1) := by
  unfold up
  rw [h, List.dropLast_concat]
  by_cases hp : ps = []
  · subst hp; rfl
  · have e := joined_append ps p hp
    rw [← h, joined_pieces] at e
    have ht := tot_joined ps hp
    rw [if_neg (by omega), ht, Nat.add_sub_cancel, e, List.take_left]
end Nm
end Go.Proofs.Ytjifdoneejofiab
