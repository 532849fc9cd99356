/- Forms rise as their numbers; the contract of the statements' own ahead. -/
import Derived.Test.YtkoacehgfmflmabV5
namespace Go.Proofs.Ytkoacehgfmflmab
open Go.RowKit Go.Deep
set_option linter.unusedVariables false
set_option linter.unusedSimpArgs false

namespace Oct
/-- bytes stand ahead of others as many, at the first place where they differ -/
def Ahead (W : Nat) (f g : Nat → Int) : Prop := ∃ i, i < W ∧ f i < g i ∧ ∀ j, j < i → f j = g j
theorem ahead_irr {W : Nat} {f : Nat → Int} (h : Ahead W f f) : False := by obtain ⟨i, _, h, _⟩ := h; omega
theorem ahead_asym {W : Nat} {f g : Nat → Int} (h : Ahead W f g) (k : Ahead W g f) : False := by
  obtain ⟨i, _, h1, h2⟩ := h
  obtain ⟨j, _, k1, k2⟩ := k
  rcases Nat.lt_trichotomy i j with h | h | h
  · have := k2 i h; omega
  · subst h; omega
  · have := h2 j h; omega
/-- the digits of two numbers in k places of units B, the highest first -/
theorem digits_ahead (B k n m : Nat) (hB : 0 < B) (hn : n < B ^ k) (hm : m < B ^ k) : ∀ j, j ≤ k → n / B ^ (k - j) < m / B ^ (k - j) →
    ∃ i, i < j ∧ n / B ^ (k - 1 - i) % B < m / B ^ (k - 1 - i) % B ∧ ∀ l, l < i → n / B ^ (k - 1 - l) % B = m / B ^ (k - 1 - l) % B
  | 0, _, h => by rw [Nat.sub_zero, Nat.div_eq_of_lt hn, Nat.div_eq_of_lt hm] at h; omega
  | j + 1, hj, h => by
    have en : n / B ^ (k - j) = n / B ^ (k - (j + 1)) / B := by rw [Nat.div_div_eq_div_mul, ← Nat.pow_succ, show (k - (j + 1)).succ = k - j by omega]
    have em : m / B ^ (k - j) = m / B ^ (k - (j + 1)) / B := by rw [Nat.div_div_eq_div_mul, ← Nat.pow_succ, show (k - (j + 1)).succ = k - j by omega]
    by_cases hlt : n / B ^ (k - j) < m / B ^ (k - j)
    · obtain ⟨i, h1, h2, h3⟩ := digits_ahead B k n m hB hn hm j (by omega) hlt
      exact ⟨i, by omega, h2, h3⟩
    · have hle : n / B ^ (k - (j + 1)) / B ≤ m / B ^ (k - (j + 1)) / B := Nat.div_le_div_right (Nat.le_of_lt h)
      have heq : n / B ^ (k - j) = m / B ^ (k - j) := by rw [en, em] at hlt ⊢; omega
      refine ⟨j, by omega, ?_, fun l hl => ?_⟩
      · rw [show k - 1 - j = k - (j + 1) by omega]
        rw [en, em] at heq
        generalize n / B ^ (k - (j + 1)) = a at *
        generalize m / B ^ (k - (j + 1)) = b at *
        have ha := Nat.div_add_mod a B
        have hb := Nat.div_add_mod b B
        rw [heq] at ha
        omega
      · have e : ∀ x : Nat, x / B ^ (k - 1 - l) = x / B ^ (k - j) / B ^ (j - 1 - l) := fun x => by rw [Nat.div_div_eq_div_mul, ← Nat.pow_add, show k - j + (j - 1 - l) = k - 1 - l by omega]
        rw [e n, e m, heq]
theorem form_plain {n W i : Nat} (hn : n < 8 ^ (W - 1)) (hi : i < W - 1) : formF n W i = ((48 + n / 8 ^ (W - 1 - 1 - i) % 8 : Nat) : Int) := by
  unfold formF plainF; rw [if_pos hn, if_pos (by omega), show W - 2 - i = W - 1 - 1 - i by omega]
theorem form_wide {n W i : Nat} (hn : ¬ n < 8 ^ (W - 1)) (hi : i < W - 1) : formF n W (1 + i) = ((n / 256 ^ (W - 1 - 1 - i) % 256 : Nat) : Int) := by
  unfold formF wideF; rw [if_neg hn, if_neg (by omega), show W - 1 - (1 + i) = W - 1 - 1 - i by omega]
theorem form_wide0 {n W : Nat} (hn : ¬ n < 8 ^ (W - 1)) : formF n W 0 = 128 := by
  unfold formF wideF; rw [if_neg hn, if_pos rfl]; rfl
theorem form_ahead {n m W : Nat} (h2 : 2 ≤ W) (hn : n < 8 ^ (W - 1) ∨ n < 256 ^ (W - 1)) (hm : m < 8 ^ (W - 1) ∨ m < 256 ^ (W - 1)) (h : n < m) : Ahead W (formF n W) (formF m W) := by
  by_cases hm8 : m < 8 ^ (W - 1)
  · have hn8 : n < 8 ^ (W - 1) := by omega
    obtain ⟨i, h1, h3, h4⟩ := digits_ahead 8 (W - 1) n m (by decide) hn8 hm8 (W - 1) (Nat.le_refl _) (by rw [Nat.sub_self, Nat.pow_zero, Nat.div_one, Nat.div_one]; exact h)
    refine ⟨i, by omega, ?_, fun j hj => ?_⟩
    · rw [form_plain hn8 h1, form_plain hm8 h1]; omega
    · rw [form_plain hn8 (by omega), form_plain hm8 (by omega), h4 j hj]
  · by_cases hn8 : n < 8 ^ (W - 1)
    · refine ⟨0, by omega, ?_, fun j hj => by omega⟩
      rw [form_plain hn8 (by omega), form_wide0 hm8]; omega
    · have hn2 := hn.resolve_left hn8
      have hm2 := hm.resolve_left hm8
      obtain ⟨i, h1, h3, h4⟩ := digits_ahead 256 (W - 1) n m (by decide) hn2 hm2 (W - 1) (Nat.le_refl _) (by rw [Nat.sub_self, Nat.pow_zero, Nat.div_one, Nat.div_one]; exact h)
      refine ⟨1 + i, by omega, ?_, fun j hj => ?_⟩
      · rw [form_wide hn8 h1, form_wide hm8 h1]; omega
      · rcases j with _ | j
        · rw [form_wide0 hn8, form_wide0 hm8]
        · rw [Nat.add_comm j 1, form_wide hn8 (by omega), form_wide hm8 (by omega), h4 j (by omega)]
/-- a form is ahead of another just if its number is less -/
theorem form_order {n m W : Nat} (h2 : 2 ≤ W) (hn : n < 8 ^ (W - 1) ∨ n < 256 ^ (W - 1)) (hm : m < 8 ^ (W - 1) ∨ m < 256 ^ (W - 1)) : Ahead W (formF n W) (formF m W) ↔ n < m := by
  refine ⟨fun h => ?_, form_ahead h2 hn hm⟩
  rcases Nat.lt_trichotomy n m with k | k | k
  · exact k
  · subst k; exact (ahead_irr h).elim
  · exact (ahead_asym h (form_ahead h2 hm hn k)).elim
end Oct

end Go.Proofs.Ytkoacehgfmflmab
