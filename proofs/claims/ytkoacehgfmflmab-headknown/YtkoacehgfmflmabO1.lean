/- Numbers in a head's fields: the mathematics. -/
import Derived.Test.YtkoacehgfmflmabK4
namespace Go.Proofs.Ytkoacehgfmflmab
open Go.RowKit Go.Deep
set_option linter.unusedVariables false
set_option linter.unusedSimpArgs false

namespace Oct
/-- what k bytes tell, the greatest one first -/
def num (f : Nat → Int) : Nat → Int
  | 0 => 0
  | k + 1 => num f k * 256 + f k
theorem num_nonneg {f : Nat → Int} (hf : ∀ i, 0 ≤ f i ∧ f i < 256) : ∀ k, 0 ≤ num f k
  | 0 => Int.le_refl 0
  | k + 1 => by have := num_nonneg hf k; have := hf k; unfold num; omega
theorem num_mono {f : Nat → Int} (hf : ∀ i, 0 ≤ f i ∧ f i < 256) (j : Nat) : ∀ k, j ≤ k → num f j ≤ num f k
  | 0, h => by rw [show j = 0 by omega]; exact Int.le_refl _
  | k + 1, h => by
    rcases Nat.lt_or_ge j (k + 1) with h1 | h1
    · have := num_mono hf j k (by omega)
      have := num_nonneg hf k
      have := hf k
      show num f j ≤ num f k * 256 + f k
      omega
    · rw [show j = k + 1 by omega]; exact Int.le_refl _
/-- what k octal digits from p on tell -/
def oct (f : Nat → Int) (p : Nat) : Nat → Int
  | 0 => 0
  | k + 1 => 8 * oct f p k + (f (p + k) - 48)
def Digit (x : Int) : Prop := 48 ≤ x ∧ x ≤ 55
def Blank (x : Int) : Prop := x = 32
def Tail (x : Int) : Prop := x = 0 ∨ x = 32
/-- from p on the bytes up to q are such, and no further -/
structure Run (P : Int → Prop) (f : Nat → Int) (L p q : Nat) : Prop where
  le : p ≤ q
  top : q ≤ L
  all : ∀ i, p ≤ i → i < q → P (f i)
  stop : q < L → ¬ P (f q)
theorem run_unique {P : Int → Prop} {f : Nat → Int} {L p q r : Nat} (h : Run P f L p q) (k : Run P f L p r) : q = r := by
  rcases Nat.lt_trichotomy q r with h1 | h1 | h1
  · exact absurd (k.all q h.le h1) (h.stop (Nat.lt_of_lt_of_le h1 k.top))
  · exact h1
  · exact absurd (h.all r k.le h1) (k.stop (Nat.lt_of_lt_of_le h1 h.top))
theorem oct_bound {f : Nat → Int} {p : Nat} : ∀ k, (∀ i, i < k → Digit (f (p + i))) → 0 ≤ oct f p k ∧ oct f p k < 8 ^ k
  | 0, _ => by simp [oct]
  | k + 1, h => by
    have h1 := oct_bound k (fun i hi => h i (by omega))
    have h2 := h k (by omega)
    unfold Digit at h2
    rw [Int.pow_succ]
    show 0 ≤ 8 * oct f p k + (f (p + k) - 48) ∧ 8 * oct f p k + (f (p + k) - 48) < 8 ^ k * 8
    omega
/-- what the reading of a loose field answers: the number, the place, the error -/
structure Says (L : Nat) (f : Nat → Int) (n at_ e : Int) : Prop where
  arg : ¬ (2 ≤ L ∧ L ≤ 12) → n = 0 ∧ at_ = 0 ∧ e = 1
  wide : 2 ≤ L → L ≤ 12 → f 0 = 128 → num (fun i => f (1 + i)) (L - 1) ≤ 9223372036854775807 → n = num (fun i => f (1 + i)) (L - 1) ∧ at_ = 0 ∧ e = 0
  long : 2 ≤ L → L ≤ 12 → f 0 = 128 → ¬ num (fun i => f (1 + i)) (L - 1) ≤ 9223372036854775807 → n = 0 ∧ at_ = 0 ∧ e = 2
  loose : 2 ≤ L → L ≤ 12 → ¬ f 0 = 128 → ∀ p q r, Run Blank f L 0 p → Run Digit f L p q → Run Tail f L q r → (r = L → n = oct f p (q - p) ∧ at_ = 0 ∧ e = 0) ∧ (r < L → n = 0 ∧ at_ = (r : Int) ∧ e = 70)
theorem run_ex (P : Int → Prop) (f : Nat → Int) (L p : Nat) (hp : p ≤ L) : ∃ q, Run P f L p q := by
  obtain ⟨d, hd⟩ : ∃ d, d = L - p := ⟨_, rfl⟩
  induction d generalizing p with
  | zero => exact ⟨p, Nat.le_refl _, hp, fun i h1 h2 => by omega, fun h => by omega⟩
  | succ d ih =>
    by_cases h : P (f p)
    · obtain ⟨q, hq⟩ := ih (p + 1) (by omega) (by omega)
      refine ⟨q, by have := hq.le; omega, hq.top, fun i h1 h2 => ?_, hq.stop⟩
      rcases Nat.lt_or_ge p i with h3 | h3
      · exact hq.all i (by omega) h2
      · rw [show i = p by omega]; exact h
    · exact ⟨p, Nat.le_refl _, hp, fun i h1 h2 => by omega, fun _ => h⟩
theorem says_unique {L : Nat} {f : Nat → Int} {n a e n' a' e' : Int} (h : Says L f n a e) (k : Says L f n' a' e') : n = n' ∧ a = a' ∧ e = e' := by
  by_cases h1 : 2 ≤ L ∧ L ≤ 12
  · by_cases h2 : f 0 = 128
    · by_cases h3 : num (fun i => f (1 + i)) (L - 1) ≤ 9223372036854775807
      · obtain ⟨rfl, rfl, rfl⟩ := h.wide h1.1 h1.2 h2 h3
        obtain ⟨rfl, rfl, rfl⟩ := k.wide h1.1 h1.2 h2 h3
        exact ⟨rfl, rfl, rfl⟩
      · obtain ⟨rfl, rfl, rfl⟩ := h.long h1.1 h1.2 h2 h3
        obtain ⟨rfl, rfl, rfl⟩ := k.long h1.1 h1.2 h2 h3
        exact ⟨rfl, rfl, rfl⟩
    · obtain ⟨p, hp⟩ := run_ex Blank f L 0 (Nat.zero_le _)
      obtain ⟨q, hq⟩ := run_ex Digit f L p hp.top
      obtain ⟨r, hr⟩ := run_ex Tail f L q hq.top
      have a1 := h.loose h1.1 h1.2 h2 p q r hp hq hr
      have b1 := k.loose h1.1 h1.2 h2 p q r hp hq hr
      rcases Nat.lt_or_ge r L with h3 | h3
      · obtain ⟨rfl, rfl, rfl⟩ := a1.2 h3
        obtain ⟨rfl, rfl, rfl⟩ := b1.2 h3
        exact ⟨rfl, rfl, rfl⟩
      · have h4 : r = L := by have := hr.top; omega
        obtain ⟨rfl, rfl, rfl⟩ := a1.1 h4
        obtain ⟨rfl, rfl, rfl⟩ := b1.1 h4
        exact ⟨rfl, rfl, rfl⟩
  · obtain ⟨rfl, rfl, rfl⟩ := h.arg h1
    obtain ⟨rfl, rfl, rfl⟩ := k.arg h1
    exact ⟨rfl, rfl, rfl⟩
end Oct
end Go.Proofs.Ytkoacehgfmflmab
