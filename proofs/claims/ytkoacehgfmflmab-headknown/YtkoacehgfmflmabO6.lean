/- Forms are read as their numbers; the document's own Put, whatever the arguments. -/
import Derived.Test.YtkoacehgfmflmabO5
import Derived.Test.YtkoacehgfmflmabO3
namespace Go.Proofs.Ytkoacehgfmflmab
open Go.RowKit Go.Deep
set_option linter.unusedVariables false
set_option linter.unusedSimpArgs false

namespace Oct
theorem oct_plain {n W : Nat} (h1 : 2 ≤ W) (hn : n < 8 ^ (W - 1)) : ∀ k, k + 1 ≤ W → oct (formF n W) 0 k = ((n / 8 ^ (W - 1 - k) : Nat) : Int)
  | 0, _ => by rw [Nat.sub_zero, Nat.div_eq_of_lt hn]; rfl
  | k + 1, hk => by
    have ih := oct_plain h1 hn k (by omega)
    have e : formF n W (0 + k) = ((48 + n / 8 ^ (W - 2 - k) % 8 : Nat) : Int) := by
      unfold formF plainF; rw [if_pos hn, Nat.zero_add, if_pos (by omega)]
    show 8 * oct (formF n W) 0 k + (formF n W (0 + k) - 48) = _
    rw [ih, e, show W - 1 - (k + 1) = W - 2 - k by omega, show W - 1 - k = (W - 2 - k) + 1 by omega, Nat.pow_succ, ← Nat.div_div_eq_div_mul]
    omega
theorem num_wide {n W : Nat} (hn : ¬ n < 8 ^ (W - 1)) (hw : n < 256 ^ (W - 1)) : ∀ k, k + 1 ≤ W → num (fun i => formF n W (1 + i)) k = ((n / 256 ^ (W - 1 - k) : Nat) : Int)
  | 0, _ => by rw [Nat.sub_zero, Nat.div_eq_of_lt hw]; rfl
  | k + 1, hk => by
    have ih := num_wide hn hw k (by omega)
    have e : formF n W (1 + k) = ((n / 256 ^ (W - 1 - (k + 1)) % 256 : Nat) : Int) := by
      unfold formF wideF; rw [if_neg hn, if_neg (by omega), show 1 + k = k + 1 by omega]
    show num (fun i => formF n W (1 + i)) k * 256 + formF n W (1 + k) = _
    rw [ih, e, show W - 1 - k = (W - 1 - (k + 1)) + 1 by omega, Nat.pow_succ, ← Nat.div_div_eq_div_mul]
    omega
/-- a form is read as its number -/
theorem form_says {n W : Nat} (h1 : 2 ≤ W) (h2 : W ≤ 12) (hf : n < 8 ^ (W - 1) ∨ n < 256 ^ (W - 1)) (h63 : n ≤ 9223372036854775807) : Says W (formF n W) (n : Int) 0 0 := by
  by_cases hn : n < 8 ^ (W - 1)
  · have hd : ∀ i, i + 1 < W → Digit (formF n W i) := fun i hi => by
      unfold formF plainF Digit; rw [if_pos hn, if_pos hi]; omega
    have hl : formF n W (W - 1) = 0 := by unfold formF plainF; rw [if_pos hn, if_neg (by omega)]; rfl
    have h0 : ¬ formF n W 0 = 128 := by have := hd 0 (by omega); unfold Digit at this; omega
    have rp : Run Blank (formF n W) W 0 0 := ⟨Nat.le_refl _, Nat.zero_le _, fun i h1 h2 => by omega, fun _ h => by have := hd 0 (by omega); unfold Digit at this; unfold Blank at h; omega⟩
    have rq : Run Digit (formF n W) W 0 (W - 1) := ⟨Nat.zero_le _, by omega, fun i _ hi => hd i (by omega), fun _ h => by unfold Digit at h; rw [hl] at h; omega⟩
    have rr : Run Tail (formF n W) W (W - 1) W := ⟨by omega, Nat.le_refl _, fun i h3 h4 => by rw [show i = W - 1 by omega]; exact Or.inl hl, fun h => by omega⟩
    refine ⟨fun h => absurd ⟨h1, h2⟩ h, fun _ _ h => absurd h h0, fun _ _ h => absurd h h0, fun _ _ _ p q r hp hq hr => ?_⟩
    obtain rfl := run_unique hp rp
    obtain rfl := run_unique hq rq
    obtain rfl := run_unique hr rr
    refine ⟨fun _ => ⟨?_, rfl, rfl⟩, fun h => by omega⟩
    rw [Nat.sub_zero, oct_plain h1 hn (r - 1) (by omega), Nat.sub_self, Nat.pow_zero, Nat.div_one]
  · have hw := hf.resolve_left hn
    have h0 : formF n W 0 = 128 := by unfold formF wideF; rw [if_neg hn, if_pos rfl]; rfl
    have hv : num (fun i => formF n W (1 + i)) (W - 1) = (n : Int) := by rw [num_wide hn hw (W - 1) (by omega), Nat.sub_self, Nat.pow_zero, Nat.div_one]
    refine ⟨fun h => absurd ⟨h1, h2⟩ h, fun _ _ _ _ => ⟨hv.symm, rfl, rfl⟩, fun _ _ _ h => absurd (by rw [hv]; omega) h, fun _ _ h => absurd h0 h⟩
end Oct

/-- what Put answers -/
structure PutSays (n z : Int) (w : World) (e : Ending) (w' : World) : Prop where
  arg : ¬ (2 ≤ z ∧ z ≤ 12) ∨ n < 0 → e = .returned (.tuple #[.slice none 0 0, .int .i64 1])
  long : 2 ≤ z → z ≤ 12 → 0 ≤ n → ¬ (n.toNat < 8 ^ (z.toNat - 1) ∨ n.toNat < 256 ^ (z.toNat - 1)) → e = .returned (.tuple #[.slice none 0 0, .int .i64 2])
  form : 2 ≤ z → z ≤ 12 → 0 ≤ n → (n.toNat < 8 ^ (z.toNat - 1) ∨ n.toNat < 256 ^ (z.toNat - 1)) → ∃ g cap, e = .returned (.tuple #[.slice (some ⟨g, 0, none⟩) z.toNat cap, .int .i64 0]) ∧ Own w' g z.toNat (Oct.formF n.toNat z.toNat) ∧ w.heap.size ≤ g ∧ z.toNat ≤ cap ∧ cap ≤ maxLen
  keeps : Bw w w'
end Go.Proofs.Ytkoacehgfmflmab
