/- The number that bytes begin with: mathematics. -/
import Derived.Test.YtmbabfelnieagabDoorBQ
namespace Go.Proofs.YtmbabfelnieagabDoor
set_option linter.unusedVariables false
namespace Px
theorem tw_at : ∀ (b : B) (i : Nat), i < (b.takeWhile isD).length → ∃ c, b[i]? = some c ∧ isD c = true
  | [], i, h => by simp at h
  | c :: b, i, h => by
    rw [List.takeWhile_cons] at h
    split at h
    · rename_i hc
      cases i with
      | zero => exact ⟨c, rfl, hc⟩
      | succ i => exact tw_at b i (by simpa using h)
    · simp at h
theorem tw_end9 : ∀ (b : B), (b.takeWhile isD).length ≤ b.length ∧ ∀ c, b[(b.takeWhile isD).length]? = some c → isD c = false
  | [] => ⟨Nat.le_refl _, fun c h => by simp at h⟩
  | c :: b => by
    rw [List.takeWhile_cons]
    split
    · have ih := tw_end9 b
      refine ⟨by simpa using ih.1, fun d h => ih.2 d (by simpa using h)⟩
    · rename_i hc
      refine ⟨Nat.zero_le _, fun d h => ?_⟩
      have : c = d := by simpa using h
      rw [← this]; simpa using hc
/-- what length's loop has found -/
structure Dig (b : B) (D : Nat) : Prop where
  four : D ≤ 4
  le : D ≤ b.length
  all : ∀ i, i < D → ∃ c, b[i]? = some c ∧ isD c = true
  stop : D = 4 ∨ D = b.length ∨ ∃ c, b[D]? = some c ∧ isD c = false
theorem Dig.len {b : B} {D : Nat} (h : Dig b D) : D ≤ (b.takeWhile isD).length := by
  rcases Nat.lt_or_ge (b.takeWhile isD).length D with k | k
  · obtain ⟨c, h1, h2⟩ := h.all _ k
    rw [(tw_end9 b).2 c h1] at h2
    cases h2
  · exact k
theorem Dig.same {b : B} {D : Nat} (h : Dig b D) (ht : (b.takeWhile isD).length ≤ 4) : D = (b.takeWhile isD).length := by
  have h1 := h.len
  rcases Nat.lt_or_ge D (b.takeWhile isD).length with k | k
  · exfalso
    rcases h.stop with h2 | h2 | ⟨c, h2, h3⟩
    · omega
    · have := (tw_end9 b).1; omega
    · obtain ⟨c', h4, h5⟩ := tw_at b D k
      rw [h2, Option.some.injEq] at h4
      rw [← h4, h3] at h5
      cases h5
  · omega
theorem head_tw {b : B} (h : 0 < (b.takeWhile isD).length) : (b.takeWhile isD).head? = b[0]? := by
  cases b with
  | nil => rfl
  | cons c b =>
    rw [List.takeWhile_cons] at h ⊢
    split
    · rfl
    · rename_i hc; rw [if_neg hc] at h; simp at h
/-- the number is one -/
theorem long_yes {b : B} {D : Nat} (h : Dig b D) (h0 : 0 < D) (h1 : b[0]? ≠ some 48) (h2 : b[D]? = some 32) : longF b = (val (b.take D), D) := by
  have ht : (b.takeWhile isD).length = D := by
    rcases Nat.lt_or_ge D (b.takeWhile isD).length with k | k
    · obtain ⟨c, h3, h4⟩ := tw_at b D k
      rw [h2, Option.some.injEq] at h3
      rw [← h3] at h4
      exact absurd h4 (by decide)
    · exact Nat.le_antisymm k h.len
  have hT : b.takeWhile isD = b.take D := by
    have := List.prefix_iff_eq_take.1 (List.takeWhile_prefix (l := b) isD)
    rw [ht] at this; exact this
  unfold longF
  rw [if_neg, ht, hT]
  rintro (h3 | h3 | h3 | h3)
  · omega
  · have := h.four; omega
  · rw [head_tw (by omega)] at h3; exact h1 h3
  · rw [ht] at h3; exact h3 h2
theorem long_no {b : B} {D : Nat} (h : Dig b D) (h1 : D = 0 ∨ b[0]? = some 48 ∨ b[D]? ≠ some 32) : longF b = (0, 0) := by
  unfold longF
  rw [if_pos]
  by_cases h4 : 4 < (b.takeWhile isD).length
  · exact .inr (.inl h4)
  have hs := h.same (by omega)
  rcases h1 with h1 | h1 | h1
  · exact .inl (by omega)
  · by_cases h0 : (b.takeWhile isD).length = 0
    · exact .inl h0
    · exact .inr (.inr (.inl (by rw [head_tw (by omega)]; exact h1)))
  · exact .inr (.inr (.inr (by rw [← hs]; exact h1)))
theorem val_take {b : B} {j : Nat} {c : UInt8} (h : b[j]? = some c) : val (b.take (j + 1)) = 10 * val (b.take j) + (c.toNat - 48) := by
  rw [List.take_add_one, h]
  exact val_snoc _ _
theorem val_bd : ∀ (b : B) (j : Nat), j ≤ 4 → (∀ i, i < j → ∃ c, b[i]? = some c ∧ isD c = true) → val (b.take j) < 10 ^ j
  | b, 0, _, _ => by rw [List.take_zero]; decide
  | b, j + 1, hj, h => by
    obtain ⟨c, h1, h2⟩ := h j (by omega)
    have ih := val_bd b j (by omega) (fun i hi => h i (by omega))
    have h3 : 48 ≤ c.toNat ∧ c.toNat ≤ 57 := by simpa [isD] using h2
    rw [val_take h1, Nat.pow_succ]
    omega
end Px
end Go.Proofs.YtmbabfelnieagabDoor
