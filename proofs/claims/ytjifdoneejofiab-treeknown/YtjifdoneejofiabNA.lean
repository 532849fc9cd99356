/- One order: Compare is an order, folders stand ahead of what is beneath them; the contract of the statements' own awake, of layer 8. -/
import Derived.Test.YtjifdoneejofiabNT
namespace Go.Proofs.Ytjifdoneejofiab
open Go.RowKit Go.Deep
set_option linter.unusedVariables false
set_option linter.unusedSimpArgs false

namespace Nm
theorem cmpP_refl : ∀ xs : List B, cmpP xs xs = 0
  | [] => rfl
  | x :: xs => by unfold cmpP; rw [less_irr, if_neg (by simp), if_neg (by simp)]; exact cmpP_refl xs
theorem cmpP_neg : ∀ xs ys : List B, cmpP ys xs = - cmpP xs ys
  | [], [] => rfl
  | [], _ :: _ => rfl
  | _ :: _, [] => rfl
  | x :: xs, y :: ys => by
    have ih := cmpP_neg xs ys
    unfold cmpP
    by_cases h : less x y = true
    · rw [less_asym h, if_neg (by simp), if_pos h, if_pos h]; rfl
    · by_cases k : less y x = true
      · rw [if_pos k, if_neg h, if_pos k]
      · rw [if_neg k, if_neg h, if_neg h, if_neg k]; exact ih
theorem cmpP_range : ∀ xs ys : List B, cmpP xs ys = -1 ∨ cmpP xs ys = 0 ∨ cmpP xs ys = 1
  | [], [] => Or.inr (Or.inl rfl)
  | [], _ :: _ => Or.inl rfl
  | _ :: _, [] => Or.inr (Or.inr rfl)
  | x :: xs, y :: ys => by
    unfold cmpP
    split
    · exact Or.inl rfl
    · split
      · exact Or.inr (Or.inr rfl)
      · exact cmpP_range xs ys
theorem cmpP_zero : ∀ xs ys : List B, cmpP xs ys = 0 → xs = ys
  | [], [], _ => rfl
  | [], _ :: _, h => by simp [cmpP] at h
  | _ :: _, [], h => by simp [cmpP] at h
  | x :: xs, y :: ys, h => by
    unfold cmpP at h
    by_cases h1 : less x y = true
    · rw [if_pos h1] at h; omega
    · by_cases h2 : less y x = true
      · rw [if_neg h1, if_pos h2] at h; omega
      · rw [if_neg h1, if_neg h2] at h
        rw [less_tot x y (by simpa using h1) (by simpa using h2), cmpP_zero xs ys h]
theorem cmpP_trans : ∀ xs ys zs : List B, cmpP xs ys = -1 → cmpP ys zs = -1 → cmpP xs zs = -1
  | _, [], [], _, h => by simp [cmpP] at h
  | _, _ :: _, [], _, h => by simp [cmpP] at h
  | [], [], _ :: _, h, _ => by simp [cmpP] at h
  | _ :: _, [], _ :: _, h, _ => by simp [cmpP] at h
  | [], _ :: _, _ :: _, _, _ => rfl
  | x :: xs, y :: ys, z :: zs, h, k => by
    unfold cmpP at h k ⊢
    by_cases h1 : less x y = true
    · by_cases k1 : less y z = true
      · rw [if_pos (less_trans x y z h1 k1)]
      · by_cases k2 : less z y = true
        · rw [if_neg k1, if_pos k2] at k; omega
        · have e := less_tot y z (by simpa using k1) (by simpa using k2)
          rw [← e, if_pos h1]
    · by_cases h2 : less y x = true
      · rw [if_neg h1, if_pos h2] at h; omega
      · have e := less_tot x y (by simpa using h1) (by simpa using h2)
        subst e
        rw [if_neg h1, if_neg h1] at h
        by_cases k1 : less x z = true
        · rw [if_pos k1]
        · by_cases k2 : less z x = true
          · rw [if_neg k1, if_pos k2] at k; omega
          · rw [if_neg k1, if_neg k2] at k ⊢
            exact cmpP_trans xs ys zs h k
theorem front_less {xs ys : List B} (h : Front xs ys) : cmpP xs ys = -1 := by
  rw [cmpP_end xs ys h.2, if_pos h.1]
theorem front_cons {x y : B} {xs ys : List B} : Front (x :: xs) (y :: ys) ↔ x = y ∧ Front xs ys := by
  constructor
  · rintro ⟨h1, h2⟩
    refine ⟨h2 0 (by simp) (by simp), by simpa using h1, fun i a b => ?_⟩
    have := h2 (i + 1) (by simpa using a) (by simpa using b)
    simpa using this
  · rintro ⟨rfl, h1, h2⟩
    refine ⟨by simpa using h1, fun i a b => ?_⟩
    cases i with
    | zero => rfl
    | succ i => have := h2 i (by simpa using a) (by simpa using b); simpa using this
theorem between : ∀ xs ys zs : List B, Front xs zs → cmpP xs ys = -1 → cmpP ys zs = -1 → Front xs ys
  | [], [], _, _, h, _ => by simp [cmpP] at h
  | [], _ :: _, _, _, _, _ => ⟨by simp, fun i a b => by simp at a⟩
  | _ :: _, [], _, _, h, _ => by simp [cmpP] at h
  | x :: xs, y :: ys, [], f, _, _ => by have := f.1; simp at this
  | x :: xs, y :: ys, z :: zs, f, h, k => by
    obtain ⟨e0, f2⟩ := front_cons.1 f
    subst e0
    unfold cmpP at h k
    by_cases h1 : less x y = true
    · rw [less_asym h1, if_neg (by simp), if_pos h1] at k; omega
    · by_cases h2 : less y x = true
      · rw [if_neg h1, if_pos h2] at h; omega
      · rw [if_neg h1, if_neg h2] at h
        rw [if_neg h2, if_neg h1] at k
        rw [less_tot x y (by simpa using h1) (by simpa using h2)]
        exact front_cons.2 ⟨rfl, between xs ys zs f2 h k⟩
/-- what the statement of the order asks of Compare -/
theorem cmp_facts (a b c : B) : (cmp a b = -1 ∨ cmp a b = 0 ∨ cmp a b = 1) ∧ cmp b a = - cmp a b ∧ (cmp a b = 0 ↔ a = b) ∧ (cmp a b ≤ 0 → cmp b c ≤ 0 → cmp a c ≤ 0) ∧ (cmp a b < 0 → cmp b c ≤ 0 → cmp a c < 0) := by
  have r1 := cmpP_range (pieces a) (pieces b)
  have r2 := cmpP_range (pieces b) (pieces c)
  have lt : cmp a b < 0 → cmp b c ≤ 0 → cmp a c < 0 := fun h k => by
    unfold cmp at h k ⊢
    rcases r2 with r | r | r
    · have := cmpP_trans _ _ _ (show cmpP (pieces a) (pieces b) = -1 by omega) r; omega
    · rw [← cmpP_zero _ _ r]; exact h
    · omega
  refine ⟨r1, cmpP_neg _ _, ⟨fun h => pieces_inj (cmpP_zero _ _ h), fun h => by rw [h]; exact cmpP_refl _⟩, fun h k => ?_, lt⟩
  rcases r1 with r | r | r
  · have := lt (by unfold cmp; omega) k; omega
  · have e := pieces_inj (cmpP_zero _ _ r); rw [e]; exact k
  · unfold cmp at h; omega
theorem beneath_less {a b : B} (ha : a ≠ []) (h : Beneath a b) : cmp a b = -1 := front_less (h.2.resolve_left ha).2
theorem beneath_between {a b c : B} (ha : a ≠ []) (h : Beneath a c) (hb : (check b).2 = 0) (h1 : cmp a b < 0) (h2 : cmp b c < 0) : Beneath a b := by
  have hf := h.2.resolve_left ha
  have r1 := cmpP_range (pieces a) (pieces b)
  have r2 := cmpP_range (pieces b) (pieces c)
  unfold cmp at h1 h2
  exact ⟨hb, Or.inr ⟨hf.1, between _ _ _ hf.2 (by omega) (by omega)⟩⟩
end Nm

theorem ka1 : Nm.check [97, 47, 98, 32, 99] = (0, 0) := by decide
theorem ka2 : Nm.check [97, 47, 46, 46, 47, 98] = (2, 81) := by decide
theorem ka3 : Nm.lead [97, 47, 98, 47, 108] [46, 46, 47, 99] = ([97, 47, 99], 0) := by decide
theorem ka4 : Nm.cmp [97, 47, 98] [97, 45, 98] = -1 := by decide
theorem ka5 : Nm.Beneath [97] [97, 47, 98] := ⟨by decide, Or.inr ⟨by decide, by decide, by decide⟩⟩
theorem ka6 : ¬ Nm.Beneath [97] [97, 98] := fun h => by
  have := (h.2.resolve_left (by decide)).2.1
  exact absurd this (by decide)
end Go.Proofs.Ytjifdoneejofiab
