/- Links stay inside the root: the mathematics; the contracts of the statements' own clean and strokes. -/
import Derived.Test.YtjifdoneejofiabNA
namespace Go.Proofs.Ytjifdoneejofiab
open Go.RowKit Go.Deep
set_option linter.unusedVariables false
set_option linter.unusedSimpArgs false

namespace Nm
/-- a piece that is right -/
def Right (p : B) : Prop := p ≠ [] ∧ p ≠ [46] ∧ p ≠ [46, 46] ∧ (0 : UInt8) ∉ p
theorem partE_right {p : B} (h : (partE p).2 = 0) : Right p ∧ p.length ≤ 120 := by
  unfold partE at h
  by_cases h0 : p = []
  · rw [if_pos h0] at h; exact absurd h (by decide)
  · rw [if_neg h0] at h
    by_cases h1 : 120 < p.length
    · rw [if_pos h1] at h; exact absurd h (by decide)
    · rw [if_neg h1] at h
      by_cases h2 : p = [46] ∨ p = [46, 46]
      · rw [if_pos h2] at h; exact absurd h (by decide)
      · rw [if_neg h2] at h
        cases hn : nul p with
        | some n => rw [hn] at h; exact absurd (show (82 : Int) = 0 from h) (by decide)
        | none => exact ⟨⟨h0, fun e => h2 (Or.inl e), fun e => h2 (Or.inr e), (nul_none_iff p).1 hn⟩, by omega⟩
theorem chk_zero : ∀ (k : Nat) (ps : List B), (chk k ps).2 = 0 → ∀ p ∈ ps, (partE p).2 = 0
  | _, [], _, p, hp => by cases hp
  | k, q :: ps, h, p, hp => by
    unfold chk at h
    by_cases h0 : (partE q).2 = 0
    · rw [if_pos h0] at h
      rcases List.mem_cons.1 hp with rfl | hp
      · exact h0
      · exact chk_zero _ ps h p hp
    · rw [if_neg h0] at h; exact absurd h h0
theorem check_right {l : B} (h : (check l).2 = 0) : l.length ≤ 400 ∧ ∀ p ∈ pieces l, Right p := by
  unfold check at h
  by_cases h0 : 400 < l.length
  · rw [if_pos h0] at h; exact absurd h (by decide)
  · rw [if_neg h0] at h
    exact ⟨by omega, fun p hp => (partE_right (chk_zero 0 _ h p hp)).1⟩
theorem piece_mem {l p : B} (h : p ∈ pieces l) {c : UInt8} (hc : c ∈ p) : c ∈ l := by
  have : ∀ ps : List B, p ∈ ps → c ∈ joined ps := by
    intro ps
    induction ps with
    | nil => intro h; cases h
    | cons q r ih =>
      intro hp
      cases r with
      | nil =>
        rcases List.mem_cons.1 hp with rfl | hp
        · exact hc
        · cases hp
      | cons q' r' =>
        rw [joined_cons q (by simp)]
        rcases List.mem_cons.1 hp with rfl | hp
        · exact List.mem_append_left _ hc
        · exact List.mem_append_right _ (List.mem_cons_of_mem _ (ih hp))
  have h1 := this _ h
  rwa [joined_pieces] at h1
theorem leadF_all : ∀ (ss way r : List B), leadF way ss = some r → (∀ p ∈ way, Right p ∧ (47 : UInt8) ∉ p) → (∀ p ∈ ss, (0 : UInt8) ∉ p ∧ (47 : UInt8) ∉ p) → (∀ p ∈ r, Right p ∧ (47 : UInt8) ∉ p) ∧ r.length ≤ way.length + ss.length
  | [], way, r, h, hw, _ => by
    unfold leadF at h
    cases h
    exact ⟨hw, by simp⟩
  | s :: ss, way, r, h, hw, hs => by
    have hs' : ∀ p ∈ ss, (0 : UInt8) ∉ p ∧ (47 : UInt8) ∉ p := fun p hp => hs p (List.mem_cons_of_mem _ hp)
    unfold leadF at h
    by_cases h1 : s = [] ∨ s = [46]
    · rw [if_pos h1] at h
      have := leadF_all ss way r h hw hs'
      exact ⟨this.1, by have := this.2; simp only [List.length_cons]; omega⟩
    · rw [if_neg h1] at h
      by_cases h2 : s ≠ [46, 46]
      · rw [if_pos h2] at h
        have hn : ∀ p ∈ way ++ [s], Right p ∧ (47 : UInt8) ∉ p := fun p hp => by
          rcases List.mem_append.1 hp with hp | hp
          · exact hw p hp
          · have e : p = s := by simpa using hp
            subst e
            have h0 := hs p (by simp)
            exact ⟨⟨fun e => h1 (Or.inl e), fun e => h1 (Or.inr e), h2, h0.1⟩, h0.2⟩
        have := leadF_all ss (way ++ [s]) r h hn hs'
        exact ⟨this.1, by have := this.2; simp only [List.length_append, List.length_cons, List.length_nil] at this ⊢; omega⟩
      · rw [if_neg h2] at h
        by_cases h3 : way = []
        · rw [if_pos h3] at h; cases h
        · rw [if_neg h3] at h
          have := leadF_all ss way.dropLast r h (fun p hp => hw p (List.dropLast_subset _ hp)) hs'
          exact ⟨this.1, by have := this.2; simp only [List.length_dropLast, List.length_cons] at this ⊢; omega⟩
theorem joined_empty {ps : List B} (h : ∀ p ∈ ps, p ≠ []) (e : joined ps = []) : ps = [] := by
  cases ps with
  | nil => rfl
  | cons p r =>
    cases r with
    | nil => exact absurd e (h p (by simp))
    | cons q t => rw [joined_cons p (by simp)] at e; simp at e
/-- what Lead answers stays inside -/
theorem lead_inside {a b : B} (h : (lead a b).2 = 0) : (lead a b).1 = [] ∨ ((∀ p ∈ pieces (lead a b).1, Right p) ∧ (pieces (lead a b).1).length ≤ (pieces a).length + (pieces b).length - 1) := by
  unfold lead at h ⊢
  by_cases h1 : (check a).2 ≠ 0
  · rw [if_pos h1] at h; exact absurd h h1
  · rw [if_neg h1] at h ⊢
    by_cases h2 : b = []
    · rw [if_pos h2] at h; exact absurd h (by decide)
    · rw [if_neg h2] at h ⊢
      by_cases h3 : 400 < b.length
      · rw [if_pos h3] at h; exact absurd h (by decide)
      · rw [if_neg h3] at h ⊢
        by_cases h4 : nul b ≠ none
        · rw [if_pos h4] at h; exact absurd h (by decide)
        · rw [if_neg h4] at h ⊢
          by_cases h5 : b.head? = some 47
          · rw [if_pos h5] at h; exact absurd h (by decide)
          · rw [if_neg h5] at h ⊢
            cases e : leadF (pieces a).dropLast (pieces b) with
            | none => rw [e] at h; exact absurd h (by decide)
            | some way =>
              dsimp only
              have hca : (check a).2 = 0 := Classical.byContradiction h1
              have hnb : (0 : UInt8) ∉ b := (nul_none_iff b).1 (Classical.byContradiction h4)
              have hall := leadF_all (pieces b) (pieces a).dropLast way e (fun p hp => ⟨(check_right hca).2 p (List.dropLast_subset _ hp), pieces_no a p (List.dropLast_subset _ hp)⟩) (fun p hp => ⟨fun h0 => hnb (piece_mem hp h0), pieces_no b p hp⟩)
              by_cases hw : way = []
              · exact Or.inl (by rw [hw]; rfl)
              · refine Or.inr ?_
                rw [pieces_joined way hw (fun p hp => (hall.1 p hp).2)]
                refine ⟨fun p hp => (hall.1 p hp).1, ?_⟩
                have := hall.2
                rw [List.length_dropLast] at this
                have : 0 < (pieces a).length := List.length_pos_iff.2 (pieces_ne a)
                omega
theorem lead_err {a b : B} (h : (lead a b).2 ≠ 0) : (lead a b).1 = [] := by
  unfold lead at h ⊢
  split
  · rfl
  · rename_i h1
    rw [if_neg h1] at h
    split
    · rfl
    · rename_i h2
      rw [if_neg h2] at h
      split
      · rfl
      · rename_i h3
        rw [if_neg h3] at h
        split
        · rfl
        · rename_i h4
          rw [if_neg h4] at h
          split
          · rfl
          · rename_i h5
            rw [if_neg h5] at h
            split
            · rfl
            · rename_i way e
              rw [e] at h
              exact absurd rfl h
/-- a text that is a part leads beside the link -/
theorem lead_part {a p : B} (ha : (check a).2 = 0) (hp : (check p).2 = 0) (h47 : (47 : UInt8) ∉ p) : lead a p = ((if up a = [] then p else up a ++ 47 :: p), 0) := by
  have hpp := pieces_free p h47
  obtain ⟨hl, hr⟩ := check_right hp
  have hR := hr p (by rw [hpp]; simp)
  have hn : nul p = none := (nul_none_iff p).2 hR.2.2.2
  have hh : p.head? ≠ some 47 := fun e => h47 (List.mem_of_mem_head? (by rw [e]; rfl))
  unfold lead
  rw [if_neg (fun h => h ha), if_neg hR.1, if_neg (by omega), if_neg (fun h => h hn), if_neg hh, hpp]
  have e1 : leadF (pieces a).dropLast [p] = some ((pieces a).dropLast ++ [p]) := by
    unfold leadF
    rw [if_neg (fun h => h.elim hR.1 hR.2.1), if_pos hR.2.2.1]
    rfl
  rw [e1]
  dsimp only
  unfold up
  by_cases hw : (pieces a).dropLast = []
  · rw [hw]; rfl
  · rw [if_neg (fun e => hw (joined_empty (fun q hq => ((check_right ha).2 q (List.dropLast_subset _ hq)).1) e)), joined_append _ _ hw]
/-- a piece that is whole is one of the text's -/
theorem cut_mem {l : B} {i q : Nat} {out : List B} (h : Cut l i out q) {p : B} (hp : p ∈ out) : p ∈ pieces l := by
  have : ∀ d i q out, l.length - i = d → Cut l i out q → p ∈ out → p ∈ pieces l := by
    intro d
    induction d with
    | zero =>
      intro i q out hd h hp
      have e : i = l.length := by have := h.1; omega
      subst e
      rw [cut_end h]
      exact List.mem_append_left _ hp
    | succ d ih =>
      intro i q out hd h hp
      have hi : i < l.length := by omega
      by_cases hc : l[i] = 47
      · exact ih (i + 1) (i + 1) _ (by omega) (cut_stroke h hi hc) (List.mem_append_left _ hp)
      · exact ih (i + 1) q out (by omega) (cut_other h hi hc) hp
  exact this _ i q out rfl h hp
theorem up_len (l : B) : (up l).length ≤ l.length := by
  obtain ⟨ps, p, hpp⟩ : ∃ ps p, pieces l = ps ++ [p] := ⟨_, _, (List.dropLast_concat_getLast (pieces_ne l)).symm⟩
  rw [up_of hpp]
  split
  · exact Nat.zero_le _
  · rw [List.length_take]; omega
theorem leadF_tot : ∀ (ss way r : List B), leadF way ss = some r → tot r ≤ tot way + tot ss
  | [], way, r, h => by unfold leadF at h; cases h; omega
  | s :: ss, way, r, h => by
    unfold leadF at h
    have hts : tot (s :: ss) = s.length + 1 + tot ss := rfl
    by_cases h1 : s = [] ∨ s = [46]
    · rw [if_pos h1] at h; have := leadF_tot ss way r h; omega
    · rw [if_neg h1] at h
      by_cases h2 : s ≠ [46, 46]
      · rw [if_pos h2] at h
        have := leadF_tot ss _ r h
        rw [tot_append, show tot [s] = s.length + 1 from rfl] at this
        omega
      · rw [if_neg h2] at h
        by_cases h3 : way = []
        · rw [if_pos h3] at h; cases h
        · rw [if_neg h3] at h
          have := leadF_tot ss _ r h
          have := tot_dropLast way
          omega
theorem lead_len {a b r : B} (h : lead a b = (r, 0)) : r.length ≤ a.length + b.length + 2 := by
  unfold lead at h
  split at h
  · rename_i h1; simp only [Prod.mk.injEq] at h; exact absurd h.2 h1
  · split at h
    · simp at h
    · split at h
      · simp at h
      · split at h
        · simp at h
        · split at h
          · simp at h
          · split at h
            · simp at h
            · rename_i way e
              simp only [Prod.mk.injEq, and_true] at h
              subst h
              have h1 := leadF_tot _ _ _ e
              have h2 := tot_dropLast (pieces a)
              rw [tot_joined _ (pieces_ne a), joined_pieces] at h2
              rw [tot_joined _ (pieces_ne b), joined_pieces] at h1
              by_cases hw : way = []
              · rw [hw]; exact Nat.zero_le _
              · have := tot_joined way hw; omega
theorem lead_from {a b : B} (h : (lead a b).2 = 0) : (check a).2 = 0 := by
  unfold lead at h
  by_cases h1 : (check a).2 ≠ 0
  · rw [if_pos h1] at h; exact h
  · exact Classical.byContradiction h1
end Nm

end Go.Proofs.Ytjifdoneejofiab
