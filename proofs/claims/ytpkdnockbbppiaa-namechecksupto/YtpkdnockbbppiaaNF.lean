/- Names: the piece ahead of a text's first stroke, what stands behind it; the library's words for it. -/
import Derived.Test.YtpkdnockbbppiaaNE
import Derived.Lib.Bytealg
import Derived.Lib.LastIndexByte
import Derived.Lib.Strings
import Derived.Lib.Small
import Derived.Lib.Join
namespace Go.Proofs.Ytpkdnockbbppiaa
open Go.RowKit Go.Deep
set_option linter.unusedVariables false
set_option linter.unusedSimpArgs false

namespace Nm
/-- a text's piece ahead of its first stroke -/
def fst : B → B
  | [] => []
  | c :: l => if c = 47 then [] else c :: fst l
/-- what stands behind the first stroke -/
def rst : B → B
  | [] => []
  | c :: l => if c = 47 then l else rst l
theorem fst_len : ∀ l : B, (fst l).length ≤ l.length
  | [] => Nat.le_refl _
  | c :: l => by
    unfold fst
    split
    · simp
    · have := fst_len l; simp only [List.length_cons]; omega
theorem fst_no : ∀ l : B, (47 : UInt8) ∉ fst l
  | [] => by simp [fst]
  | c :: l => by
    unfold fst
    split
    · simp
    · rename_i h
      intro hm
      rcases List.mem_cons.1 hm with hm | hm
      · exact h hm.symm
      · exact fst_no l hm
theorem fst_free : ∀ l : B, (47 : UInt8) ∉ l → fst l = l
  | [], _ => rfl
  | c :: l, h => by
    have hc : c ≠ 47 := fun e => h (by rw [e]; simp)
    unfold fst
    rw [if_neg hc, fst_free l (fun hm => h (List.mem_cons_of_mem _ hm))]
theorem fst_rst : ∀ l : B, (47 : UInt8) ∈ l → l = fst l ++ 47 :: rst l
  | [], h => by simp at h
  | c :: l, h => by
    unfold fst rst
    by_cases hc : c = 47
    · rw [if_pos hc, if_pos hc, hc]; rfl
    · rw [if_neg hc, if_neg hc]
      have hm : (47 : UInt8) ∈ l := by
        rcases List.mem_cons.1 h with h | h
        · exact absurd h.symm hc
        · exact h
      have := fst_rst l hm
      show c :: l = c :: (fst l ++ 47 :: rst l)
      rw [← this]
theorem rst_drop {l : B} (h : (47 : UInt8) ∈ l) : rst l = l.drop ((fst l).length + 1) := by
  have e := fst_rst l h
  have : (fst l ++ 47 :: rst l).drop ((fst l).length + 1) = rst l := by
    simp [List.drop_append]
  rw [← e] at this
  exact this.symm
theorem fst_take {l : B} (h : (47 : UInt8) ∈ l) : fst l = l.take (fst l).length := by
  have e := fst_rst l h
  have : (fst l ++ 47 :: rst l).take (fst l).length = fst l := by simp
  rw [← e] at this
  exact this.symm
theorem pieces_fst {l : B} (h : (47 : UInt8) ∈ l) : pieces l = fst l :: pieces (l.drop ((fst l).length + 1)) := by
  conv => lhs; rw [fst_rst l h]
  rw [pieces_append _ _ (fst_no l), rst_drop h]
theorem fst_lt {l : B} (h : (47 : UInt8) ∈ l) : (fst l).length + 1 ≤ l.length := by
  have e := congrArg List.length (fst_rst l h)
  rw [List.length_append, List.length_cons] at e
  omega
theorem pieces_head (l : B) : ∃ r, pieces l = fst l :: r := by
  by_cases h : (47 : UInt8) ∈ l
  · exact ⟨_, pieces_fst h⟩
  · rw [pieces_free l h, fst_free l h]; exact ⟨[], rfl⟩
/-- the pieces of a text ahead of a place, and the text from there -/
def Past (l : B) (q : Nat) (out : List B) : Prop := q ≤ l.length ∧ q = tot out ∧ pieces l = out ++ pieces (l.drop q)
theorem past_start (l : B) : Past l 0 [] := ⟨Nat.zero_le _, rfl, rfl⟩
theorem past_next {l : B} {q : Nat} {out : List B} (h : Past l q out) (hm : (47 : UInt8) ∈ l.drop q) : Past l (q + ((fst (l.drop q)).length + 1)) (out ++ [fst (l.drop q)]) := by
  obtain ⟨h1, h2, h3⟩ := h
  have hl := fst_lt hm
  rw [List.length_drop] at hl
  refine ⟨by omega, ?_, ?_⟩
  · rw [tot_append, ← h2]; rfl
  · rw [h3, pieces_fst hm, List.drop_drop, List.append_assoc]; rfl
theorem past_end {l : B} {q : Nat} {out : List B} (h : Past l q out) (hm : (47 : UInt8) ∉ l.drop q) : pieces l = out ++ [fst (l.drop q)] := by
  rw [h.2.2, pieces_free _ hm, fst_free _ hm]
theorem past_front {l : B} {q : Nat} {out : List B} (h : Past l q out) : ats 0 out <+: all l ∧ (ats 0 out).length < (all l).length ∧ ats 0 out ++ [(q, fst (l.drop q))] <+: all l := by
  obtain ⟨r, hr⟩ := pieces_head (l.drop q)
  have e : all l = ats 0 out ++ (q, fst (l.drop q)) :: ats (q + (fst (l.drop q)).length + 1) r := by
    unfold all
    rw [h.2.2, ats_append, hr, Nat.zero_add, ← h.2.1]
    rfl
  refine ⟨?_, ?_, ?_⟩
  · rw [e]; exact List.prefix_append _ _
  · rw [e, List.length_append, List.length_cons]; omega
  · rw [e]
    exact ⟨ats (q + (fst (l.drop q)).length + 1) r, by rw [List.append_assoc]; rfl⟩
/-- what the library's search for a byte tells of a stroke -/
theorem idx_no : ∀ (l : B) (c : UInt8), c ∉ l → Lib.indexByte l c = -1
  | [], c, _ => rfl
  | b :: l, c, h => by
    have hb : (b == c) = false := by rw [beq_eq_false_iff_ne]; exact fun e => h (by rw [e]; simp)
    have ih := idx_no l c (fun hm => h (List.mem_cons_of_mem _ hm))
    unfold Lib.indexByte
    rw [hb, ih]; rfl
theorem idx_stroke : ∀ (l : B), (47 : UInt8) ∈ l → Lib.indexByte l 47 = ((fst l).length : Int)
  | [], h => by simp at h
  | b :: l, h => by
    by_cases hb : b = 47
    · subst hb; simp [Lib.indexByte, fst]
    · have hm : (47 : UInt8) ∈ l := by
        rcases List.mem_cons.1 h with h | h
        · exact absurd h.symm hb
        · exact h
      have ih := idx_stroke l hm
      unfold Lib.indexByte fst
      rw [if_neg hb, ih]
      have h1 : (b == (47 : UInt8)) = false := by rw [beq_eq_false_iff_ne]; exact hb
      have h2 : (((fst l).length : Int) == -1) = false := by rw [beq_eq_false_iff_ne]; omega
      rw [h1, h2, List.length_cons]
      simp
theorem idx_nul : ∀ (l : B), Lib.indexByte l 0 = nulI l
  | [] => rfl
  | b :: l => by
    have ih := idx_nul l
    unfold nulI at ih ⊢
    unfold Lib.indexByte nul
    by_cases hb : b = 0
    · subst hb; simp
    · have h1 : (b == (0 : UInt8)) = false := by rw [beq_eq_false_iff_ne]; exact hb
      rw [h1, ih]
      cases e : nul l with
      | none => simp [hb, e]
      | some n =>
        have h2 : ((n : Int) == -1) = false := by rw [beq_eq_false_iff_ne]; omega
        simp [hb, e, h2]
end Nm
end Go.Proofs.Ytpkdnockbbppiaa
