/- Names: the mathematics of pieces, paths, their order and where links lead. -/
import Derived.Test.YtpkdnockbbppiaaK4
namespace Go.Proofs.Ytpkdnockbbppiaa
open Go.RowKit Go.Deep
set_option linter.unusedVariables false
set_option linter.unusedSimpArgs false

namespace Nm
abbrev B := List UInt8
/-- what stands between a text's strokes -/
def pieces : B → List B
  | [] => [[]]
  | c :: l => if c = 47 then [] :: pieces l else match pieces l with | [] => [[c]] | p :: ps => (c :: p) :: ps
/-- parts with a stroke between any two -/
def joined : List B → B
  | [] => []
  | [p] => p
  | p :: q :: r => p ++ 47 :: joined (q :: r)
theorem pieces_ne (l : B) : pieces l ≠ [] := by
  cases l with
  | nil => simp [pieces]
  | cons c l =>
    unfold pieces
    split
    · simp
    · split <;> simp
theorem pieces_other {c : UInt8} {l : B} (h : c ≠ 47) {p : B} {ps : List B} (e : pieces l = p :: ps) : pieces (c :: l) = (c :: p) :: ps := by
  unfold pieces; rw [if_neg h, e]
theorem pieces_stroke {l : B} : pieces (47 :: l) = [] :: pieces l := by
  rw [pieces, if_pos rfl]
theorem joined_cons (p : B) {ps : List B} (h : ps ≠ []) : joined (p :: ps) = p ++ 47 :: joined ps := by
  cases ps with
  | nil => exact absurd rfl h
  | cons q r => rfl
theorem joined_pieces : ∀ l : B, joined (pieces l) = l
  | [] => rfl
  | c :: l => by
    have ih := joined_pieces l
    by_cases h : c = 47
    · subst h
      rw [pieces_stroke, joined_cons _ (pieces_ne l), ih]; rfl
    · cases e : pieces l with
      | nil => exact absurd e (pieces_ne l)
      | cons p ps =>
        rw [pieces_other h e]
        rw [e] at ih
        cases ps with
        | nil => show c :: p = c :: l; rw [show p = l from ih]
        | cons q r => show c :: (p ++ 47 :: joined (q :: r)) = c :: l; rw [← ih]; rfl
theorem pieces_no : ∀ (l : B) (p : B), p ∈ pieces l → (47 : UInt8) ∉ p
  | [], p, h => by simp [pieces] at h; subst h; simp
  | c :: l, p, h => by
    by_cases hc : c = 47
    · subst hc
      rw [pieces_stroke] at h
      rcases List.mem_cons.1 h with rfl | h
      · simp
      · exact pieces_no l p h
    · cases e : pieces l with
      | nil => exact absurd e (pieces_ne l)
      | cons q ps =>
        rw [pieces_other hc e] at h
        rcases List.mem_cons.1 h with rfl | h
        · intro hm
          rcases List.mem_cons.1 hm with hm | hm
          · exact hc hm.symm
          · exact pieces_no l q (by rw [e]; simp) hm
        · exact pieces_no l p (by rw [e]; exact List.mem_cons_of_mem _ h)
theorem pieces_free : ∀ (p : B), (47 : UInt8) ∉ p → pieces p = [p]
  | [], _ => rfl
  | c :: p, h => by
    have hc : c ≠ 47 := fun e => h (by rw [e]; simp)
    exact pieces_other hc (pieces_free p (fun hm => h (List.mem_cons_of_mem _ hm)))
theorem pieces_append : ∀ (p l : B), (47 : UInt8) ∉ p → pieces (p ++ 47 :: l) = p :: pieces l
  | [], l, _ => pieces_stroke
  | c :: p, l, h => by
    have hc : c ≠ 47 := fun e => h (by rw [e]; simp)
    exact pieces_other hc (pieces_append p l (fun hm => h (List.mem_cons_of_mem _ hm)))
theorem pieces_joined : ∀ (ps : List B), ps ≠ [] → (∀ p ∈ ps, (47 : UInt8) ∉ p) → pieces (joined ps) = ps
  | [], h, _ => absurd rfl h
  | [p], _, h => pieces_free p (h p (by simp))
  | p :: q :: r, _, h => by
    show pieces (p ++ 47 :: joined (q :: r)) = _
    rw [pieces_append p _ (h p (by simp)), pieces_joined (q :: r) (by simp) (fun x hx => h x (List.mem_cons_of_mem _ hx))]
theorem pieces_inj {a b : B} (h : pieces a = pieces b) : a = b := by rw [← joined_pieces a, h, joined_pieces]
/-- pieces, all but the last one, and the last one -/
theorem pieces_snoc : ∀ (l : B) (c : UInt8) (ps : List B) (p : B), pieces l = ps ++ [p] → pieces (l ++ [c]) = if c = 47 then ps ++ [p, []] else ps ++ [p ++ [c]]
  | [], c, ps, p, h => by
    have : ps = [] ∧ p = [] := by
      cases ps with
      | nil => simp [pieces] at h; exact ⟨rfl, h⟩
      | cons q r => simp [pieces] at h
    obtain ⟨rfl, rfl⟩ := this
    by_cases hc : c = 47
    · subst hc; rfl
    · rw [if_neg hc]; show pieces (c :: []) = _; rw [pieces_other hc (show pieces [] = [] :: [] from rfl)]; rfl
  | d :: l, c, ps, p, h => by
    by_cases hd : d = 47
    · subst hd
      rw [pieces_stroke] at h
      show pieces (47 :: (l ++ [c])) = _
      rw [pieces_stroke]
      cases ps with
      | nil =>
        have := pieces_ne l
        simp only [List.nil_append, List.cons.injEq] at h
        exact absurd h.2 this
      | cons q r =>
        simp only [List.cons_append, List.cons.injEq] at h
        obtain ⟨rfl, h⟩ := h
        rw [pieces_snoc l c r p h]
        split <;> rfl
    · cases e : pieces l with
      | nil => exact absurd e (pieces_ne l)
      | cons q r =>
        rw [pieces_other hd e] at h
        show pieces (d :: (l ++ [c])) = _
        cases ps with
        | nil =>
          simp only [List.nil_append, List.cons.injEq] at h
          obtain ⟨rfl, rfl⟩ := h
          have ih := pieces_snoc l c [] q (by rw [e]; rfl)
          by_cases hc : c = 47
          · rw [if_pos hc] at ih ⊢; rw [pieces_other hd ih]; rfl
          · rw [if_neg hc] at ih ⊢; rw [pieces_other hd ih]; rfl
        | cons x xs =>
          simp only [List.cons_append, List.cons.injEq] at h
          obtain ⟨rfl, h⟩ := h
          have ih := pieces_snoc l c (q :: xs) p (by rw [e, h]; rfl)
          by_cases hc : c = 47
          · rw [if_pos hc] at ih ⊢; rw [pieces_other hd ih]; rfl
          · rw [if_neg hc] at ih ⊢; rw [pieces_other hd ih]; rfl

/-- how many bytes parts and a stroke behind each are -/
def tot : List B → Nat
  | [] => 0
  | p :: ps => p.length + 1 + tot ps
theorem tot_append : ∀ (a b : List B), tot (a ++ b) = tot a + tot b
  | [], b => by simp [tot]
  | p :: a, b => by simp only [List.cons_append, tot, tot_append a b]; omega
theorem tot_joined : ∀ ps : List B, ps ≠ [] → tot ps = (joined ps).length + 1
  | [], h => absurd rfl h
  | [p], _ => rfl
  | p :: q :: r, _ => by
    rw [joined_cons p (by simp), tot, tot_joined (q :: r) (by simp), List.length_append, List.length_cons]; omega
theorem len_tot : ∀ ps : List B, ps.length ≤ tot ps
  | [] => Nat.le_refl _
  | p :: ps => by have := len_tot ps; simp only [List.length_cons, tot]; omega
theorem len_pieces (l : B) : (pieces l).length ≤ l.length + 1 := by
  have h := len_tot (pieces l)
  rw [tot_joined _ (pieces_ne l), joined_pieces] at h
  exact h
/-- the pieces of a text up to a place: all but the last are whole, the last one goes on from there -/
def Cut (l : B) (i : Nat) (out : List B) (from_ : Nat) : Prop := i ≤ l.length ∧ pieces (l.take i) = out ++ [(l.take i).drop from_] ∧ from_ = tot out ∧ from_ ≤ i
theorem cut_start (l : B) : Cut l 0 [] 0 := ⟨Nat.zero_le _, by simp [pieces], rfl, Nat.le_refl _⟩
theorem take_succ {l : B} {i : Nat} (h : i < l.length) : l.take (i + 1) = l.take i ++ [l[i]] := by
  rw [List.take_add_one, List.getElem?_eq_getElem h]; rfl
theorem cut_other {l : B} {i : Nat} {out : List B} {f : Nat} (h : Cut l i out f) (hi : i < l.length) (hc : l[i] ≠ 47) : Cut l (i + 1) out f := by
  obtain ⟨h1, h2, h3, h4⟩ := h
  refine ⟨hi, ?_, h3, by omega⟩
  rw [take_succ hi, pieces_snoc _ _ _ _ h2, if_neg hc, List.drop_append_of_le_length (by rw [List.length_take]; omega)]
theorem cut_stroke {l : B} {i : Nat} {out : List B} {f : Nat} (h : Cut l i out f) (hi : i < l.length) (hc : l[i] = 47) : Cut l (i + 1) (out ++ [(l.take i).drop f]) (i + 1) := by
  obtain ⟨h1, h2, h3, h4⟩ := h
  have hl : (l.take i).length = i := by rw [List.length_take]; omega
  refine ⟨hi, ?_, ?_, Nat.le_refl _⟩
  · have e : (l.take i ++ [l[i]]).drop (i + 1) = [] := List.drop_of_length_le (by rw [List.length_append, hl]; simp)
    rw [take_succ hi, pieces_snoc _ _ _ _ h2, if_pos hc, e]
    simp
  · rw [tot_append, ← h3]
    simp only [tot, List.length_drop, hl]
    omega
theorem cut_end {l : B} {out : List B} {f : Nat} (h : Cut l l.length out f) : pieces l = out ++ [l.drop f] := by
  have := h.2.1
  rwa [List.take_length] at this
/-- pieces with the places where they begin -/
def ats : Nat → List B → List (Nat × B)
  | _, [] => []
  | k, p :: ps => (k, p) :: ats (k + p.length + 1) ps
theorem ats_append : ∀ (k : Nat) (a b : List B), ats k (a ++ b) = ats k a ++ ats (k + tot a) b
  | k, [], b => by simp [ats, tot]
  | k, p :: a, b => by
    simp only [List.cons_append, ats, ats_append (k + p.length + 1) a b, tot]
    rw [show k + p.length + 1 + tot a = k + (p.length + 1 + tot a) by omega]
theorem ats_length : ∀ (k : Nat) (a : List B), (ats k a).length = a.length
  | _, [] => rfl
  | k, p :: a => by simp only [ats, List.length_cons, ats_length]
theorem ats_get : ∀ (k : Nat) (a : List B) (j : Nat) (h : j < a.length), (ats k a)[j]? = some (k + tot (a.take j), a[j])
  | k, p :: a, 0, h => by simp [ats, tot]
  | k, p :: a, j + 1, h => by
    have := ats_get (k + p.length + 1) a j (by simpa using h)
    simp only [ats, List.getElem?_cons_succ, this, List.take_succ_cons, tot, List.getElem_cons_succ]
    congr 2
    omega
end Nm
end Go.Proofs.Ytpkdnockbbppiaa
