/- Lists of pairs in the order of their keys: a list laid over another one (code-free). -/
import Derived.Test.YtldkhbkgmiicbaaN5
namespace Go.Proofs.Ytldkhbkgmiicbaa
open Go.RowKit Go.Deep
set_option linter.unusedVariables false
set_option linter.unusedSimpArgs false

namespace Px
abbrev B := List UInt8
abbrev Pr := B × B
/-- keys in their order, each once -/
def Srt (l : List Pr) : Prop := l.Pairwise (fun a b => Nm.less a.1 b.1 = true)
/-- a key's value -/
def find : List Pr → B → Option B
  | [], _ => none
  | a :: l, k => if a.1 = k then some a.2 else find l k
/-- a list laid over another one -/
def over : List Pr → List Pr → List Pr
  | [], m => m
  | a :: l, [] => a :: l
  | a :: l, b :: m => if Nm.less a.1 b.1 = true then a :: over l (b :: m) else if a.1 = b.1 then b :: over l m else b :: over (a :: l) m
termination_by l m => l.length + m.length
theorem over_nil_l (m : List Pr) : over [] m = m := by unfold over; rfl
theorem over_nil_r (l : List Pr) : over l [] = l := by cases l <;> (unfold over; rfl)
theorem over_cons (a b : Pr) (l m : List Pr) : over (a :: l) (b :: m) = if Nm.less a.1 b.1 = true then a :: over l (b :: m) else if a.1 = b.1 then b :: over l m else b :: over (a :: l) m := by rw [over]
theorem over_less {a b : Pr} (l m : List Pr) (h : Nm.less a.1 b.1 = true) : over (a :: l) (b :: m) = a :: over l (b :: m) := by rw [over_cons, if_pos h]
theorem over_same {a b : Pr} (l m : List Pr) (h : a.1 = b.1) : over (a :: l) (b :: m) = b :: over l m := by
  rw [over_cons, if_neg (by rw [h, Nm.less_irr]; simp), if_pos h]
theorem over_more {a b : Pr} (l m : List Pr) (h : Nm.less b.1 a.1 = true) : over (a :: l) (b :: m) = b :: over (a :: l) m := by
  rw [over_cons, if_neg (by rw [Nm.less_asym h]; simp), if_neg (fun e => by rw [e, Nm.less_irr] at h; cases h)]
theorem three (a b : B) : Nm.less a b = true ∨ a = b ∨ Nm.less b a = true := by
  cases h : Nm.less a b with
  | true => exact .inl rfl
  | false =>
    cases k : Nm.less b a with
    | true => exact .inr (.inr rfl)
    | false => exact .inr (.inl (Nm.less_tot _ _ h k))
theorem find_none {l : List Pr} {k : B} (h : ∀ x ∈ l, x.1 ≠ k) : find l k = none := by
  induction l with
  | nil => rfl
  | cons a l ih =>
    unfold find
    rw [if_neg (h a List.mem_cons_self)]
    exact ih fun x hx => h x (List.mem_cons_of_mem _ hx)
theorem find_mem {l : List Pr} {k v : B} (h : find l k = some v) : (k, v) ∈ l := by
  induction l with
  | nil => cases h
  | cons a l ih =>
    unfold find at h
    split at h
    · rename_i e
      injection h with h
      rw [← e, ← h]
      exact List.mem_cons_self
    · exact List.mem_cons_of_mem _ (ih h)
/-- ahead of a sorted list's first, nothing is found -/
theorem find_ahead {b : Pr} {m : List Pr} {k : B} (hs : Srt (b :: m)) (h : Nm.less k b.1 = true) : find (b :: m) k = none := by
  refine find_none fun x hx e => ?_
  rcases List.mem_cons.1 hx with rfl | hx
  · rw [e, Nm.less_irr] at h; cases h
  · have h2 := Nm.less_trans _ _ _ h ((List.pairwise_cons.1 hs).1 x hx)
    rw [e, Nm.less_irr] at h2; cases h2
theorem find_rest {a : Pr} {l : List Pr} (hs : Srt (a :: l)) : find l a.1 = none := by
  refine find_none fun x hx e => ?_
  have h2 := (List.pairwise_cons.1 hs).1 x hx
  rw [e, Nm.less_irr] at h2; cases h2
theorem Srt.tail {a : Pr} {l : List Pr} (h : Srt (a :: l)) : Srt l := (List.pairwise_cons.1 h).2
theorem mem_over : ∀ (n : Nat) (l m : List Pr), l.length + m.length ≤ n → ∀ x, x ∈ over l m → x ∈ l ∨ x ∈ m := by
  intro n
  induction n with
  | zero =>
    intro l m h x hx
    obtain rfl : l = [] := List.eq_nil_of_length_eq_zero (by omega)
    rw [over_nil_l] at hx
    exact .inr hx
  | succ n ih =>
    intro l m h x hx
    cases l with
    | nil => rw [over_nil_l] at hx; exact .inr hx
    | cons a l =>
      cases m with
      | nil => rw [over_nil_r] at hx; exact .inl hx
      | cons b m =>
        simp only [List.length_cons] at h
        rcases three a.1 b.1 with h1 | h1 | h1
        · rw [over_less l m h1] at hx
          rcases List.mem_cons.1 hx with rfl | hx
          · exact .inl List.mem_cons_self
          · exact (ih l (b :: m) (by simp; omega) x hx).imp (List.mem_cons_of_mem _) id
        · rw [over_same l m h1] at hx
          rcases List.mem_cons.1 hx with rfl | hx
          · exact .inr List.mem_cons_self
          · exact (ih l m (by omega) x hx).imp (List.mem_cons_of_mem _) (List.mem_cons_of_mem _)
        · rw [over_more l m h1] at hx
          rcases List.mem_cons.1 hx with rfl | hx
          · exact .inr List.mem_cons_self
          · exact (ih (a :: l) m (by simp; omega) x hx).imp id (List.mem_cons_of_mem _)
theorem find_over : ∀ (n : Nat) (l m : List Pr), l.length + m.length ≤ n → Srt l → Srt m → ∀ k, find (over l m) k = (find m k).or (find l k) := by
  intro n
  induction n with
  | zero =>
    intro l m h hl hm k
    obtain rfl : l = [] := List.eq_nil_of_length_eq_zero (by omega)
    rw [over_nil_l]
    show _ = (find m k).or none
    rw [Option.or_none]
  | succ n ih =>
    intro l m h hl hm k
    cases l with
    | nil => rw [over_nil_l]; show _ = (find m k).or none; rw [Option.or_none]
    | cons a l =>
      cases m with
      | nil => rw [over_nil_r]; rfl
      | cons b m =>
        simp only [List.length_cons] at h
        rcases three a.1 b.1 with h1 | h1 | h1
        · rw [over_less l m h1, find, ih l (b :: m) (by simp; omega) hl.tail hm k, find.eq_2 k a l]
          by_cases e : a.1 = k
          · rw [if_pos e, if_pos e, find_ahead hm (by rw [← e]; exact h1)]; rfl
          · rw [if_neg e, if_neg e]
        · rw [over_same l m h1, find, ih l m (by omega) hl.tail hm.tail k, find.eq_2 k a l, find.eq_2 k b m, h1]
          by_cases e : b.1 = k
          · rw [if_pos e, if_pos e]; rfl
          · rw [if_neg e, if_neg e, if_neg e]
        · rw [over_more l m h1, find, ih (a :: l) m (by simp; omega) hl hm.tail k, find.eq_2 k b m]
          by_cases e : b.1 = k
          · rw [if_pos e, if_pos e]; rfl
          · rw [if_neg e, if_neg e]
theorem srt_over : ∀ (n : Nat) (l m : List Pr), l.length + m.length ≤ n → Srt l → Srt m → Srt (over l m) := by
  intro n
  induction n with
  | zero =>
    intro l m h hl hm
    obtain rfl : l = [] := List.eq_nil_of_length_eq_zero (by omega)
    rw [over_nil_l]; exact hm
  | succ n ih =>
    intro l m h hl hm
    cases l with
    | nil => rw [over_nil_l]; exact hm
    | cons a l =>
      cases m with
      | nil => rw [over_nil_r]; exact hl
      | cons b m =>
        simp only [List.length_cons] at h
        have al := (List.pairwise_cons.1 hl).1
        have bm := (List.pairwise_cons.1 hm).1
        rcases three a.1 b.1 with h1 | h1 | h1
        · rw [over_less l m h1]
          refine List.pairwise_cons.2 ⟨fun x hx => ?_, ih l (b :: m) (by simp; omega) hl.tail hm⟩
          rcases mem_over _ _ _ (Nat.le_refl _) x hx with hx | hx
          · exact al x hx
          · rcases List.mem_cons.1 hx with rfl | hx
            · exact h1
            · exact Nm.less_trans _ _ _ h1 (bm x hx)
        · rw [over_same l m h1]
          refine List.pairwise_cons.2 ⟨fun x hx => ?_, ih l m (by omega) hl.tail hm.tail⟩
          rcases mem_over _ _ _ (Nat.le_refl _) x hx with hx | hx
          · rw [← h1]; exact al x hx
          · exact bm x hx
        · rw [over_more l m h1]
          refine List.pairwise_cons.2 ⟨fun x hx => ?_, ih (a :: l) m (by simp; omega) hl hm.tail⟩
          rcases mem_over _ _ _ (Nat.le_refl _) x hx with hx | hx
          · rcases List.mem_cons.1 hx with rfl | hx
            · exact h1
            · exact Nm.less_trans _ _ _ h1 (al x hx)
          · exact bm x hx
theorem overs_srt {l m : List Pr} (hl : Srt l) (hm : Srt m) : Srt (over l m) := srt_over _ l m (Nat.le_refl _) hl hm
theorem overs_find {l m : List Pr} (hl : Srt l) (hm : Srt m) (k : B) : find (over l m) k = (find m k).or (find l k) := find_over _ l m (Nat.le_refl _) hl hm k
theorem overs_mem {l m : List Pr} {x : Pr} (h : x ∈ over l m) : x ∈ l ∨ x ∈ m := mem_over _ l m (Nat.le_refl _) x h
/-- sorted lists that tell the same of every key are the same -/
theorem srt_ext : ∀ (x y : List Pr), Srt x → Srt y → (∀ k, find x k = find y k) → x = y
  | [], [], _, _, _ => rfl
  | [], b :: y, _, _, h => by have := h b.1; rw [find.eq_2, if_pos rfl] at this; cases this
  | a :: x, [], _, _, h => by have := h a.1; rw [find.eq_2, if_pos rfl] at this; cases this
  | a :: x, b :: y, hx, hy, h => by
    rcases three a.1 b.1 with h1 | h1 | h1
    · have := h a.1
      rw [find_ahead hy h1, find.eq_2, if_pos rfl] at this; cases this
    · have h2 := h a.1
      rw [find.eq_2, if_pos rfl, find.eq_2, if_pos h1.symm] at h2
      injection h2 with h2
      have hab : a = b := Prod.ext h1 h2
      subst hab
      rw [srt_ext x y hx.tail hy.tail fun k => ?_]
      by_cases e : a.1 = k
      · rw [← e, find_rest hx, find_rest hy]
      · have := h k
        rwa [find.eq_2, find.eq_2, if_neg e, if_neg e] at this
    · have := h b.1
      rw [find_ahead hx h1, find.eq_2, if_pos rfl] at this; cases this
theorem over_assoc {l m n : List Pr} (hl : Srt l) (hm : Srt m) (hn : Srt n) : over (over l m) n = over l (over m n) := by
  refine srt_ext _ _ (overs_srt (overs_srt hl hm) hn) (overs_srt hl (overs_srt hm hn)) fun k => ?_
  rw [overs_find (overs_srt hl hm) hn, overs_find hl hm, overs_find hl (overs_srt hm hn), overs_find hm hn, Option.or_assoc]
end Px
end Go.Proofs.Ytldkhbkgmiicbaa
