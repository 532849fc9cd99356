/- The document's own Over (of tabularyref09). -/
import Derived.Test.YtldkhbkgmiicbaaAC
namespace Go.Proofs.Ytldkhbkgmiicbaa
open Go.RowKit Go.Deep
set_option linter.unusedVariables false
set_option linter.unusedSimpArgs false

namespace Px
/-- Over's answer -/
def overF (l m : List Pr) : List Pr × Nat := if (putF l).2.2 ≠ 0 then ([], (putF l).2.2) else if (putF m).2.2 ≠ 0 then ([], (putF m).2.2) else if 64 < (over l m).length then ([], 3) else (over l m, 0)
theorem put_er (l : List Pr) : (putF l).2.2 ≤ 100 := by
  have h : ∀ (l : List Pr) (o : Option B) (i : Nat), (putE o l i).2 ≤ 100 := by
    intro l
    induction l with
    | nil => intro o i; exact Nat.zero_le _
    | cons p l ih =>
      intro o i
      unfold putE
      have := fits_vals p
      split
      · show fits p ≤ 100; omega
      · split
        · exact (by decide : (92 : Nat) ≤ 100)
        · exact ih _ _
  unfold putF
  split
  · exact (by decide : (3 : Nat) ≤ 100)
  · split
    · exact h l none 0
    · exact Nat.zero_le _
theorem over_take_l {L M : List Pr} {i k : Nat} {p : Pr} (hi : L[i]? = some p) (hk : M.length ≤ k) : over (L.drop i) (M.drop k) = p :: over (L.drop (i + 1)) (M.drop k) := by
  obtain ⟨h, e⟩ := List.getElem?_eq_some_iff.1 hi
  rw [List.drop_of_length_le hk, over_nil_r, over_nil_r, List.drop_eq_getElem_cons h, e]
theorem over_less_l {L M : List Pr} {i k : Nat} {p q : Pr} (hi : L[i]? = some p) (hk : M[k]? = some q) (hl : Nm.less p.1 q.1 = true) : over (L.drop i) (M.drop k) = p :: over (L.drop (i + 1)) (M.drop k) := by
  obtain ⟨h, e⟩ := List.getElem?_eq_some_iff.1 hi
  obtain ⟨h', e'⟩ := List.getElem?_eq_some_iff.1 hk
  rw [List.drop_eq_getElem_cons h, List.drop_eq_getElem_cons h', e, e', over_less _ _ hl]
theorem over_same_m {L M : List Pr} {i k : Nat} {p q : Pr} (hi : L[i]? = some p) (hk : M[k]? = some q) (hl : p.1 = q.1) : over (L.drop i) (M.drop k) = q :: over (L.drop (i + 1)) (M.drop (k + 1)) := by
  obtain ⟨h, e⟩ := List.getElem?_eq_some_iff.1 hi
  obtain ⟨h', e'⟩ := List.getElem?_eq_some_iff.1 hk
  rw [List.drop_eq_getElem_cons h, List.drop_eq_getElem_cons h', e, e', over_same _ _ hl]
theorem over_more_m {L M : List Pr} {i k : Nat} {p q : Pr} (hi : L[i]? = some p) (hk : M[k]? = some q) (hl : Nm.less p.1 q.1 = false) (hn : p.1 ≠ q.1) : over (L.drop i) (M.drop k) = q :: over (L.drop i) (M.drop (k + 1)) := by
  obtain ⟨h, e⟩ := List.getElem?_eq_some_iff.1 hi
  obtain ⟨h', e'⟩ := List.getElem?_eq_some_iff.1 hk
  have hm : Nm.less q.1 p.1 = true := by
    rcases three p.1 q.1 with g | g | g
    · rw [hl] at g; cases g
    · exact absurd g hn
    · exact g
  rw [List.drop_eq_getElem_cons h, List.drop_eq_getElem_cons h', e, e', over_more _ _ hm]
theorem over_take_m {L M : List Pr} {i k : Nat} {q : Pr} (hi : L.length ≤ i) (hk : M[k]? = some q) : over (L.drop i) (M.drop k) = q :: over (L.drop i) (M.drop (k + 1)) := by
  obtain ⟨h', e'⟩ := List.getElem?_eq_some_iff.1 hk
  rw [List.drop_of_length_le hi, over_nil_l, over_nil_l, List.drop_eq_getElem_cons h', e']
end Px
/-- what Over answers -/
def OverEnds (base : Nat) (L M : List Px.Pr) (e : Ending) (w' : World) : Prop :=
  ((Px.overF L M).2 ≠ 0 ∧ e = .returned (.tuple #[.slice none 0 0, .int .i64 ((Px.overF L M).2 : Int)])) ∨
  ((Px.overF L M).2 = 0 ∧ ∃ v, e = .returned (.tuple #[v, .int .i64 0]) ∧ w'.ownsRow base 33 2 v (Px.overF L M).1.length (Px.cellsPr (Px.overF L M).1))
end Go.Proofs.Ytldkhbkgmiicbaa
