/- Lists of pairs in memory; the document's own Find (of tabularyref09). -/
import Derived.Test.YtldkhbkgmiicbaaA7
namespace Go.Proofs.Ytldkhbkgmiicbaa
open Go.RowKit Go.Deep
set_option linter.unusedVariables false
set_option linter.unusedSimpArgs false

/-- a list of pairs in memory -/
def PrsAt (w : World) (A : Option Addr) (L : List Px.Pr) : Prop := L = [] ∨ ∃ b off, A = some ⟨b, off, none⟩ ∧ ∀ (i : Nat) (p : Px.Pr), L[i]? = some p → w.cell? ⟨b, off + i * 2, none⟩ = some (.string (Nm.S p.1)) ∧ w.cell? ⟨b, off + i * 2 + 1, none⟩ = some (.string (Nm.S p.2))
theorem PrsAt.keep {w w' : World} {A : Option Addr} {L : List Px.Pr} (h : PrsAt w A L) (g : Bw w w') : PrsAt w' A L := by
  rcases h with h | ⟨b, off, h1, h2⟩
  · exact .inl h
  · refine .inr ⟨b, off, h1, fun i p hp => ?_⟩
    obtain ⟨h3, h4⟩ := h2 i p hp
    have hb := block_lt_of_cell h3
    rw [g.cell (p := ⟨b, off + i * 2, none⟩) hb, g.cell (p := ⟨b, off + i * 2 + 1, none⟩) hb]
    exact ⟨h3, h4⟩
theorem PrsAt.at {w : World} {A : Option Addr} {L : List Px.Pr} (h : PrsAt w A L) (hne : 0 < L.length) : ∃ b off, A = some ⟨b, off, none⟩ ∧ ∀ (i : Nat) (p : Px.Pr), L[i]? = some p → w.cell? ⟨b, off + i * 2, none⟩ = some (.string (Nm.S p.1)) ∧ w.cell? ⟨b, off + i * 2 + 1, none⟩ = some (.string (Nm.S p.2)) := by
  rcases h with h | h
  · rw [h] at hne; simp at hne
  · exact h
namespace Px
theorem find_at {l : List Pr} {k : B} {i : Nat} {p : Pr} (h : l[i]? = some p) (hk : p.1 = k) (hno : ∀ (j : Nat) (q : Pr), j < i → l[j]? = some q → q.1 ≠ k) : find l k = some p.2 := by
  induction l generalizing i with
  | nil => simp at h
  | cons a l ih =>
    cases i with
    | zero =>
      simp at h
      subst h
      unfold find
      rw [if_pos hk]
    | succ i =>
      have ha := hno 0 a (by omega) rfl
      unfold find
      rw [if_neg ha]
      exact ih (by simpa using h) (fun j q hj hq => hno (j + 1) q (by omega) (by simpa using hq))
/-- what Find answers -/
def findE (l : List Pr) (k : B) : B × Nat := match find l k with | some v => (v, 0) | none => ([], 4)
theorem S_eql (a b : B) : ((Nm.S a).toList == (Nm.S b).toList) = decide (a = b) := by
  rw [Nm.toList_S, Nm.toList_S]
  by_cases h : a = b
  · subst h; simp
  · rw [decide_eq_false h, beq_eq_false_iff_ne]; exact h
end Px
end Go.Proofs.Ytldkhbkgmiicbaa
