/- The document's own Nul, part and Check. -/
import Derived.Test.YtjifdoneejofiabN2
namespace Go.Proofs.Ytjifdoneejofiab
open Go.RowKit Go.Deep
set_option linter.unusedVariables false
set_option linter.unusedSimpArgs false

namespace Nm
/-- where the first byte 0 is -/
def nul : B → Option Nat
  | [] => none
  | c :: l => if c = 0 then some 0 else (nul l).map (· + 1)
theorem nul_some : ∀ (l : B) (i : Nat), l[i]? = some 0 → (∀ j, j < i → l[j]? ≠ some 0) → nul l = some i
  | [], i, h, _ => by simp at h
  | c :: l, 0, h, _ => by
    simp at h
    unfold nul; rw [if_pos h]
  | c :: l, i + 1, h, k => by
    have h0 : c ≠ 0 := fun e => k 0 (by omega) (by simp [e])
    unfold nul
    rw [if_neg h0, nul_some l i (by simpa using h) (fun j hj => by have := k (j + 1) (by omega); simpa using this)]; rfl
theorem nul_none : ∀ (l : B), (∀ j, j < l.length → l[j]? ≠ some 0) → nul l = none
  | [], _ => rfl
  | c :: l, k => by
    have h0 : c ≠ 0 := fun e => k 0 (by simp) (by simp [e])
    unfold nul
    rw [if_neg h0, nul_none l (fun j hj => by have := k (j + 1) (by simpa using hj); simpa using this)]; rfl
theorem nul_lt : ∀ (l : B) (i : Nat), nul l = some i → i < l.length
  | [], i, h => by simp [nul] at h
  | c :: l, i, h => by
    unfold nul at h
    by_cases h0 : c = 0
    · rw [if_pos h0] at h; cases h; simp
    · rw [if_neg h0] at h
      cases e : nul l with
      | none => rw [e] at h; cases h
      | some j =>
        rw [e] at h
        have := nul_lt l j e
        simp at h
        subst h
        simpa using this
theorem nul_none_iff : ∀ (l : B), nul l = none ↔ (0 : UInt8) ∉ l
  | [] => by simp [nul]
  | c :: l => by
    unfold nul
    by_cases h0 : c = 0
    · subst h0; simp
    · rw [if_neg h0, Option.map_eq_none_iff, nul_none_iff l, List.mem_cons]
      constructor
      · intro h k; rcases k with k | k
        · exact h0 k.symm
        · exact h k
      · exact fun h k => h (Or.inr k)
/-- what Nul answers -/
def nulI (l : B) : Int := match nul l with | some n => (n : Int) | none => -1
/-- the first thing that is wrong with a piece, and where in it -/
def partE (p : B) : Nat × Int := if p = [] then (0, 80) else if 120 < p.length then (0, 2) else if p = [46] ∨ p = [46, 46] then (0, 81) else match nul p with | some n => (n, 82) | none => (0, 0)
def chk : Nat → List B → Int × Int
  | _, [] => (0, 0)
  | k, p :: ps => if (partE p).2 = 0 then chk (k + p.length + 1) ps else (((k + (partE p).1 : Nat) : Int), (partE p).2)
theorem chk_all : ∀ (k : Nat) (ps : List B), (∀ p ∈ ps, (partE p).2 = 0) → chk k ps = (0, 0)
  | _, [], _ => rfl
  | k, p :: ps, h => by unfold chk; rw [if_pos (h p (by simp))]; exact chk_all _ ps (fun q hq => h q (List.mem_cons_of_mem _ hq))
theorem chk_at : ∀ (k : Nat) (ps : List B) (j : Nat) (h : j < ps.length), (∀ i (hi : i < ps.length), i < j → (partE ps[i]).2 = 0) → (partE ps[j]).2 ≠ 0 → chk k ps = (((k + tot (ps.take j) + (partE ps[j]).1 : Nat) : Int), (partE ps[j]).2)
  | k, p :: ps, 0, h, _, hn => by
    unfold chk
    rw [if_neg (by simpa using hn)]
    simp [tot]
  | k, p :: ps, j + 1, h, h0, hn => by
    have hp : (partE p).2 = 0 := h0 0 (by simp) (by omega)
    unfold chk
    rw [if_pos hp, chk_at _ ps j (by simpa using h) (fun i hi hij => by have := h0 (i + 1) (by simpa using hi) (by omega); simpa using this) (by simpa using hn)]
    simp only [List.take_succ_cons, tot, List.getElem_cons_succ]
    congr 2
    omega
/-- the first thing that is wrong with a text, and where -/
def check (l : B) : Int × Int := if 400 < l.length then (0, 2) else chk 0 (pieces l)
end Nm

end Go.Proofs.Ytjifdoneejofiab
