/- The document's own Beneath and Split. -/
import Derived.Test.YtjifdoneejofiabN5
namespace Go.Proofs.Ytjifdoneejofiab
open Go.RowKit Go.Deep
set_option linter.unusedVariables false
set_option linter.unusedSimpArgs false

namespace Nm
theorem check_bd (l : B) : 0 ≤ (check l).1 ∧ (check l).1 ≤ 1000 ∧ 0 ≤ (check l).2 ∧ (check l).2 ≤ 100 := by
  unfold check
  split
  · decide
  · rename_i h
    have hp : ∀ p ∈ pieces l, p.length ≤ 400 := fun p hp => by have := piece_len hp; omega
    have ht : tot (pieces l) ≤ 401 := by rw [tot_joined _ (pieces_ne l), joined_pieces]; omega
    have : ∀ (ps : List B) (k : Nat), (∀ p ∈ ps, p.length ≤ 400) → k + tot ps ≤ 401 → 0 ≤ (chk k ps).1 ∧ (chk k ps).1 ≤ 1000 ∧ 0 ≤ (chk k ps).2 ∧ (chk k ps).2 ≤ 100 := by
      intro ps
      induction ps with
      | nil => intro k _ _; unfold chk; decide
      | cons p ps ih =>
        intro k h1 h2
        unfold chk
        unfold tot at h2
        have hb := partE_bd (h1 p (by simp))
        split
        · exact ih _ (fun q hq => h1 q (List.mem_cons_of_mem _ hq)) (by omega)
        · dsimp only; omega
    exact this _ 0 hp (by omega)
/-- all of one list are the first of another one, which has more -/
def Front (xs ys : List B) : Prop := xs.length < ys.length ∧ ∀ i (h1 : i < xs.length) (h2 : i < ys.length), xs[i] = ys[i]
def Beneath (root p : B) : Prop := (check p).2 = 0 ∧ (root = [] ∨ ((check root).2 = 0 ∧ Front (pieces root) (pieces p)))
/-- a stroke at which a path can be cut -/
def CutAt (l : B) (i : Nat) : Prop := l[i]? = some 47 ∧ i ≤ 155 ∧ l.length - i - 1 ≤ 100
/-- what Split answers -/
structure SplitSays (l a b : B) (er : Int) : Prop where
  bad : (check l).2 ≠ 0 → a = [] ∧ b = [] ∧ er = (check l).2
  short : (check l).2 = 0 → l.length ≤ 100 → a = [] ∧ b = l ∧ er = 0
  cut : (check l).2 = 0 → 100 < l.length → ∀ i, CutAt l i → (∀ j, i < j → ¬ CutAt l j) → a = l.take i ∧ b = l.drop (i + 1) ∧ er = 0
  long : (check l).2 = 0 → 100 < l.length → (∀ j, ¬ CutAt l j) → a = [] ∧ b = [] ∧ er = 2
theorem cut_lt {l : B} {i : Nat} (h : CutAt l i) : i < l.length := (List.getElem?_eq_some_iff.1 h.1).1
theorem last_cut (l : B) : (∀ j, ¬ CutAt l j) ∨ ∃ i, CutAt l i ∧ ∀ j, i < j → ¬ CutAt l j := by
  have : ∀ n, (∀ j, j < n → ¬ CutAt l j) ∨ ∃ i, i < n ∧ CutAt l i ∧ ∀ j, i < j → j < n → ¬ CutAt l j := by
    intro n
    induction n with
    | zero => exact Or.inl (fun j hj => by omega)
    | succ n ih =>
      by_cases h : CutAt l n
      · exact Or.inr ⟨n, by omega, h, fun j h1 h2 => by omega⟩
      · rcases ih with ih | ⟨i, h1, h2, h3⟩
        · exact Or.inl (fun j hj => by rcases Nat.lt_or_ge j n with k | k; exact ih j k; rw [show j = n by omega]; exact h)
        · exact Or.inr ⟨i, by omega, h2, fun j k1 k2 => by rcases Nat.lt_or_ge j n with k | k; exact h3 j k1 k; rw [show j = n by omega]; exact h⟩
  rcases this l.length with h | ⟨i, h1, h2, h3⟩
  · exact Or.inl (fun j hj => h j (cut_lt hj) hj)
  · exact Or.inr ⟨i, h2, fun j k hj => h3 j k (cut_lt hj) hj⟩
theorem split_unique {l a b a' b' : B} {e e' : Int} (h : SplitSays l a b e) (k : SplitSays l a' b' e') : a = a' ∧ b = b' ∧ e = e' := by
  by_cases h1 : (check l).2 = 0
  · by_cases h2 : l.length ≤ 100
    · obtain ⟨rfl, rfl, rfl⟩ := h.short h1 h2
      obtain ⟨rfl, rfl, rfl⟩ := k.short h1 h2
      exact ⟨rfl, rfl, rfl⟩
    · rcases last_cut l with hc | ⟨i, hi, hl⟩
      · obtain ⟨rfl, rfl, rfl⟩ := h.long h1 (by omega) hc
        obtain ⟨rfl, rfl, rfl⟩ := k.long h1 (by omega) hc
        exact ⟨rfl, rfl, rfl⟩
      · obtain ⟨rfl, rfl, rfl⟩ := h.cut h1 (by omega) i hi hl
        obtain ⟨rfl, rfl, rfl⟩ := k.cut h1 (by omega) i hi hl
        exact ⟨rfl, rfl, rfl⟩
  · obtain ⟨rfl, rfl, rfl⟩ := h.bad h1
    obtain ⟨rfl, rfl, rfl⟩ := k.bad h1
    exact ⟨rfl, rfl, rfl⟩
end Nm
/-- a call answers whether something holds -/
def TellsN (e : Ending) (P : Prop) : Prop := ∃ x : Bool, e = .returned (.bool x) ∧ (x = true ↔ P)
theorem TellsN.no {P : Prop} (h : ¬ P) : TellsN (.returned (.bool false)) P := ⟨false, rfl, ⟨fun e => Bool.noConfusion e, fun e => absurd e h⟩⟩
theorem TellsN.yes {P : Prop} (h : P) : TellsN (.returned (.bool true)) P := ⟨true, rfl, ⟨fun _ => h, fun _ => rfl⟩⟩

end Go.Proofs.Ytjifdoneejofiab
