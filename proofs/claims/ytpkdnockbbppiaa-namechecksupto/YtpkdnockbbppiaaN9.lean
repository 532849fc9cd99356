/- The document's own Lead. -/
import Derived.Test.YtpkdnockbbppiaaN8
namespace Go.Proofs.Ytpkdnockbbppiaa
open Go.RowKit Go.Deep
set_option linter.unusedVariables false
set_option linter.unusedSimpArgs false

namespace Nm
/-- a link's way -/
def leadF : List B → List B → Option (List B)
  | way, [] => some way
  | way, s :: ss => if s = [] ∨ s = [46] then leadF way ss else if s ≠ [46, 46] then leadF (way ++ [s]) ss else if way = [] then none else leadF way.dropLast ss
/-- where a link leads -/
def lead (from_ to : B) : B × Int := if (check from_).2 ≠ 0 then ([], (check from_).2) else if to = [] then ([], 80) else if 400 < to.length then ([], 2) else if nul to ≠ none then ([], 82) else if to.head? = some 47 then ([], 83) else
  match leadF (pieces from_).dropLast (pieces to) with | none => ([], 83) | some way => (joined way, 0)
theorem lead_bd (a b : B) : 0 ≤ (lead a b).2 ∧ (lead a b).2 ≤ 100 := by
  unfold lead
  split
  · have := check_bd a; dsimp only; omega
  · repeat (split; · decide)
    show (0 : Int) ≤ 0 ∧ (0 : Int) ≤ 100
    decide
theorem joinE_bd (ps : List B) : 0 ≤ (joinE ps).2 ∧ (joinE ps).2 ≤ 100 := by
  unfold joinE
  split
  · decide
  · split
    · decide
    · split
      · show (0 : Int) ≤ 0 ∧ (0 : Int) ≤ 100
        decide
      · have := check_bd (joined ps); dsimp only; omega
theorem split_bd {l a b : B} {er : Int} (h : SplitSays l a b er) : 0 ≤ er ∧ er ≤ 100 := by
  by_cases h1 : (check l).2 = 0
  · by_cases h2 : l.length ≤ 100
    · have := (h.short h1 h2).2.2; omega
    · rcases last_cut l with hc | ⟨i, hi, hl⟩
      · have := (h.long h1 (by omega) hc).2.2; omega
      · have := (h.cut h1 (by omega) i hi hl).2.2; omega
  · have := (h.bad h1).2.2; have := check_bd l; omega
/-- the cells of a list of texts -/
def cellsS (ps : List B) : List Value := ps.map fun p => .string (S p)
theorem cellsS_snoc (ps : List B) (p : B) : cellsS (ps ++ [p]) = cellsS ps ++ [.string (S p)] := by unfold cellsS; simp
end Nm
theorem info_str : (Try.prog.info? 9).map (fun i => (i.zero, i.size, i.bytes)) = some (some (.string ⟨#[]⟩), 1, 16) := by kernel_rfl
/-- a row of the call's own, cut short -/
theorem own_cut {W : World} {b g n m cap : Nat} {e : TypeId} {xs : List Value} (h : W.ownsRow b e 1 (.slice (some ⟨g, 0, none⟩) n cap) n xs) (hm : m ≤ n) : W.ownsRow b e 1 (.slice (some ⟨g, 0, none⟩) m cap) m (xs.take m) := by
  obtain ⟨h1, h2⟩ := h
  refine ⟨by rw [List.length_take, h1]; omega, ?_⟩
  rcases h2 with ⟨h0, _⟩ | ⟨g', cap', cur, hv, hg, hc, k1, k2, k3, k4⟩
  · cases h0
  · cases hv
    refine Or.inr ⟨g, cap, cur, rfl, hg, hc, by omega, k2, k3, ?_⟩
    rw [← k4, List.take_take, Nat.mul_one, Nat.mul_one, Nat.min_eq_left hm]
theorem strs_own {W : World} {b : Nat} {v : Value} {ps : List Nm.B} (h : W.ownsRow b 9 1 v ps.length (Nm.cellsS ps)) : ∃ A cap, v = .slice A ps.length cap ∧ StrsAt W A ps.length (fun i => Nm.S (ps.getD i [])) ∧ (ps ≠ [] → ∃ g, A = some ⟨g, 0, none⟩) := by
  rcases h.2 with ⟨rfl, h0⟩ | ⟨g, cap, cur, rfl, hg, hc, k1, k2, k3, k4⟩
  · exact ⟨none, 0, by rw [h0], Or.inl h0, fun hne => absurd (List.eq_nil_of_length_eq_zero h0) hne⟩
  · refine ⟨_, cap, rfl, Or.inr ⟨g, 0, rfl, fun i hi => ?_⟩, fun _ => ⟨g, rfl⟩⟩
    rw [Nat.zero_add, cell_of_row W g i cur _ _ hc, ← Array.getElem?_toList]
    have e : (cur.toList.take (ps.length * 1))[i]? = (Nm.cellsS ps)[i]? := by rw [k4]
    rw [Nat.mul_one, List.getElem?_take, if_pos hi] at e
    rw [e]
    unfold Nm.cellsS
    rw [List.getElem?_map, List.getElem?_eq_getElem hi]
    dsimp only [Option.map]
    rw [List.getD_eq_getElem?_getD, List.getElem?_eq_getElem hi]; rfl
theorem partsL_of (ps : List Nm.B) : partsL (fun i => Nm.S (ps.getD i [])) ps.length = ps := by
  apply List.ext_getElem?
  intro i
  unfold partsL
  rw [List.getElem?_map]
  rcases Nat.lt_or_ge i ps.length with h | h
  · rw [List.getElem?_range h, List.getElem?_eq_getElem h]
    simp only [Option.map_some, Nm.toList_S, List.getD_eq_getElem?_getD, List.getElem?_eq_getElem h, Option.getD_some]
  · rw [List.getElem?_eq_none (by simpa using h), List.getElem?_eq_none h]; rfl

/-- two rows of the call's own of unlike types lie apart -/
theorem own_apart8 {W : World} {b b' : Nat} {e e' : TypeId} {s s' n n' : Nat} {v v' : Value} {xs xs' : List Value} (h : W.ownsRow b e s v n xs) (h' : W.ownsRow b' e' s' v' n' xs') (hne : e ≠ e') : v.ownBlock = none ∨ v.ownBlock ≠ v'.ownBlock := by
  rcases h.2 with ⟨rfl, _⟩ | ⟨g, cap, cur, rfl, _, hg, _⟩
  · exact Or.inl rfl
  · rcases h'.2 with ⟨rfl, _⟩ | ⟨g', cap', cur', rfl, _, hg', _⟩
    · exact Or.inr (fun e => by cases e)
    · refine Or.inr fun e => ?_
      simp only [Value.ownBlock, Option.some.injEq] at e
      subst e
      rw [hg] at hg'
      cases hg'
      exact hne rfl
theorem tot_dropLast (ps : List Nm.B) : Nm.tot ps.dropLast ≤ Nm.tot ps := by
  cases h : ps with
  | nil => exact Nat.le_refl _
  | cons p r =>
    rw [← h]
    have e := List.dropLast_concat_getLast (show ps ≠ [] by rw [h]; simp)
    have h2 := Nm.tot_append ps.dropLast [ps.getLast (by rw [h]; simp)]
    rw [e] at h2
    omega
end Go.Proofs.Ytpkdnockbbppiaa
