/- The document's own Get (of tabularyref09). -/
import Derived.Test.YtldkhbkgmiicbaaAB
namespace Go.Proofs.Ytldkhbkgmiicbaa
open Go.RowKit Go.Deep
set_option linter.unusedVariables false
set_option linter.unusedSimpArgs false

namespace Px
/-- the cells of a list of pairs -/
def cellsPr : List Pr → List Value
  | [] => []
  | p :: l => .string (Nm.S p.1) :: .string (Nm.S p.2) :: cellsPr l
theorem cellsPr_append : ∀ a b, cellsPr (a ++ b) = cellsPr a ++ cellsPr b
  | [], b => rfl
  | p :: a, b => by simp only [List.cons_append, cellsPr, cellsPr_append a b]
theorem cellsPr_len : ∀ a, (cellsPr a).length = a.length * 2
  | [] => rfl
  | p :: a => by simp only [cellsPr, List.length_cons, cellsPr_len a]; omega
theorem cellsPr_get : ∀ (a : List Pr) (j : Nat) (p : Pr), a[j]? = some p → (cellsPr a)[j * 2]? = some (.string (Nm.S p.1)) ∧ (cellsPr a)[j * 2 + 1]? = some (.string (Nm.S p.2))
  | [], j, p, h => by simp at h
  | q :: a, 0, p, h => by simp at h; subst h; exact ⟨rfl, rfl⟩
  | q :: a, j + 1, p, h => by
    have := cellsPr_get a j p (by simpa using h)
    rw [show (j + 1) * 2 = j * 2 + 1 + 1 by omega]
    exact this
end Px
theorem info_pair : (Try.prog.info? 33).map (fun i => (i.zero, i.size, i.bytes)) = some (some (.agg #[.string ⟨#[]⟩, .string ⟨#[]⟩]), 2, 32) := by kernel_rfl
/-- a list of pairs of the call's own lies in memory -/
theorem prs_of_own {w : World} {base : Nat} {v : Value} {L : List Px.Pr} (h : w.ownsRow base 33 2 v L.length (Px.cellsPr L)) : ∃ A cap, v = .slice A L.length cap ∧ L.length ≤ cap ∧ PrsAt w A L ∧ (A = none → cap = 0) := by
  rcases h.2 with ⟨h0, h1⟩ | ⟨g, cap, cur, hv, hb, hg, h1, h2, h3, h4⟩
  · have : L = [] := List.eq_nil_of_length_eq_zero h1
    subst this
    exact ⟨none, 0, h0, Nat.le_refl _, .inl rfl, fun _ => rfl⟩
  · refine ⟨some ⟨g, 0, none⟩, cap, hv, h1, .inr ⟨g, 0, rfl, fun i p hp => ?_⟩, fun e => by cases e⟩
    have hi := (List.getElem?_eq_some_iff.1 hp).1
    have hc := Px.cellsPr_get L i p hp
    have e : ∀ j, j < L.length * 2 → cur[j]? = (Px.cellsPr L)[j]? := fun j hj => by
      rw [← h4, List.getElem?_take, if_pos hj, Array.getElem?_toList]
    rw [Nat.zero_add, cell_of_row w g _ cur _ _ hg, cell_of_row w g _ cur _ _ hg, e _ (by omega), e _ (by omega)]
    exact hc
theorem rowat_drop {u : World} {B off : Nat} {b : Px.B} (h : RowAt u (some ⟨B, off, none⟩) b.length (Px.rowF b)) (q : Nat) : RowAt u (some ⟨B, off + q, none⟩) (b.drop q).length (Px.rowF (b.drop q)) := by
  refine ⟨.inr ⟨B, off + q, rfl, fun i hi => ?_⟩, Px.rowF_bd _⟩
  rw [List.length_drop] at hi
  obtain ⟨b', o', e, hc⟩ := h.at (k := q + i) (by omega)
  cases e
  have hx : b[q + i]? = some (b[q + i]'(by omega)) := List.getElem?_eq_getElem (by omega)
  have hy : (b.drop q)[i]? = some (b[q + i]'(by omega)) := by rw [List.getElem?_drop, hx]
  rw [Nat.add_assoc, hc (q + i) (by omega), Px.rowF_at hx, Px.rowF_at hy]
namespace Px
theorem getF_at {b : B} {q : Nat} {out : List Pr} (h : b ≠ []) : getF b q out = if out.length = 64 then ([], q, 3) else if (oneF b).2.2 ≠ 0 then ([], q, (oneF b).2.2) else if behind (out.getLast?.map (·.1)) (oneF b).1.1 = false then ([], q, 92) else if (oneF b).2.1 = 0 then ([], q, 90) else getF (b.drop (oneF b).2.1) (q + (oneF b).2.1) (out ++ [(oneF b).1]) := by
  rw [getF, dif_neg h]
theorem one_er (b : B) : (oneF b).2.2 ≤ 100 := by
  unfold oneF
  dsimp only
  split
  · exact (by decide : (90 : Nat) ≤ 100)
  · split
    · exact (by decide : (90 : Nat) ≤ 100)
    · split
      · rename_i h
        have := fits_vals (((b.take ((longF b).1 - 1)).drop ((longF b).2 + 1)).takeWhile (fun c => c != 61), ((b.take ((longF b).1 - 1)).drop ((longF b).2 + 1)).drop ((((b.take ((longF b).1 - 1)).drop ((longF b).2 + 1)).takeWhile (fun c => c != 61)).length + 1))
        dsimp only
        omega
      · split
        · exact (by decide : (90 : Nat) ≤ 100)
        · exact (by decide : (0 : Nat) ≤ 100)
end Px
/-- what Get answers -/
def GetEnds (base : Nat) (b : Px.B) (e : Ending) (w' : World) : Prop :=
  ((Px.getF b 0 []).2.2 ≠ 0 ∧ e = .returned (.tuple #[.slice none 0 0, .int .i64 ((Px.getF b 0 []).2.1 : Int), .int .i64 ((Px.getF b 0 []).2.2 : Int)])) ∨
  ((Px.getF b 0 []).2.2 = 0 ∧ ∃ v, e = .returned (.tuple #[v, .int .i64 0, .int .i64 0]) ∧ w'.ownsRow base 33 2 v (Px.getF b 0 []).1.length (Px.cellsPr (Px.getF b 0 []).1))
theorem get_ends_bad {base : Nat} {b : Px.B} {i er : Nat} {w' : World} (h : Px.getF b 0 [] = ([], i, er)) (he : er ≠ 0) : GetEnds base b (.returned (.tuple #[.slice none 0 0, .int .i64 (i : Int), .int .i64 (er : Int)])) w' := .inl ⟨by rw [h]; exact he, by rw [h]⟩
theorem get_ends_ok {base : Nat} {b : Px.B} {out : List Px.Pr} {v : Value} {w' : World} (h : Px.getF b 0 [] = (out, 0, 0)) (ho : w'.ownsRow base 33 2 v out.length (Px.cellsPr out)) : GetEnds base b (.returned (.tuple #[v, .int .i64 0, .int .i64 0])) w' := .inr ⟨by rw [h], v, rfl, by rw [h]; exact ho⟩
end Go.Proofs.Ytldkhbkgmiicbaa
