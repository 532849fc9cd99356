/- What stands beneath a path, and what is left without it; the document's own Beneath and Without, of layer 11 (written by mku10.py). -/
import Derived.Test.YtjifdoneejofiabU6
import Derived.Test.YtjifdoneejofiabU7
namespace Go.Proofs.Ytjifdoneejofiab
open Go.RowKit Go.Deep
set_option linter.unusedVariables false
set_option linter.unusedSimpArgs false

namespace Tr
def frontB (xs ys : List B) : Bool := decide (xs.length < ys.length) && decide (ys.take xs.length = xs)
theorem frontB_iff (xs ys : List B) : frontB xs ys = true ↔ Nm.Front xs ys := by
  unfold frontB Nm.Front
  rw [Bool.and_eq_true, decide_eq_true_eq, decide_eq_true_eq]
  refine and_congr_right fun hl => ⟨fun h i h1 h2 => ?_, fun h => ?_⟩
  · have : (ys.take xs.length)[i]? = xs[i]? := by rw [h]
    rw [List.getElem?_take, if_pos h1, List.getElem?_eq_getElem h1, List.getElem?_eq_getElem h2] at this
    exact (Option.some.inj this).symm
  · apply List.ext_getElem?
    intro i
    rw [List.getElem?_take]
    by_cases h1 : i < xs.length
    · rw [if_pos h1, List.getElem?_eq_getElem h1, List.getElem?_eq_getElem (show i < ys.length by omega), h i h1 (by omega)]
    · rw [if_neg h1, List.getElem?_eq_none (by omega)]
/-- does a path stand beneath a root? -/
def bnB (root p : B) : Bool := decide ((Nm.check p).2 = 0) && (decide (root = []) || (decide ((Nm.check root).2 = 0) && frontB (Nm.pieces root) (Nm.pieces p)))
theorem bnB_iff (root p : B) : bnB root p = true ↔ Nm.Beneath root p := by
  unfold bnB Nm.Beneath
  rw [Bool.and_eq_true, Bool.or_eq_true, Bool.and_eq_true, decide_eq_true_eq, decide_eq_true_eq, decide_eq_true_eq, frontB_iff]
/-- does an item stay? -/
def wout (path : B) (x : It) : Bool := decide (x.path ≠ path) && !bnB path x.path
/-- the items that are wanted -/
def sel (P : It → Bool) (L : List Iv) : List Iv := L.filter fun y => P y.it
theorem its_sel (P : It → Bool) (L : List Iv) : its (sel P L) = (its L).filter P := by
  unfold its sel; rw [List.filter_map]; rfl
theorem sel_len (P : It → Bool) (L : List Iv) : (sel P L).length ≤ L.length := List.length_filter_le _ _
theorem sel_snoc (P : It → Bool) {L : List Iv} {i : Nat} {y : Iv} (h : L[i]? = some y) : sel P (L.take (i + 1)) = sel P (L.take i) ++ (if P y.it = true then [y] else []) := by
  unfold sel
  rw [take_snoc h, List.filter_append, List.filter_cons, List.filter_nil]
theorem sel_mem {P : It → Bool} {L : List Iv} {y : Iv} (h : y ∈ sel P L) : y ∈ L := (List.mem_filter.1 h).1
/-- what Without answers -/
def woutE (t : List It) (path : B) : Int := if (chkE t).2 ≠ 0 then (chkE t).2 else if (findE t path).2 ≠ 0 then (findE t path).2 else (chkE (t.filter (wout path))).2
end Tr
/-- an answer that is a list and an error -/
def SayIts (t : List Tr.It) (er : Int) (e : Ending) (w' : World) : Prop :=
  (er ≠ 0 → e = .returned (.tuple #[.slice none 0 0, .int .i64 er])) ∧ (er = 0 → ∃ A c M, e = .returned (.tuple #[.slice A M.length c, .int .i64 0]) ∧ Tr.its M = t ∧ M.length ≤ c ∧ ItsAt w' A M)
theorem TellsN.is {e : Ending} {P : Prop} {b : Bool} (h : TellsN e P) (hb : b = true ↔ P) : e = .returned (.bool b) := by
  obtain ⟨x, rfl, hx⟩ := h
  have : x = b := by
    cases x <;> cases b
    · rfl
    · exact absurd (hx.2 (hb.1 rfl)) (by simp)
    · exact absurd (hb.2 (hx.1 rfl)) (by simp)
    · rfl
  rw [this]
theorem its_sel_at {w : World} {H : Nat} {v : Value} {P : Tr.It → Bool} {L : List Tr.Iv} {k : Nat} (h : w.ownsRow H 26 6 v (Tr.sel P (L.take k)).length (Tr.cellsI (Tr.sel P (L.take k)))) (hb : ∀ y ∈ L, BodyAt w y) :
    ∃ A cap, v = .slice A (Tr.sel P (L.take k)).length cap ∧ (Tr.sel P (L.take k)).length ≤ cap ∧ ItsAt w A (Tr.sel P (L.take k)) ∧ (A = none → cap = 0 ∧ (Tr.sel P (L.take k)) = []) ∧ (∀ a, A = some a → a = ⟨a.block, 0, none⟩ ∧ H ≤ a.block) :=
  its_of_own h (fun y hy => hb y (List.mem_of_mem_take (Tr.sel_mem hy)))
end Go.Proofs.Ytjifdoneejofiab
