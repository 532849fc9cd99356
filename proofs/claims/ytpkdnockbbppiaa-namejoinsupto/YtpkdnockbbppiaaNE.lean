/- A range over a text's pieces: what is not the program's own: all the pieces with their places, a list's next, a function beside nil, what stays beneath a range. -/
import Derived.Test.YtpkdnockbbppiaaN9
import Derived.RangeFuncNested
import Derived.RangeFuncBound
import Derived.RangeFuncCalls
import Derived.RangeFuncLeaves
import Derived.Shelf.Abstract
import Derived.Shelf.RegionOpen
import Derived.OwnWalkIn
import Derived.TacticsInMore
import Derived.LoopNIn
import Derived.LoopIn
import Derived.RangeFuncFrom
namespace Go.Proofs.Ytpkdnockbbppiaa
open Go.RowKit Go.Deep Go.Shelf
set_option linter.unusedVariables false
set_option linter.unusedSimpArgs false

namespace Nm
theorem cut_front {l : B} {i q : Nat} {out : List B} (h : Cut l i out q) : ∃ rest, rest ≠ [] ∧ pieces l = out ++ rest := by
  have : ∀ d i q out, l.length - i = d → Cut l i out q → ∃ rest, rest ≠ [] ∧ pieces l = out ++ rest := by
    intro d
    induction d with
    | zero =>
      intro i q out hd h
      have e : i = l.length := by have := h.1; omega
      subst e
      exact ⟨[l.drop q], by simp, cut_end h⟩
    | succ d ih =>
      intro i q out hd h
      have hi : i < l.length := by omega
      by_cases hc : l[i] = 47
      · obtain ⟨rest, _, hr⟩ := ih (i + 1) (i + 1) _ (by omega) (cut_stroke h hi hc)
        exact ⟨(l.take i).drop q :: rest, by simp, by rw [hr, List.append_assoc]; rfl⟩
      · exact ih (i + 1) q out (by omega) (cut_other h hi hc)
  exact this _ i q out rfl h
/-- the pieces of a text, with their places -/
def all (l : B) : List (Nat × B) := ats 0 (pieces l)
theorem all_front {l : B} {i q : Nat} {out : List B} (h : Cut l i out q) : ats 0 out <+: all l ∧ (ats 0 out).length < (all l).length := by
  obtain ⟨rest, hr, e⟩ := cut_front h
  unfold all
  rw [e, ats_append]
  refine ⟨List.prefix_append _ _, ?_⟩
  rw [List.length_append, ats_length, ats_length]
  have := List.length_pos_iff.2 hr
  omega
theorem ats_snoc (out : List B) (p : B) : ats 0 (out ++ [p]) = ats 0 out ++ [(tot out, p)] := by rw [ats_append, Nat.zero_add]; rfl
end Nm
/-- what a round of a range over pieces is handed -/
def encP (x : Nat × Nm.B) : Array Value := #[.int .i64 (x.1 : Int), .string (Nm.S x.2)]
namespace Nm
theorem next_iff {α : Type} {l pre : List α} {x y : α} (h : pre <+: l) (hy : l[pre.length]? = some y) : pre ++ [x] <+: l ↔ x = y := by
  obtain ⟨t, rfl⟩ := h
  rw [List.getElem?_append_right (Nat.le_refl _), Nat.sub_self] at hy
  cases t with
  | nil => simp at hy
  | cons z t =>
    simp only [List.getElem?_cons_zero, Option.some.injEq] at hy
    subst hy
    rw [List.prefix_append_right_inj]
    simp
theorem all_next {l : B} {pre : List (Nat × B)} {x : Nat × B} (h : pre <+: all l) (hlt : pre.length < (pieces l).length) :
    pre ++ [x] <+: all l ↔ (tot ((pieces l).take pre.length) = x.1 ∧ (pieces l)[pre.length] = x.2) := by
  have hg := ats_get 0 (pieces l) pre.length hlt
  rw [Nat.zero_add] at hg
  rw [next_iff h hg]
  constructor
  · rintro rfl; exact ⟨rfl, rfl⟩
  · rintro ⟨h1, h2⟩; rw [h1, h2]
theorem S_eq (a b : B) : ((S a).toList == (S b).toList) = true ↔ a = b := by rw [toList_S, toList_S]; exact beq_iff_eq
end Nm
theorem own_heap8 {β : Type} {D B : Nat} {o : Obj} (h : D < B) : OwnFrom B (fun (_ : β) W => W.heap[D]? = some o) := fun s A A' row hs hg hr =>
  (((Below.refl (D + 1) A).grown hg (by have := (Array.getElem?_eq_some_iff.1 hs).1; omega) (fun k e => by have := (hr k e).1; omega)).block D (Nat.lt_succ_self _)).trans hs
theorem new_cell8 (W : World) (v : Value) (t : TypeId) : (W.alloc (.cells #[v] t)).cell? ⟨W.heap.size, 0, none⟩ = some v ∧ (W.alloc (.cells #[v] t)).frozen? ⟨W.heap.size, 0, none⟩ = false := by
  constructor
  · simp [go_sem]
  · simp [go_sem]
theorem kept_cell8 {W : World} {a : Addr} {v : Value} (o : Obj) (h : W.cell? a = some v) : (W.alloc o).cell? a = some v := cell_kept h (World.grownBy_alloc W o none) (fun r e => by cases e)
theorem kept_froz8 {W : World} {a : Addr} {v : Value} (o : Obj) (h : W.cell? a = some v) (hf : W.frozen? a = false) : (W.alloc o).frozen? a = false := (frozen_kept h (World.grownBy_alloc W o none) (fun r e => by cases e)).trans hf
def isFunc (t : Option TypeDesc) : Bool := match t with | some (.func ..) => true | _ => false
theorem isFunc_of {t : Option TypeDesc} (h : isFunc t = true) : ∃ a b c, t = some (.func a b c) := by
  unfold isFunc at h
  split at h
  · exact ⟨_, _, _, rfl⟩
  · cases h
theorem fun_type : isFunc (Try.prog.underlying 38) = true := by kernel_rfl
theorem equalIn_func (u : World) (d : Nat) (f : Nat) (c l : Array Value) : (Op.equalIn (d + 1) 38 (.func (.func f) c l) .nilFunc).run Try.prog u = .ok false u := by
  obtain ⟨x, y, z, h⟩ := isFunc_of fun_type
  simp [Op.equalIn, run_underlying h]
theorem eq_nilFunc (f : Nat) (c l : Array Value) (u : World) : (binOp .eql 38 (.func (.func f) c l) .nilFunc).run Try.prog u = .ok (.bool false) u := by
  have h : (Op.equal 38 (.func (.func f) c l) .nilFunc).run Try.prog u = .ok false u := equalIn_func u 9999 f c l
  simp only [binOp]
  simp [h]
end Go.Proofs.Ytpkdnockbbppiaa
