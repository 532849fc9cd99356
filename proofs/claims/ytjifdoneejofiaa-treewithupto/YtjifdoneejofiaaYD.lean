/- An item put into a tree and taken out again: mathematics, of layer 11. -/
import Derived.Test.YtjifdoneejofiaaYC
import Derived.Test.YtjifdoneejofiaaUE
import Derived.Test.YtjifdoneejofiaaY7
namespace Go.Proofs.Ytjifdoneejofiaa
open Go.RowKit Go.Deep
set_option linter.unusedVariables false
set_option linter.unusedSimpArgs false

namespace Tr
theorem cnt_le (t : List It) (p : B) : cnt t p ≤ t.length := by
  unfold cnt
  exact List.Sublist.length_le (List.takeWhile_sublist _)
theorem with_get (t : List It) (x : It) : (withL t x)[cnt t x.path]? = some x := by
  have hl : (t.take (cnt t x.path)).length = cnt t x.path := by rw [List.length_take]; have := cnt_le t x.path; omega
  unfold withL
  rw [List.append_assoc, List.getElem?_append_right (by rw [hl]; exact Nat.le_refl _), hl, Nat.sub_self]
  rfl
theorem with_findE {t : List It} {x : It} (h : Ok (withL t x)) : findE (withL t x) x.path = (cnt t x.path, 0) := by
  unfold findE
  rw [find_is h (with_get t x)]
theorem with_lt (t : List It) (x : It) : cnt t x.path < (withL t x).length := (List.getElem?_eq_some_iff.1 (with_get t x)).1
theorem there_drop {t : List It} {p : B} (h : there t p = true) : ∃ z, t.drop (cnt t p) = z :: t.drop (cnt t p + 1) ∧ z.path = p := by
  unfold there at h
  rcases hx : t[cnt t p]? with _ | z
  · rw [hx] at h; cases h
  · rw [hx] at h
    refine ⟨z, ?_, of_decide_eq_true h⟩
    obtain ⟨h1, h2⟩ := List.getElem?_eq_some_iff.1 hx
    rw [List.drop_eq_getElem_cons h1, h2]
/-- is it another path's? -/
def ot (p : B) (x : It) : Bool := decide (x.path ≠ p)
theorem with_others (t : List It) (x : It) : (withL t x).filter (ot x.path) = t.filter (ot x.path) := by
  have hx : ot x.path x = false := by simp [ot]
  unfold withL
  rw [List.filter_append, List.filter_append, List.filter_cons, hx]
  have e : t.filter (ot x.path) = (t.take (cnt t x.path)).filter (ot x.path) ++ (t.drop (cnt t x.path)).filter (ot x.path) := by
    rw [← List.filter_append, List.take_append_drop]
  rw [e]
  cases hb : there t x.path with
  | false => simp
  | true =>
    obtain ⟨z, h1, h2⟩ := there_drop hb
    have hz : ot x.path z = false := by simp [ot, h2]
    rw [h1, List.filter_cons, hz]
    simp
theorem with_len (t : List It) (x : It) : (withL t x).length = t.length + (if there t x.path then 0 else 1) := by
  have hl : (t.take (cnt t x.path)).length = cnt t x.path := by rw [List.length_take]; have := cnt_le t x.path; omega
  have hc := cnt_le t x.path
  unfold withL
  rw [List.length_append, List.length_append, hl, List.length_drop]
  cases hb : there t x.path with
  | false => simp; omega
  | true =>
    obtain ⟨z, h1, h2⟩ := there_drop hb
    have := congrArg List.length h1
    rw [List.length_drop, List.length_cons, List.length_drop] at this
    simp; omega
theorem with_back {t : List It} {x : It} (h : Ok t) (hu : Ok (withL t x)) (hl : t.length < (withL t x).length) : (withL t x).filter (wout x.path) = t := by
  have hb : there t x.path = false := by
    rw [with_len] at hl
    cases hb : there t x.path with
    | false => rfl
    | true => rw [hb] at hl; simp at hl
  have hw : withL t x = t.take (cnt t x.path) ++ ([x] ++ t.drop (cnt t x.path)) := by
    unfold withL; rw [hb]; simp
  have hc := cnt_le t x.path
  have hlt : (t.take (cnt t x.path)).length = cnt t x.path := by rw [List.length_take]; omega
  have hne : ∀ (j : Nat) (z : It), t[j]? = some z → z.path ≠ x.path := fun j z hz e => by
    have hx := with_get t x
    rcases Nat.lt_or_ge j (cnt t x.path) with g | g
    · have : (withL t x)[j]? = some z := by rw [hw, List.getElem?_append_left (by omega), List.getElem?_take, if_pos g]; exact hz
      have := srt_unique (ok_srt hu) this hx e
      omega
    · have : (withL t x)[j + 1]? = some z := by
        rw [hw, List.getElem?_append_right (by omega), hlt, List.getElem?_append_right (by simp; omega), List.getElem?_drop]
        rw [show cnt t x.path + (j + 1 - cnt t x.path - [x].length) = j by simp; omega]
        exact hz
      have := srt_unique (ok_srt hu) this hx e
      omega
  have hxok := hu _ _ (with_get t x)
  have hxne := (may_len (step_may hxok)).2
  have hall : ∀ z ∈ t, wout x.path z = true := fun z hz => by
    obtain ⟨j, hj⟩ := List.getElem?_of_mem hz
    unfold wout
    rw [Bool.and_eq_true, decide_eq_true_eq, Bool.not_eq_true']
    refine ⟨hne j z hj, ?_⟩
    rw [Bool.eq_false_iff]
    intro e
    unfold bnB at e
    rw [Bool.and_eq_true, Bool.or_eq_true, Bool.and_eq_true, decide_eq_true_eq, decide_eq_true_eq, decide_eq_true_eq] at e
    obtain ⟨-, e | ⟨-, e⟩⟩ := e
    · exact hxne e
    · unfold frontB at e
      rw [Bool.and_eq_true, decide_eq_true_eq, decide_eq_true_eq] at e
      obtain ⟨i2, y2, g1, g2, -⟩ := folders h _ j z hj rfl _ (pieces_pos x.path) e.1
      rw [e.2, Nm.joined_pieces] at g2
      exact hne i2 y2 g1 g2
  have hxw : wout x.path x = false := by simp [wout]
  rw [hw, List.filter_append, List.filter_append, List.filter_cons, hxw, List.filter_eq_self.2 (fun z hz => hall z (List.mem_of_mem_take hz)), List.filter_eq_self.2 (fun z hz => hall z (List.mem_of_mem_drop hz))]
  simp
theorem with_wout {t : List It} {x : It} (h : (chkE t).2 = 0) (hu : (chkE (withL t x)).2 = 0) (hl : t.length < (withL t x).length) : woutE (withL t x) x.path = 0 := by
  unfold woutE
  rw [if_neg (by simp [hu]), with_findE (chk_zero hu).2, if_neg (by simp), with_back (chk_zero h).2 (chk_zero hu).2 hl]
  exact h
theorem wout_facts {t : List It} {p : B} (h : woutE t p = 0) : (chkE (t.filter (wout p))).2 = 0 ∧ findE (t.filter (wout p)) p = (0, 4) ∧ (t.filter (wout p)).filter (fun x => bnB p x.path) = [] ∧ (t.filter (wout p)).length < t.length := by
  unfold woutE at h
  split at h
  · exact absurd h (by assumption)
  · split at h
    · exact absurd h (by assumption)
    · rename_i hf
      refine ⟨h, ?_, ?_, ?_⟩
      · unfold findE
        rw [find_none]
        intro j y hy
        have := (List.mem_filter.1 (List.mem_of_getElem? hy)).2
        unfold wout at this
        rw [Bool.and_eq_true, decide_eq_true_eq] at this
        exact this.1
      · rw [List.filter_eq_nil_iff]
        intro z hz e
        have := (List.mem_filter.1 hz).2
        unfold wout at this
        rw [Bool.and_eq_true, Bool.not_eq_true'] at this
        rw [this.2] at e
        cases e
      · unfold findE at hf
        rcases hi : find t p with _ | i
        · rw [hi] at hf; simp at hf
        · obtain ⟨z, h1, h2, -⟩ := find_some t p i hi
          rw [List.length_filter_lt_length_iff_exists]
          exact ⟨z, List.mem_of_getElem? h1, by simp [wout, h2]⟩
end Tr
end Go.Proofs.Ytjifdoneejofiaa
