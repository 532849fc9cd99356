/- Lists of pairs laid in a map: mathematics. -/
import Derived.Test.YtmbabfelnieagaaDoorBV
import Derived.Maps.Views
import Derived.Maps.OwnSet
namespace Go.Proofs.YtmbabfelnieagaaDoor
set_option linter.unusedVariables false
namespace Px
theorem before_less : ∀ a b : B, bytesBefore a b = Nm.less a b
  | [], [] => rfl
  | [], _ :: _ => rfl
  | _ :: _, [] => rfl
  | a :: x, b :: y => by
    show (decide (a < b) || (a == b && bytesBefore x y)) = _
    rw [before_less x y]
    rfl
/-- a pair as an entry -/
def ent (p : Pr) : Lit × DataW Unit := (.string p.1, .agg [.lit (.string p.1), .lit (.string p.2)])
def encD (l : List Pr) : DataW Unit := .map (l.map ent)
theorem ent_before (p q : Pr) : (ent p).1.before (ent q).1 = Nm.less p.1 q.1 := before_less _ _
theorem ent_same (p : Pr) (k : B) : (ent p).1.sameKey (.string k) = (p.1 == k) := rfl
theorem filter_none {k : B} : ∀ (l : List Pr), (∀ q ∈ l, q.1 ≠ k) → (l.map ent).filter (fun x => !x.1.sameKey (.string k)) = l.map ent
  | [], _ => rfl
  | q :: l, h => by
    rw [List.map_cons, List.filter_cons, ent_same, beq_eq_false_iff_ne.2 (h q List.mem_cons_self)]
    rw [filter_none l (fun x hx => h x (List.mem_cons_of_mem _ hx))]
    rfl
theorem less_ne {a b : B} (h : Nm.less a b = true) : a ≠ b := fun e => by rw [e, Nm.less_irr] at h; cases h
theorem insert_front {p : Pr} {l : List Pr} (h : ∀ q ∈ l, Nm.less p.1 q.1 = true) : DataW.insert (ent p) (l.map ent) = (p :: l).map ent := by
  cases l with
  | nil => rfl
  | cons q l =>
    rw [List.map_cons, DataW.insert, ent_before, h q List.mem_cons_self]
    rfl
theorem put_ins : ∀ (l : List Pr) (p : Pr), Srt l → DataW.insert (ent p) ((l.map ent).filter (fun x => !x.1.sameKey (.string p.1))) = (over l [p]).map ent
  | [], p, _ => by rw [over_nil_l]; rfl
  | a :: l, p, hs => by
    have hl := (List.pairwise_cons.1 hs).2
    have ha := (List.pairwise_cons.1 hs).1
    rcases three a.1 p.1 with h | h | h
    · rw [over_less _ _ h, List.map_cons, List.filter_cons, ent_same, beq_eq_false_iff_ne.2 (less_ne h)]
      show DataW.insert (ent p) (ent a :: _) = _
      rw [DataW.insert, ent_before, Nm.less_asym h, if_neg Bool.false_ne_true, put_ins l p hl]
      rfl
    · rw [over_same _ _ h, over_nil_r, List.map_cons, List.filter_cons, ent_same, beq_iff_eq.2 h]
      show DataW.insert (ent p) ((l.map ent).filter _) = _
      have hlt : ∀ q ∈ l, Nm.less p.1 q.1 = true := fun q hq => by rw [← h]; exact ha q hq
      rw [filter_none l (fun q hq e => less_ne (hlt q hq) e.symm), insert_front hlt]
    · rw [over_more _ _ h, over_nil_r]
      have hlt : ∀ q ∈ a :: l, Nm.less p.1 q.1 = true := fun q hq => by
        rcases List.mem_cons.1 hq with rfl | hq
        · exact h
        · exact Nm.less_trans _ _ _ h (ha q hq)
      rw [filter_none (a :: l) (fun q hq e => less_ne (hlt q hq) e.symm), insert_front hlt]
theorem enc_put {l : List Pr} (p : Pr) (hs : Srt l) : (encD l).put (.string p.1) (ent p).2 = encD (over l [p]) := by
  unfold encD
  rw [← put_ins l p hs]
  rfl
theorem srt_take {l : List Pr} (h : Srt l) (k : Nat) : Srt (l.take k) := List.Pairwise.sublist (List.take_sublist k l) h
theorem srt_one (p : Pr) : Srt [p] := List.pairwise_singleton _ _
theorem take_over {m : List Pr} (hm : Srt m) {k : Nat} {p : Pr} (hp : m[k]? = some p) : over (m.take k) [p] = m.take (k + 1) := by
  refine srt_ext _ _ (overs_srt (srt_take hm k) (srt_one p)) (srt_take hm (k + 1)) (fun q => ?_)
  have hs := srt_take hm (k + 1)
  have e : m.take (k + 1) = m.take k ++ [p] := by rw [List.take_add_one, hp]; rfl
  rw [overs_find (srt_take hm k) (srt_one p), e]
  rw [e] at hs
  have hall := (List.pairwise_append.1 hs).2.2
  have fa : ∀ (x : List Pr), (∀ y ∈ x, Nm.less y.1 p.1 = true) → find (x ++ [p]) q = (find [p] q).or (find x q) := by
    intro x
    induction x with
    | nil => intro _; cases h : find [p] q <;> simp [find, h]
    | cons y x ih =>
      intro hx
      have h1 := ih (fun z hz => hx z (List.mem_cons_of_mem _ hz))
      have hy := less_ne (hx y List.mem_cons_self)
      by_cases hq : y.1 = q
      · have hpq : find [p] q = none := find_none (fun z hz => by rw [List.mem_singleton.1 hz]; intro e2; exact hy (hq.trans e2.symm))
        rw [List.cons_append, hpq, Option.none_or]
        unfold find
        rw [if_pos hq, if_pos hq]
      · rw [List.cons_append]
        simp only [find, if_neg hq]
        exact h1
  exact (fa _ (fun y hy => hall y hy p (List.mem_singleton.2 rfl))).symm
theorem over_step {l m : List Pr} (hl : Srt l) (hm : Srt m) {k : Nat} {p : Pr} (hp : m[k]? = some p) : over (over l (m.take k)) [p] = over l (m.take (k + 1)) := by
  rw [over_assoc hl (srt_take hm k) (srt_one p), take_over hm hp]
end Px
end Go.Proofs.YtmbabfelnieagaaDoor
