/- The program's own Compare: the order of two texts. -/
import Derived.Test.YtldkhbkgmiicbaaNP
namespace Go.Proofs.Ytldkhbkgmiicbaa
open Go.RowKit Go.Deep Go.Shelf
set_option linter.unusedVariables false
set_option linter.unusedSimpArgs false
attribute [local go_sem] Oper.semAt_some

namespace Nm
/-- these pieces stand at these places of a text, too -/
def sameP (b : B) (pre : List (Nat × B)) : Prop := ∀ x ∈ pre, x.1 ≤ b.length ∧ cmpS x.2 (fst (b.drop x.1)) = 0
theorem sameP_snoc {b : B} {pre : List (Nat × B)} {x : Nat × B} (h : sameP b pre) (h1 : x.1 ≤ b.length) (h2 : cmpS x.2 (fst (b.drop x.1)) = 0) : sameP b (pre ++ [x]) := by
  intro y hy
  rcases List.mem_append.1 hy with hy | hy
  · exact h y hy
  · rw [List.mem_singleton.1 hy]; exact ⟨h1, h2⟩
theorem cmpS_eq {a b : B} (h : cmpS a b = 0) : a = b := by
  unfold cmpS at h
  cases h1 : less a b with
  | true => rw [h1] at h; simp at h
  | false =>
    cases h2 : less b a with
    | true => rw [h1, h2] at h; simp at h
    | false => exact less_tot _ _ h1 h2
theorem pre_get {l : B} {pre : List (Nat × B)} (hp : pre <+: all l) (i : Nat) (hi : i < pre.length) : ∃ h : i < (pieces l).length, pre[i] = (tot ((pieces l).take i), (pieces l)[i]) := by
  obtain ⟨t, ht⟩ := hp
  have hlen : i < (pieces l).length := by
    have := congrArg List.length ht
    unfold all at this
    rw [ats_length, List.length_append] at this
    omega
  refine ⟨hlen, ?_⟩
  have hg : (all l)[i]? = some pre[i] := by rw [← ht, List.getElem?_append_left hi, List.getElem?_eq_getElem hi]
  unfold all at hg
  rw [ats_get 0 _ _ hlen, Option.some.injEq, Nat.zero_add] at hg
  exact hg.symm
theorem along {a b : B} {pre : List (Nat × B)} (hp : pre <+: all a) (h : sameP b pre) : ∀ k, k ≤ pre.length →
    (tot ((pieces a).take k) ≤ b.length ∧ Past b (tot ((pieces a).take k)) ((pieces a).take k)) ∨ (tot ((pieces a).take k) = b.length + 1 ∧ pieces b = (pieces a).take k)
  | 0, _ => .inl ⟨Nat.zero_le _, past_start b⟩
  | k + 1, hk => by
    have hlt : k < pre.length := by omega
    obtain ⟨hl, hg⟩ := pre_get hp k hlt
    obtain ⟨h1, h2⟩ := h _ (List.getElem_mem hlt)
    rw [hg] at h1 h2
    have h3 := cmpS_eq h2
    dsimp only at h1 h3
    have et : (pieces a).take (k + 1) = (pieces a).take k ++ [(pieces a)[k]] := by rw [List.take_add_one, List.getElem?_eq_getElem hl]; rfl
    have ett : tot ((pieces a).take (k + 1)) = tot ((pieces a).take k) + ((pieces a)[k].length + 1) := by rw [et, tot_append]; rfl
    rcases along hp h k (by omega) with ⟨h4, h5⟩ | ⟨h4, _⟩
    · by_cases hm : (47 : UInt8) ∈ b.drop (tot ((pieces a).take k))
      · have := past_next h5 hm
        rw [← h3, ← et, ← ett] at this
        exact .inl ⟨this.1, this⟩
      · have := past_end h5 hm
        rw [← h3, ← et] at this
        refine .inr ⟨?_, this⟩
        rw [← this, tot_joined _ (pieces_ne b), joined_pieces]
    · omega
theorem cmp_done {a b : B} (h : sameP b (all a)) : cmp a b = Lib.compareInt (a.length : Int) (b.length : Int) := by
  have hl : (all a).length = (pieces a).length := ats_length _ _
  have ht : tot (pieces a) = a.length + 1 := by rw [tot_joined _ (pieces_ne a), joined_pieces]
  have := along (List.prefix_refl _) h (pieces a).length (by omega)
  rw [List.take_length, ht] at this
  unfold cmp Lib.compareInt
  rcases this with ⟨h1, h2⟩ | ⟨h1, h2⟩
  · have h3 := h2.2.2
    have h4 : (pieces a).length < (pieces b).length := by
      rw [h3, List.length_append]
      have := List.length_pos_iff.2 (pieces_ne (b.drop (a.length + 1)))
      omega
    rw [cmpP_end _ _ (fun i h1 h2 => by
      have e : (pieces b)[i]? = (pieces a)[i]? := by rw [h3, List.getElem?_append_left h1]
      rw [List.getElem?_eq_getElem h1, List.getElem?_eq_getElem h2, Option.some.injEq] at e
      exact e.symm), if_pos h4, if_pos (by omega)]
  · have e : a = b := pieces_inj h2.symm
    subst e
    rw [cmpP_end _ _ (fun i h1 h2 => rfl), if_neg (by omega), if_neg (by omega), if_neg (by omega), if_neg (by omega)]
theorem cmp_stop {a b : B} {pre : List (Nat × B)} {x : Nat × B} (hp : pre ++ [x] <+: all a) (h : sameP b pre) :
    (b.length < x.1 → cmp a b = 1) ∧ (x.1 ≤ b.length → cmpS x.2 (fst (b.drop x.1)) ≠ 0 → cmp a b = cmpS x.2 (fst (b.drop x.1))) := by
  have hp2 : pre <+: all a := (List.prefix_append _ _).trans hp
  have hal := along hp2 h pre.length (Nat.le_refl _)
  obtain ⟨hl, hg⟩ := pre_get hp pre.length (by simp)
  simp only [List.getElem_concat_length] at hg
  subst hg
  dsimp only
  unfold cmp
  constructor
  · intro hlt
    rcases hal with ⟨h1, _⟩ | ⟨h1, h2⟩
    · omega
    · have h4 : (pieces b).length = pre.length := by rw [h2, List.length_take]; omega
      rw [cmpP_end _ _ (fun i h1 h3 => by
        have e : (pieces b)[i]? = (pieces a)[i]? := by rw [h2, List.getElem?_take, if_pos (by omega)]
        rw [List.getElem?_eq_getElem h1, List.getElem?_eq_getElem h3, Option.some.injEq] at e
        exact e.symm), if_neg (by omega), if_pos (by omega)]
  · intro hle hne
    rcases hal with ⟨h1, h2⟩ | ⟨h1, h2⟩
    · obtain ⟨r, hr⟩ := pieces_head (b.drop (tot ((pieces a).take pre.length)))
      have h3 := h2.2.2
      rw [hr] at h3
      have hlt : ((pieces a).take pre.length).length = pre.length := by rw [List.length_take]; omega
      have h5 : pre.length < (pieces b).length := by rw [h3, List.length_append, hlt, List.length_cons]; omega
      have h6 : (pieces b)[pre.length] = fst (b.drop (tot ((pieces a).take pre.length))) := by
        have e : (pieces b)[pre.length]? = some (fst (b.drop (tot ((pieces a).take pre.length)))) := by
          rw [h3, List.getElem?_append_right (by omega), hlt, Nat.sub_self]; rfl
        rw [List.getElem?_eq_getElem h5, Option.some.injEq] at e
        exact e
      have hsame : ∀ i (h1 : i < (pieces a).length) (h2 : i < (pieces b).length), i < pre.length → (pieces a)[i] = (pieces b)[i] := fun i q1 q2 q3 => by
        have e : (pieces b)[i]? = (pieces a)[i]? := by rw [h3, List.getElem?_append_left (by omega), List.getElem?_take, if_pos q3]
        rw [List.getElem?_eq_getElem q1, List.getElem?_eq_getElem q2, Option.some.injEq] at e
        exact e.symm
      rw [← h6] at hne ⊢
      unfold cmpS at hne ⊢
      cases g1 : less (pieces a)[pre.length] (pieces b)[pre.length] with
      | true => rw [cmpP_less _ _ _ hl h5 hsame g1]; rfl
      | false =>
        cases g2 : less (pieces b)[pre.length] (pieces a)[pre.length] with
        | true => rw [cmpP_more _ _ _ hl h5 hsame g2]; rfl
        | false => rw [g1, g2] at hne; exact absurd rfl hne
    · omega
end Nm
theorem keeps_drewN8 (W : World) : ∀ n, KeepsOthers W (W.drewN n)
  | 0 => KeepsOthers.refl W
  | n + 1 => (keeps_drewN8 W n).trans (KeepsOthers.drew _)
theorem below_drewN8 {n₀ : Nat} {w w' : World} (h : Below n₀ w w') : ∀ n, Below n₀ w (w'.drewN n)
  | 0 => h
  | n + 1 => (below_drewN8 h n).drew
theorem frozen_drewN8 (w : World) (n : Nat) (a : Addr) : (w.drewN n).frozen? a = w.frozen? a := by
  induction n with
  | zero => rfl
  | succ n ih => exact ih
end Go.Proofs.Ytldkhbkgmiicbaa
