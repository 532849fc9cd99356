/- Beginnings of trees, what stands beneath a folder, any order put right: mathematics of layer 11. -/
import Derived.Test.YtjifdoneejofiaaYF
import Derived.Test.YtjifdoneejofiaaUE
import Derived.Test.YtjifdoneejofiaaU9
namespace Go.Proofs.Ytjifdoneejofiaa
set_option linter.unusedVariables false
set_option linter.unusedSimpArgs false

namespace Tr
theorem filter_run {α : Type} {P : α → Bool} : ∀ (R : List α), (∀ (a b : Nat) (x y : α), a < b → R[a]? = some x → R[b]? = some y → P y = true → P x = true) → R.filter P = R.take (R.filter P).length
  | [], _ => rfl
  | z :: R, h => by
    rw [List.filter_cons]
    by_cases hz : P z = true
    · rw [if_pos hz, List.length_cons, List.take_succ_cons]
      have ih := filter_run (P := P) R (fun a b x y hab hx hy => h (a + 1) (b + 1) x y (by omega) (by simpa using hx) (by simpa using hy))
      rw [← ih]
    · rw [if_neg hz]
      have : R.filter P = [] := List.filter_eq_nil_iff.2 fun y hy hp => by
        obtain ⟨j, hj⟩ := List.getElem?_of_mem hy
        exact hz (h 0 (j + 1) z y (by omega) rfl (by simpa using hj) hp)
      rw [this]; rfl
theorem srt_pair {t : List It} (h : Srt t) : t.Pairwise fun a b => cmpT a b < 0 := by
  rw [List.pairwise_iff_getElem]
  intro i j hi hj hij
  have := h i j t[i] t[j] hij (List.getElem?_eq_getElem hi) (List.getElem?_eq_getElem hj)
  show Nm.cmp _ _ < 0
  omega
/-- any order put right -/
theorem sorted_back {t m s : List It} (h : Ok t) (hp : m.Perm t) (hs : Ss.Stable cmpT m s) : s = t :=
  Ss.stable_one cmpT_ok hs (Ss.stable_self (srt_pair (ok_srt h)) hp.symm)
theorem cut_ok {t : List It} (h : (chkE t).2 = 0) (k : Nat) : chkE (t.take k) = (0, 0) := by
  obtain ⟨h1, h2⟩ := chk_zero h
  exact chk_good (by rw [List.length_take]; omega) (ok_take h2 k)
theorem beneath_run {t : List It} (h : Ok t) {i : Nat} {x : It} (hx : t[i]? = some x) :
    t.filter (fun z => bnB x.path z.path) = (t.drop (i + 1)).take (t.filter (fun z => bnB x.path z.path)).length ∧ i + 1 + (t.filter (fun z => bnB x.path z.path)).length ≤ t.length ∧ (0 < (t.filter (fun z => bnB x.path z.path)).length → x.kind = 2) := by
  have hi := (List.getElem?_eq_some_iff.1 hx).1
  have hS := ok_srt h
  have chk : ∀ {j : Nat} {z : It}, t[j]? = some z → (Nm.check z.path).2 = 0 := fun hz => may_check (step_may (h _ _ hz))
  have hne : x.path ≠ [] := (may_len (step_may (h _ _ hx))).2
  have hP : ∀ z : It, bnB x.path z.path = true ↔ ((Nm.check z.path).2 = 0 ∧ Nm.Front (Nm.pieces x.path) (Nm.pieces z.path)) := fun z => by
    rw [bnB_iff]
    unfold Nm.Beneath
    constructor
    · rintro ⟨h1, h2 | ⟨h2, h3⟩⟩
      · exact absurd h2 hne
      · exact ⟨h1, h3⟩
    · rintro ⟨h1, h2⟩
      exact ⟨h1, .inr ⟨chk hx, h2⟩⟩
  have hA : (t.take (i + 1)).filter (fun z => bnB x.path z.path) = [] := List.filter_eq_nil_iff.2 fun z hz hp => by
    obtain ⟨j, hj⟩ := List.getElem?_of_mem hz
    rw [List.getElem?_take] at hj
    split at hj
    · rename_i hji
      have hf := Nm.front_less ((hP z).1 hp).2
      have hc : Nm.cmp x.path z.path = -1 := hf
      rcases Nat.lt_or_ge j i with g | g
      · have h1 := hS j i z x g hj hx
        have h2 := (Nm.cmp_facts z.path x.path x.path).2.1
        omega
      · obtain rfl : j = i := by omega
        rw [hx] at hj
        obtain rfl := Option.some.inj hj
        have h2 := (Nm.cmp_facts x.path x.path x.path).2.2.1.2 rfl
        omega
    · cases hj
  have hF : t.filter (fun z => bnB x.path z.path) = (t.drop (i + 1)).filter (fun z => bnB x.path z.path) := by
    conv => lhs; rw [← List.take_append_drop (i + 1) t, List.filter_append, hA, List.nil_append]
  have hR : (t.drop (i + 1)).filter (fun z => bnB x.path z.path) = (t.drop (i + 1)).take ((t.drop (i + 1)).filter (fun z => bnB x.path z.path)).length := by
    refine filter_run _ fun a b y1 y2 hab h1 h2 hp => ?_
    rw [List.getElem?_drop] at h1 h2
    have hf := ((hP y2).1 hp).2
    have c1 := hS i (i + 1 + a) x y1 (by omega) hx h1
    have c2 := hS (i + 1 + a) (i + 1 + b) y1 y2 (by omega) h1 h2
    exact (hP y1).2 ⟨chk h1, Nm.between _ _ _ hf c1 c2⟩
  refine ⟨by rw [hF]; exact hR, ?_, fun hpos => ?_⟩
  · rw [hF]
    have := List.length_filter_le (fun z => bnB x.path z.path) (t.drop (i + 1))
    rw [List.length_drop] at this
    omega
  · obtain ⟨z, hz⟩ := List.exists_mem_of_length_pos hpos
    obtain ⟨hz1, hz2⟩ := List.mem_filter.1 hz
    obtain ⟨j, hj⟩ := List.getElem?_of_mem hz1
    have hf := ((hP z).1 hz2).2
    obtain ⟨j', y, hy, hyp, hyk⟩ := folders h _ j z hj rfl (Nm.pieces x.path).length (pieces_pos x.path) hf.1
    have e : (Nm.pieces z.path).take (Nm.pieces x.path).length = Nm.pieces x.path := ((frontB_iff _ _).2 hf |> fun q => by
      unfold frontB at q
      rw [Bool.and_eq_true, decide_eq_true_eq, decide_eq_true_eq] at q
      exact q.2)
    rw [e, Nm.joined_pieces] at hyp
    have hij := srt_unique hS hy hx hyp
    subst hij
    rw [hx] at hy
    obtain rfl := Option.some.inj hy
    exact hyk
theorem set_perm {M : List Iv} {i j : Nat} {x y : Iv} (hx : M[i]? = some x) (hy : M[j]? = some y) : ((M.set i y).set j x).Perm M := by
  obtain ⟨h1, e1⟩ := List.getElem?_eq_some_iff.1 hx
  obtain ⟨h2, e2⟩ := List.getElem?_eq_some_iff.1 hy
  rw [← e1, ← e2]
  exact List.set_set_perm h1 h2
end Tr
end Go.Proofs.Ytjifdoneejofiaa
