/- Where paths of a tree lead: to themselves, to files and folders. -/
import Derived.Test.YtjifdoneejofiaaUA
namespace Go.Proofs.Ytjifdoneejofiaa
open Go.RowKit Go.Deep
set_option linter.unusedVariables false
set_option linter.unusedSimpArgs false

namespace Tr
theorem pieces_pos (p : B) : 0 < (Nm.pieces p).length := List.length_pos_iff.2 (Nm.pieces_ne p)
theorem pieces_take {p : B} {k : Nat} (h : 0 < k) : Nm.pieces (Nm.joined ((Nm.pieces p).take k)) = (Nm.pieces p).take k := by
  refine Nm.pieces_joined _ (fun e => ?_) (fun q hq => Nm.pieces_no p q (List.mem_of_mem_take hq))
  have h1 := congrArg List.length e
  rw [List.length_take, List.length_nil] at h1
  have := pieces_pos p
  omega
theorem up_is (p : B) : Nm.up p = Nm.joined ((Nm.pieces p).take ((Nm.pieces p).length - 1)) := by
  unfold Nm.up; rw [List.dropLast_eq_take]
theorem find_is {t : List It} (h : Ok t) {i : Nat} {x : It} (hx : t[i]? = some x) : find t x.path = some i :=
  find_at t x.path i x hx rfl (fun j y hj hy e => by have := srt_unique (ok_srt h) hy hx e; omega)
/-- what stands ahead of an item on its way is a folder -/
theorem folders {t : List It} (h : Ok t) : ∀ (n i : Nat) (x : It), t[i]? = some x → (Nm.pieces x.path).length = n → ∀ k, 0 < k → k < n → ∃ (j : Nat) (y : It), t[j]? = some y ∧ y.path = Nm.joined ((Nm.pieces x.path).take k) ∧ y.kind = 2 := by
  intro n
  induction n with
  | zero => intro i x hx hn k hk hkn; omega
  | succ n ih =>
    intro i x hx hn k hk hkn
    have hu := step_up (h i x hx)
    have hm := step_may (h i x hx)
    have hux : Nm.up x.path = Nm.joined ((Nm.pieces x.path).take n) := by rw [up_is, hn]; rfl
    have hne : Nm.up x.path ≠ [] := by
      rw [hux]
      refine joined_ne (fun q hq => parts_of (may_check hm) q (List.mem_of_mem_take hq)) (fun e => ?_)
      have h1 := congrArg List.length e
      rw [List.length_take, hn] at h1
      simp at h1
      omega
    obtain ⟨y, hy, h1, h2⟩ := hasB_iff.1 (hu.resolve_left hne)
    obtain ⟨j, hj⟩ := List.getElem?_of_mem (List.mem_of_mem_take hy)
    rw [hux] at h1
    rcases Nat.lt_or_ge k n with g | g
    · have hp : Nm.pieces y.path = (Nm.pieces x.path).take n := by rw [h1]; exact pieces_take (by omega)
      obtain ⟨j', y', a1, a2, a3⟩ := ih j y hj (by rw [hp, List.length_take, hn]; omega) k hk g
      refine ⟨j', y', a1, ?_, a3⟩
      rw [a2, hp, List.take_take, Nat.min_eq_left (by omega)]
    · obtain rfl : k = n := by omega
      exact ⟨j, y, hj, h1, h2⟩
theorem real_along {t : List It} (h : Ok t) {i : Nat} {x : It} (hx : t[i]? = some x) : ∀ k, k < (Nm.pieces x.path).length → realF t 0 [] (Nm.pieces x.path) = realF t 0 ((Nm.pieces x.path).take k) ((Nm.pieces x.path).drop k)
  | 0, _ => by rw [List.take_zero, List.drop_zero]
  | k + 1, hk => by
    rw [real_along h hx k (by omega)]
    obtain ⟨j, y, h1, h2, h3⟩ := folders h _ i x hx rfl (k + 1) (by omega) hk
    have hd : (Nm.pieces x.path).drop k = (Nm.pieces x.path)[k] :: (Nm.pieces x.path).drop (k + 1) := List.drop_eq_getElem_cons (by omega)
    have ht : (Nm.pieces x.path).take k ++ [(Nm.pieces x.path)[k]] = (Nm.pieces x.path).take (k + 1) := by rw [List.take_add_one, List.getElem?_eq_getElem (by omega)]; rfl
    rw [hd, real_step (i := j) (x := y) (by rw [ht, ← h2]; exact find_is h h1) h1 (by omega)]
    congr 1
    unfold endOf
    rw [if_neg (by omega)]
    unfold pts
    rw [if_neg (may_len (step_may (h j y h1))).2, h2, pieces_take (by omega)]
/-- files and folders lead to themselves -/
theorem real_self {t : List It} (h : Ok t) {i : Nat} {x : It} (hx : t[i]? = some x) (hk : x.kind = 1 ∨ x.kind = 2) : realF t 0 [] (Nm.pieces x.path) = (x.path, 0) := by
  have hp := pieces_pos x.path
  rw [real_along h hx ((Nm.pieces x.path).length - 1) (by omega)]
  have hd : (Nm.pieces x.path).drop ((Nm.pieces x.path).length - 1) = [(Nm.pieces x.path)[(Nm.pieces x.path).length - 1]] := by
    rw [List.drop_eq_getElem_cons (by omega), List.drop_eq_nil_of_le (by omega)]
  have ht : (Nm.pieces x.path).take ((Nm.pieces x.path).length - 1) ++ [(Nm.pieces x.path)[(Nm.pieces x.path).length - 1]] = Nm.pieces x.path := by
    rw [← hd, List.take_append_drop]
  rw [hd, real_step (i := i) (x := x) (by rw [ht, Nm.joined_pieces]; exact find_is h hx) hx (by omega), real_nil, joined_pts]
  unfold endOf
  rw [if_neg (by omega)]
theorem realE_self {t : List It} (hc : (chkE t).2 = 0) {i : Nat} {x : It} (hx : t[i]? = some x) (hk : x.kind = 1 ∨ x.kind = 2) : realE t x.path = (x.path, 0) := by
  have h := (chk_zero hc).2
  have hm := step_may (h i x hx)
  unfold realE
  rw [if_neg (by simp [hc]), if_neg (may_len hm).2, if_neg (by simp [may_check hm])]
  exact real_self h hx hk
/-- a place that may be reached -/
def Plain (t : List It) (s : B) : Prop := s = [] ∨ ∃ (i : Nat) (x : It), t[i]? = some x ∧ x.path = s ∧ (x.kind = 1 ∨ x.kind = 2)
theorem end_plain {t : List It} (h : Ok t) {i : Nat} {x : It} (hx : t[i]? = some x) (hk : x.kind ≠ 4) : Plain t (endOf x) := by
  have hm := may_kind (step_may (h i x hx))
  unfold endOf
  split
  · rename_i h3
    obtain ⟨j, y, _, h1, h2, h4⟩ := hard_file h hx h3
    exact .inr ⟨j, y, h1, h2, .inl h4⟩
  · exact .inr ⟨i, x, hx, rfl, by omega⟩
theorem real_plain {t : List It} (h : Ok t) : ∀ (hops : Nat) (r left : List B), Plain t (Nm.joined r) → Plain t (realF t hops r left).1 ∧ ((realF t hops r left).2 ≠ 0 → (realF t hops r left).1 = []) := by
  have key : ∀ (m n hops : Nat) (r left : List B), 40 - hops = m → left.length = n → Plain t (Nm.joined r) → Plain t (realF t hops r left).1 ∧ ((realF t hops r left).2 ≠ 0 → (realF t hops r left).1 = []) := by
    intro m
    induction m using Nat.strongRecOn with
    | ind m ihm =>
      intro n
      induction n with
      | zero =>
        intro hops r left hm hn hp
        have : left = [] := List.eq_nil_of_length_eq_zero hn
        subst this
        rw [real_nil]
        exact ⟨hp, fun e => absurd rfl e⟩
      | succ n ihn =>
        intro hops r left hm hn hp
        cases left with
        | nil => simp at hn
        | cons a rest =>
          rcases hf : find t (Nm.joined (r ++ [a])) with _ | i
          · rw [real_none hf]; exact ⟨.inl rfl, fun _ => rfl⟩
          · obtain ⟨x, hx, -, -⟩ := find_some _ _ _ hf
            by_cases hk : x.kind = 4
            · by_cases hh : 40 ≤ hops
              · rw [real_loop hf hx hk hh]; exact ⟨.inl rfl, fun _ => rfl⟩
              · rw [real_soft hf hx hk (by omega)]
                exact ihm (40 - (hops + 1)) (by omega) _ (hops + 1) [] _ rfl rfl (.inl rfl)
            · rw [real_step hf hx hk]
              exact ihn hops _ rest hm (by simpa using hn) (by rw [joined_pts]; exact end_plain h hx hk)
  exact fun hops r left hp => key _ _ hops r left rfl rfl hp
theorem realE_plain (t : List It) (p : B) : Plain t (realE t p).1 ∧ ((realE t p).2 ≠ 0 → (realE t p).1 = []) ∧ ((chkE t).2 ≠ 0 → realE t p = ([], (chkE t).2)) := by
  unfold realE
  by_cases hc : (chkE t).2 = 0
  · have h := (chk_zero hc).2
    rw [if_neg (by simp [hc])]
    refine ⟨?_, ?_, fun e => absurd hc e⟩
    · split
      · exact .inl rfl
      · split
        · exact .inl rfl
        · exact (real_plain h 0 [] _ (.inl rfl)).1
    · split
      · exact fun _ => rfl
      · split
        · exact fun _ => rfl
        · exact (real_plain h 0 [] _ (.inl rfl)).2
  · rw [if_pos hc]
    exact ⟨.inl rfl, fun _ => rfl, fun _ => rfl⟩
/-- one up -/
theorem up_lt {p : B} (h : p ≠ []) : (Nm.up p).length < p.length := by
  rcases Nm.last_cases (Nm.S p) with ⟨h1, -⟩ | ⟨i, h1, -, h3, h4⟩
  · rw [Nm.toList_S] at h1
    rw [Nm.up_none h1]
    exact List.length_pos_iff.2 h
  · rw [Nm.toList_S] at h3 h4
    rw [Nm.size_S] at h1
    rw [Nm.up_at h3 h4, List.length_take]
    omega
theorem up_folder {t : List It} (h : Ok t) {i : Nat} {x : It} (hx : t[i]? = some x) : Nm.up x.path = [] ∨ ∃ (j : Nat) (y : It), t[j]? = some y ∧ y.path = Nm.up x.path ∧ y.kind = 2 := by
  rcases step_up (h i x hx) with e | e
  · exact .inl e
  · obtain ⟨y, hy, h1, h2⟩ := hasB_iff.1 e
    obtain ⟨j, hj⟩ := List.getElem?_of_mem (List.mem_of_mem_take hy)
    exact .inr ⟨j, y, hj, h1, h2⟩
end Tr
end Go.Proofs.Ytjifdoneejofiaa
