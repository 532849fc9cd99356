/- Where a path of a tree leads: mathematics. -/
import Derived.Test.YtjifdoneejofiabU9
namespace Go.Proofs.Ytjifdoneejofiab
open Go.RowKit Go.Deep
set_option linter.unusedVariables false
set_option linter.unusedSimpArgs false

namespace Tr
/-- the parts of a path; none of the root's -/
def pts (p : B) : List B := if p = [] then [] else Nm.pieces p
/-- what an item that is no soft link leads to -/
def endOf (x : It) : B := if x.kind = 3 then x.to else x.path
/-- what is reached -/
def realF (t : List It) (hops : Nat) (r : List B) (left : List B) : B × Int :=
  match left with
  | [] => (Nm.joined r, 0)
  | a :: rest =>
    match find t (Nm.joined (r ++ [a])) with
    | none => ([], 4)
    | some i =>
      match t[i]? with
      | none => ([], 4)
      | some x =>
        if x.kind = 4 then
          if h : 40 ≤ hops then ([], 114)
          else realF t (hops + 1) [] (pts (Nm.lead x.path x.to).1 ++ rest)
        else realF t hops (pts (endOf x)) rest
termination_by (40 - hops, left.length)
decreasing_by
  · exact Prod.Lex.left _ _ (by omega)
  · exact Prod.Lex.right _ (by simp)
theorem real_nil (t : List It) (h : Nat) (r : List B) : realF t h r [] = (Nm.joined r, 0) := by rw [realF]
theorem real_none {t : List It} {h : Nat} {r rest : List B} {a : B} (e : find t (Nm.joined (r ++ [a])) = none) : realF t h r (a :: rest) = ([], 4) := by rw [realF, e]
theorem real_loop {t : List It} {h : Nat} {r rest : List B} {a : B} {i : Nat} {x : It} (e : find t (Nm.joined (r ++ [a])) = some i) (hx : t[i]? = some x) (hk : x.kind = 4) (hh : 40 ≤ h) : realF t h r (a :: rest) = ([], 114) := by
  rw [realF, e]; dsimp only; rw [hx]; dsimp only; rw [if_pos hk, dif_pos hh]
theorem real_soft {t : List It} {h : Nat} {r rest : List B} {a : B} {i : Nat} {x : It} (e : find t (Nm.joined (r ++ [a])) = some i) (hx : t[i]? = some x) (hk : x.kind = 4) (hh : h < 40) : realF t h r (a :: rest) = realF t (h + 1) [] (pts (Nm.lead x.path x.to).1 ++ rest) := by
  rw [realF, e]; dsimp only; rw [hx]; dsimp only; rw [if_pos hk, dif_neg (by omega)]
theorem real_step {t : List It} {h : Nat} {r rest : List B} {a : B} {i : Nat} {x : It} (e : find t (Nm.joined (r ++ [a])) = some i) (hx : t[i]? = some x) (hk : x.kind ≠ 4) : realF t h r (a :: rest) = realF t h (pts (endOf x)) rest := by
  rw [realF, e]; dsimp only; rw [hx]; dsimp only; rw [if_neg hk]
/-- what Real answers -/
def realE (t : List It) (p : B) : B × Int := if (chkE t).2 ≠ 0 then ([], (chkE t).2) else if p = [] then ([], 0) else if (Nm.check p).2 ≠ 0 then ([], (Nm.check p).2) else realF t 0 [] (Nm.pieces p)
theorem joined_pts (p : B) : Nm.joined (pts p) = p := by
  unfold pts; split
  · rename_i h; rw [h]; rfl
  · exact Nm.joined_pieces p
theorem parts_of {p : B} (h : (Nm.check p).2 = 0) : Nm.Parts (Nm.pieces p) := fun q hq => ⟨Nm.partE_ne (((Nm.check_iff p).1 h).2 q hq), Nm.pieces_no p q hq⟩
theorem pts_check {p : B} (h : (Nm.check p).2 = 0) : Nm.Parts (pts p) := by
  unfold pts; split
  · intro q hq; simp at hq
  · exact parts_of h
theorem pts_lead {a b : B} (h : (Nm.lead a b).2 = 0) : Nm.Parts (pts (Nm.lead a b).1) := by
  unfold pts; split
  · intro q hq; simp at hq
  · rename_i hne
    rcases Nm.lead_inside h with e | ⟨e, -⟩
    · exact absurd e hne
    · exact fun q hq => ⟨(e q hq).1, Nm.pieces_no _ q hq⟩
theorem parts_append {a b : List B} (ha : Nm.Parts a) (hb : Nm.Parts b) : Nm.Parts (a ++ b) := fun q hq => by
  rcases List.mem_append.1 hq with h | h
  · exact ha q h
  · exact hb q h
theorem parts_tail {a : B} {l : List B} (h : Nm.Parts (a :: l)) : Nm.Parts l := fun q hq => h q (List.mem_cons_of_mem _ hq)
theorem joined_ne {l : List B} (h : Nm.Parts l) (hne : l ≠ []) : Nm.joined l ≠ [] := fun e => hne (Nm.joined_nil h e)
/-- one part more -/
theorem joined_more {r : List B} (h : Nm.Parts r) (a : B) : Nm.joined (r ++ [a]) = if Nm.joined r = [] then a else Nm.joined r ++ 47 :: a := by
  by_cases e : r = []
  · subst e; rfl
  · rw [if_neg (joined_ne h e), Nm.joined_append r a e]
theorem joined_front {e : B} {rest : List B} (h : Nm.Parts rest) : Nm.joined (pts e ++ rest) = if e = [] ∨ Nm.joined rest = [] then e ++ Nm.joined rest else e ++ 47 :: Nm.joined rest := by
  by_cases h1 : e = []
  · rw [if_pos (.inl h1)]; subst h1; rfl
  · by_cases h2 : rest = []
    · subst h2
      rw [if_pos (.inr rfl), List.append_nil, joined_pts]
      show e = e ++ []
      rw [List.append_nil]
    · rw [if_neg (fun h' => by rcases h' with h' | h'; exact h1 h'; exact joined_ne h h2 h')]
      unfold pts
      rw [if_neg h1, Nm.joined_two _ _ (Nm.pieces_ne e) h2, Nm.joined_pieces]
theorem joined_cons_len (a : B) (rest : List B) : (Nm.joined rest).length ≤ (Nm.joined (a :: rest)).length := by
  cases rest with
  | nil => simp [Nm.joined]
  | cons b l => rw [Nm.joined_cons a (by simp)]; simp; omega
theorem joined_cons_lt {a : B} (ha : a ≠ []) (rest : List B) : (Nm.joined rest).length < (Nm.joined (a :: rest)).length := by
  have := List.length_pos_iff.2 ha
  cases rest with
  | nil => show 0 < _; exact this
  | cons b l => rw [Nm.joined_cons a (by simp)]; simp; omega
theorem lead_to {a b : B} (h : (Nm.lead a b).2 = 0) : b.length ≤ 400 := by
  unfold Nm.lead at h
  repeat' split at h
  all_goals first | omega | (exfalso; revert h; decide) | (exfalso; simp at h; done) | (rename_i h1 h2; omega)
theorem lead_bound {a b : B} (h : (Nm.lead a b).2 = 0) (ha : a.length ≤ 400) : (Nm.lead a b).1.length ≤ 802 := by
  have h1 := lead_to h
  have := Nm.lead_len (r := (Nm.lead a b).1) (a := a) (b := b) (by rw [← h])
  omega
/-- nothing stands in a file -/
theorem file_none {t : List It} (h : Ok t) {i : Nat} {x : It} (hx : t[i]? = some x) (hk : x.kind = 1) {b : B} (hb : b ≠ []) (hb2 : (47 : UInt8) ∉ b) : find t (Nm.joined (Nm.pieces x.path ++ [b])) = none := by
  rcases hf : find t (Nm.joined (Nm.pieces x.path ++ [b])) with _ | j
  · rfl
  · exfalso
    obtain ⟨z, hz, hzp, -⟩ := find_some _ _ _ hf
    have hu := step_up (h j z hz)
    have hxm := step_may (h i x hx)
    have hpc : Nm.pieces z.path = Nm.pieces x.path ++ [b] := by
      rw [hzp, Nm.pieces_joined _ (by simp)]
      intro q hq
      rcases List.mem_append.1 hq with hq | hq
      · exact Nm.pieces_no _ q hq
      · rw [List.mem_singleton.1 hq]; exact hb2
    have hup : Nm.up z.path = x.path := by
      unfold Nm.up
      rw [hpc, List.dropLast_concat, Nm.joined_pieces]
    rw [hup] at hu
    rcases hu with hu | hu
    · exact (may_len hxm).2 hu
    · obtain ⟨y, hy, h1, h2⟩ := hasB_iff.1 hu
      obtain ⟨m, hm⟩ := List.getElem?_of_mem (List.mem_of_mem_take hy)
      obtain rfl : m = i := srt_unique (ok_srt h) hm hx h1
      rw [hx] at hm
      obtain rfl := Option.some.inj hm
      omega
theorem file_stop {t : List It} (h : Ok t) {i : Nat} {x : It} (hx : t[i]? = some x) (hk : x.kind = 1) {b : B} (hb : b ≠ []) (hb2 : (47 : UInt8) ∉ b) (hops : Nat) (rest : List B) : realF t hops (pts x.path) (b :: rest) = ([], 4) := by
  refine real_none ?_
  unfold pts
  rw [if_neg (may_len (step_may (h i x hx))).2]
  exact file_none h hx hk hb hb2
/-- the file that a hard link names -/
theorem hard_file {t : List It} (h : Ok t) {i : Nat} {x : It} (hx : t[i]? = some x) (hk : x.kind = 3) : ∃ j y, find t x.to = some j ∧ t[j]? = some y ∧ y.path = x.to ∧ y.kind = 1 := by
  obtain ⟨y, hy, h1, h2⟩ := hasB_iff.1 (step_hard (h i x hx) hk)
  obtain ⟨j, hj⟩ := List.getElem?_of_mem (List.mem_of_mem_take hy)
  refine ⟨j, y, find_at t x.to j y hj h1 (fun m z hm hz e => ?_), hj, h1, h2⟩
  have := srt_unique (ok_srt h) hz hj (e.trans h1.symm)
  omega
end Tr
end Go.Proofs.Ytjifdoneejofiab
