/- The program's own Lead: where a link leads. -/
import Derived.Test.YtpkdnockbbppiaaNR
namespace Go.Proofs.Ytpkdnockbbppiaa
open Go.RowKit Go.Deep Go.Shelf
set_option linter.unusedVariables false
set_option linter.unusedSimpArgs false
attribute [local go_sem] Oper.semAt_some

namespace Nm
/-- a part put behind others, or behind none -/
def blw (r p : B) : B := if r = [] then p else r ++ 47 :: p
/-- one piece of a link's way -/
def stepW (r p : B) : Option B := if p = [] ∨ p = [46] then some r else if p ≠ [46, 46] then some (blw r p) else if r = [] then none else some (up r)
def goW : B → List B → Option B
  | r, [] => some r
  | r, p :: ps => match stepW r p with | none => none | some r' => goW r' ps
theorem goW_append : ∀ (ps qs : List B) (r : B), goW r (ps ++ qs) = match goW r ps with | none => none | some r' => goW r' qs
  | [], qs, r => rfl
  | p :: ps, qs, r => by
    have e1 : goW r (p :: ps ++ qs) = match stepW r p with | none => none | some r' => goW r' (ps ++ qs) := rfl
    have e2 : goW r (p :: ps) = match stepW r p with | none => none | some r' => goW r' ps := rfl
    rw [e1, e2]
    cases h : stepW r p with
    | none => rfl
    | some r' => exact goW_append ps qs r'
theorem goW_snoc {ps : List B} {r r' : B} (p : B) (h : goW r ps = some r') : goW r (ps ++ [p]) = stepW r' p := by
  rw [goW_append, h]
  show (match stepW r' p with | none => none | some q => goW q []) = _
  cases stepW r' p <;> rfl
theorem goW_none {ps qs : List B} {r : B} (h : goW r ps = none) (hp : ps <+: qs) : goW r qs = none := by
  obtain ⟨t, rfl⟩ := hp
  rw [goW_append, h]
theorem up_len8 (l : B) : (up l).length ≤ l.length := by
  by_cases h : (47 : UInt8) ∈ l
  · rcases last_cases (S l) with ⟨h1, _⟩ | ⟨i, _, _, h3, h4⟩
    · rw [toList_S] at h1; exact absurd h h1
    · rw [toList_S] at h3
      rw [up_at h3 (fun j hj => by have := h4 j hj; rwa [toList_S] at this), List.length_take]
      omega
  · rw [up_none h]; exact Nat.zero_le _
theorem stepW_len {r p r' : B} (h : stepW r p = some r') : r'.length ≤ r.length + (p.length + 1) := by
  unfold stepW at h
  split at h
  · cases h; omega
  · split at h
    · cases h
      unfold blw
      split
      · omega
      · rw [List.length_append, List.length_cons]
        omega
    · split at h
      · cases h
      · cases h; have := up_len8 r; omega
/-- right parts: they have bytes, and no stroke -/
def Parts (ps : List B) : Prop := ∀ p ∈ ps, p ≠ [] ∧ (47 : UInt8) ∉ p
theorem joined_nil {ps : List B} (h : Parts ps) (e : joined ps = []) : ps = [] := by
  cases ps with
  | nil => rfl
  | cons p r =>
    cases r with
    | nil => exact absurd e (h p (by simp)).1
    | cons q t => rw [joined_cons p (by simp)] at e; simp at e
theorem lead_go : ∀ (ss way : List B), Parts way → (∀ p ∈ ss, (47 : UInt8) ∉ p) → goW (joined way) ss = (leadF way ss).map joined
  | [], way, _, _ => rfl
  | s :: ss, way, hw, hs => by
    have hs' : ∀ p ∈ ss, (47 : UInt8) ∉ p := fun p hp => hs p (List.mem_cons_of_mem _ hp)
    unfold goW leadF stepW
    by_cases h1 : s = [] ∨ s = [46]
    · rw [if_pos h1, if_pos h1]; exact lead_go ss way hw hs'
    · rw [if_neg h1, if_neg h1]
      by_cases h2 : s ≠ [46, 46]
      · rw [if_pos h2, if_pos h2]
        have e : blw (joined way) s = joined (way ++ [s]) := by
          unfold blw
          by_cases hn : way = []
          · subst hn; rfl
          · rw [if_neg (fun e => hn (joined_nil hw e)), joined_append way s hn]
        show goW (blw (joined way) s) ss = _
        rw [e]
        refine lead_go ss (way ++ [s]) ?_ hs'
        intro p hp
        rcases List.mem_append.1 hp with hp | hp
        · exact hw p hp
        · rw [List.mem_singleton.1 hp]; exact ⟨fun e => h1 (.inl e), hs s (by simp)⟩
      · rw [if_neg h2, if_neg h2]
        by_cases hn : way = []
        · subst hn; rfl
        · rw [if_neg (fun e => hn (joined_nil hw e)), if_neg hn]
          have e : up (joined way) = joined way.dropLast := by
            unfold up
            rw [pieces_joined way hn (fun p hp => (hw p hp).2)]
          show goW (up (joined way)) ss = _
          rw [e]
          exact lead_go ss way.dropLast (fun p hp => hw p (List.dropLast_subset _ hp)) hs'
theorem all_snd (l : B) : (all l).map (fun x => x.2) = pieces l := by
  unfold all
  have : ∀ (ps : List B) k, (ats k ps).map (fun x => x.2) = ps := by
    intro ps
    induction ps with
    | nil => intro k; rfl
    | cons p ps ih => intro k; simp only [ats, List.map_cons, ih]
  exact this _ _
theorem partE_ne {p : B} (h : (partE p).2 = 0) : p ≠ [] := by
  rintro rfl
  unfold partE at h
  rw [if_pos rfl] at h
  exact absurd h (by decide)
/-- where a link leads, by the way's texts -/
theorem lead_is {a b : B} (h1 : (check a).2 = 0) (h2 : b ≠ []) (h3 : b.length ≤ 400) (h4 : nul b = none) (h5 : b.head? ≠ some 47) :
    lead a b = match goW (up a) (pieces b) with | none => ([], 83) | some r => (r, 0) := by
  have hp : Parts (pieces a).dropLast := fun p hp => by
    have hm := List.dropLast_subset _ hp
    exact ⟨partE_ne (((check_iff a).1 h1).2 p hm), pieces_no a p hm⟩
  unfold lead
  rw [if_neg (fun h => h h1), if_neg h2, if_neg (by omega), if_neg (fun h => h h4), if_neg h5]
  have := lead_go (pieces b) _ hp (fun p hp => pieces_no b p hp)
  unfold up
  rw [this]
  cases leadF (pieces a).dropLast (pieces b) <;> rfl
end Nm
theorem s_nil (l : Nm.B) : ((Nm.S l).toList == []) = decide (l = []) := by
  rw [Nm.toList_S]
  by_cases h : l = []
  · subst h; rfl
  · rw [decide_eq_false h, beq_eq_false_iff_ne]; exact h
theorem s_one (l m : Nm.B) : ((Nm.S l).toList == m) = decide (l = m) := by
  rw [Nm.toList_S]
  by_cases h : l = m
  · subst h; rw [decide_eq_true rfl]; simp
  · rw [decide_eq_false h, beq_eq_false_iff_ne]; exact h
/-- what a link's way answers -/
def Nm.wayE (r : Option Nm.B) : Nm.B × Int := match r with | none => ([], 83) | some r => (r, 0)
theorem head_pre (t : ByteArray) : (⟨#[47]⟩ : ByteArray).toList.isPrefixOf t.toList = decide (t.toList.head? = some 47) := by
  rw [show (⟨#[47]⟩ : ByteArray).toList = [47] from Nm.toList_S [47]]
  cases t.toList with
  | nil => rfl
  | cons c l =>
    by_cases h : c = 47
    · subst h; simp [List.isPrefixOf]
    · have h2 : ¬ 47 = c := fun e => h e.symm
      simp [List.isPrefixOf, h, h2]
end Go.Proofs.Ytpkdnockbbppiaa
