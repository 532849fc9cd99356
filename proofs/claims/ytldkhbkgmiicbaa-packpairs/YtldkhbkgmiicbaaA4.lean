/- Lists of records: put and got, there and back (code-free). -/
import Derived.Test.YtldkhbkgmiicbaaA3
namespace Go.Proofs.Ytldkhbkgmiicbaa
open Go.RowKit Go.Deep
set_option linter.unusedVariables false
set_option linter.unusedSimpArgs false

namespace Px
/-- does a key stand behind the one ahead? -/
def behind : Option B → B → Bool
  | none, _ => true
  | some q, k => Nm.less q k
/-- what is wrong with a list, and where -/
def putE : Option B → List Pr → Nat → Nat × Nat
  | _, [], _ => (0, 0)
  | o, p :: l, i => if fits p ≠ 0 then (i, fits p) else if behind o p.1 = false then (i, 92) else putE (some p.1) l (i + 1)
/-- the records of a list -/
def all9 : List Pr → B
  | [] => []
  | p :: l => rcd p ++ all9 l
theorem all9_append : ∀ (a b : List Pr), all9 (a ++ b) = all9 a ++ all9 b
  | [], b => rfl
  | p :: a, b => by rw [List.cons_append, all9, all9, all9_append a b, List.append_assoc]
/-- Put's answer -/
def putF (l : List Pr) : B × Nat × Nat := if 64 < l.length then ([], 64, 3) else if (putE none l 0).2 ≠ 0 then ([], putE none l 0) else (all9 l, 0, 0)
/-- Get's answer, from a place on, so many pairs behind -/
def getF (b : B) (i : Nat) (out : List Pr) : List Pr × Nat × Nat :=
  if hb : b = [] then (out, 0, 0)
  else if out.length = 64 then ([], i, 3)
  else if (oneF b).2.2 ≠ 0 then ([], i, (oneF b).2.2)
  else if behind (out.getLast?.map (·.1)) (oneF b).1.1 = false then ([], i, 92)
  else if (oneF b).2.1 = 0 then ([], i, 90)
  else getF (b.drop (oneF b).2.1) (i + (oneF b).2.1) (out ++ [(oneF b).1])
termination_by b.length
decreasing_by
  rw [List.length_drop]
  have := List.length_pos_iff.2 hb
  omega
theorem fits_vals (p : Pr) : fits p = 0 ∨ fits p = 91 ∨ fits p = 2 := by
  unfold fits
  split
  · exact .inr (.inl rfl)
  · split
    · exact .inr (.inr rfl)
    · exact .inl rfl
theorem putE_ok : ∀ (l : List Pr) (o : Option B) (i : Nat), (putE o l i).2 = 0 ↔ ((∀ p ∈ l, fits p = 0) ∧ Srt l ∧ ∀ p ∈ l, behind o p.1 = true)
  | [], o, i => by simp [putE, Srt]
  | p :: l, o, i => by
    unfold putE
    by_cases h1 : fits p = 0
    · rw [if_neg (by simp [h1])]
      cases h2 : behind o p.1 with
      | false =>
        rw [if_pos rfl]
        constructor
        · intro h; cases h
        · rintro ⟨_, _, h⟩; rw [h p List.mem_cons_self] at h2; cases h2
      | true =>
        rw [if_neg (by simp), putE_ok l (some p.1) (i + 1)]
        constructor
        · rintro ⟨a, b, c⟩
          refine ⟨fun x hx => ?_, List.pairwise_cons.2 ⟨c, b⟩, fun x hx => ?_⟩
          · rcases List.mem_cons.1 hx with rfl | hx
            · exact h1
            · exact a x hx
          · rcases List.mem_cons.1 hx with rfl | hx
            · exact h2
            · have := c x hx
              cases o with
              | none => rfl
              | some q => exact Nm.less_trans _ _ _ h2 this
        · rintro ⟨a, b, c⟩
          exact ⟨fun x hx => a x (List.mem_cons_of_mem _ hx), b.tail, (List.pairwise_cons.1 b).1⟩
    · rw [if_pos h1]
      constructor
      · intro h; exact absurd h h1
      · rintro ⟨h, _⟩; exact absurd (h p List.mem_cons_self) h1
theorem put_ok (l : List Pr) : (putF l).2.2 = 0 ↔ (l.length ≤ 64 ∧ (∀ p ∈ l, fits p = 0) ∧ Srt l) := by
  have h := putE_ok l none 0
  unfold putF
  by_cases h1 : 64 < l.length
  · rw [if_pos h1]
    constructor
    · intro h; cases h
    · rintro ⟨h2, _⟩; omega
  · rw [if_neg h1]
    by_cases h2 : (putE none l 0).2 = 0
    · rw [if_neg (by simp [h2])]
      have := h.1 h2
      exact ⟨fun _ => ⟨by omega, this.1, this.2.1⟩, fun _ => rfl⟩
    · rw [if_pos h2]
      constructor
      · intro e; exact absurd e h2
      · rintro ⟨_, a, b⟩; exact absurd (h.2 ⟨a, b, fun _ _ => rfl⟩) h2
theorem put_all {l : List Pr} (h : l.length ≤ 64 ∧ (∀ p ∈ l, fits p = 0) ∧ Srt l) : putF l = (all9 l, 0, 0) := by
  have h2 := (putE_ok l none 0).2 ⟨h.2.1, h.2.2, fun _ _ => rfl⟩
  unfold putF
  rw [if_neg (by omega), if_neg (by simp [h2])]
theorem srt_snoc {out : List Pr} {p : Pr} (h : Srt out) (hb : behind (out.getLast?.map (·.1)) p.1 = true) : Srt (out ++ [p]) := by
  unfold Srt at h ⊢
  rw [List.pairwise_append]
  refine ⟨h, List.pairwise_singleton _ _, fun a ha b hb' => ?_⟩
  obtain rfl := List.mem_singleton.1 hb'
  have hne : out ≠ [] := fun e => by rw [e] at ha; cases ha
  have e := List.dropLast_concat_getLast hne
  rw [List.getLast?_eq_some_getLast hne] at hb
  have hb2 : Nm.less (out.getLast hne).1 b.1 = true := hb
  rw [← e] at ha h
  rcases List.mem_append.1 ha with ha | ha
  · exact Nm.less_trans _ _ _ ((List.pairwise_append.1 h).2.2 a ha _ List.mem_cons_self) hb2
  · obtain rfl := List.mem_singleton.1 ha; exact hb2
theorem behind_of_srt {out l : List Pr} {p : Pr} (h : Srt (out ++ p :: l)) : behind (out.getLast?.map (·.1)) p.1 = true := by
  cases ho : out.getLast? with
  | none => rfl
  | some q =>
    have hq : q ∈ out := List.mem_of_getLast? ho
    exact (List.pairwise_append.1 h).2.2 q hq p List.mem_cons_self
/-- what was put is got -/
theorem get_put : ∀ (l out : List Pr) (i : Nat), (out ++ l).length ≤ 64 → (∀ p ∈ l, fits p = 0) → Srt (out ++ l) → getF (all9 l) i out = (out ++ l, 0, 0)
  | [], out, i, _, _, _ => by rw [all9, getF, dif_pos rfl, List.append_nil]
  | p :: l, out, i, hl, hf, hs => by
    have h1 := one_rcd p (hf p List.mem_cons_self) (all9 l)
    have hn := psize_pos p
    have hne : rcd p ++ all9 l ≠ [] := fun e => by
      have := congrArg List.length e
      rw [List.length_append, rcd_len] at this
      simp at this; omega
    rw [all9, getF, dif_neg hne]
    simp only [h1]
    rw [if_neg (by simp at hl; omega), if_neg (by simp), if_neg (by rw [behind_of_srt hs]; simp), if_neg (by omega), ← rcd_len p, List.drop_left]
    rw [get_put l (out ++ [p]) _ (by simpa using hl) (fun x hx => hf x (List.mem_cons_of_mem _ hx)) (by simpa using hs)]
    simp
/-- what is got of any bytes, put, is just these bytes -/
theorem get_ok : ∀ (n : Nat) (b : B) (i : Nat) (out m : List Pr), b.length ≤ n → out.length ≤ 64 → (∀ p ∈ out, fits p = 0) → Srt out → getF b i out = (m, 0, 0) →
    m.length ≤ 64 ∧ (∀ p ∈ m, fits p = 0) ∧ Srt m ∧ all9 m = all9 out ++ b := by
  intro n
  induction n with
  | zero =>
    intro b i out m hn ho hf hs h
    obtain rfl := List.eq_nil_of_length_eq_zero (Nat.le_zero.1 hn)
    rw [getF, dif_pos rfl] at h
    injection h with h _
    subst h
    exact ⟨ho, hf, hs, by rw [List.append_nil]⟩
  | succ n ih =>
    intro b i out m hn ho hf hs h
    rw [getF] at h
    split at h
    · rename_i hb
      subst hb
      injection h with h _
      subst h
      exact ⟨ho, hf, hs, by rw [List.append_nil]⟩
    · rename_i hb
      split at h
      · cases h
      rename_i h64
      split at h
      · rename_i h1
        injection h with _ h
        injection h with _ h
        exact absurd h h1
      rename_i h1
      split at h
      · cases h
      rename_i h2
      split at h
      · cases h
      rename_i h3
      have h0 : (oneF b).2.2 = 0 := Decidable.not_not.1 h1
      have e : oneF b = ((oneF b).1, (oneF b).2.1, 0) := Prod.ext rfl (Prod.ext rfl h0)
      obtain ⟨a1, a2, a3, a4⟩ := one_ok e
      obtain ⟨b1, b2, b3, b4⟩ := ih _ _ _ m (by rw [List.length_drop]; omega) (by simp; omega) (fun p hp => by
        rcases List.mem_append.1 hp with hp | hp
        · exact hf p hp
        · obtain rfl := List.mem_singleton.1 hp; exact a1) (srt_snoc hs (by simpa using h2)) h
      refine ⟨b1, b2, b3, ?_⟩
      rw [b4, all9_append, List.append_assoc]
      congr 1
      show (rcd _ ++ []) ++ _ = b
      rw [List.append_nil, ← a3, List.take_append_drop]
theorem get_bad {b : B} {i : Nat} {out : List Pr} (h : (getF b i out).2.2 ≠ 0) : (getF b i out).1 = [] ∧ i ≤ (getF b i out).2.1 ∧ (getF b i out).2.1 ≤ i + b.length := by
  have : ∀ (n : Nat) (b : B) (i : Nat) (out : List Pr), b.length ≤ n → (getF b i out).2.2 ≠ 0 → (getF b i out).1 = [] ∧ i ≤ (getF b i out).2.1 ∧ (getF b i out).2.1 ≤ i + b.length := by
    intro n
    induction n with
    | zero =>
      intro b i out hn h
      obtain rfl := List.eq_nil_of_length_eq_zero (Nat.le_zero.1 hn)
      rw [getF, dif_pos rfl] at h
      exact absurd rfl h
    | succ n ih =>
      intro b i out hn h
      rw [getF] at h ⊢
      split at h
      · exact absurd rfl h
      rename_i hb
      rw [dif_neg hb]
      by_cases h64 : out.length = 64
      · rw [if_pos h64]; exact ⟨rfl, Nat.le_refl _, Nat.le_add_right _ _⟩
      rw [if_neg h64] at h ⊢
      by_cases h1 : (oneF b).2.2 ≠ 0
      · rw [if_pos h1]; exact ⟨rfl, Nat.le_refl _, Nat.le_add_right _ _⟩
      rw [if_neg h1] at h ⊢
      by_cases h2 : behind (out.getLast?.map (·.1)) (oneF b).1.1 = false
      · rw [if_pos h2]; exact ⟨rfl, Nat.le_refl _, Nat.le_add_right _ _⟩
      rw [if_neg h2] at h ⊢
      by_cases h3 : (oneF b).2.1 = 0
      · rw [if_pos h3]; exact ⟨rfl, Nat.le_refl _, Nat.le_add_right _ _⟩
      rw [if_neg h3] at h ⊢
      have h0 : (oneF b).2.2 = 0 := Decidable.not_not.1 h1
      have e : oneF b = ((oneF b).1, (oneF b).2.1, 0) := Prod.ext rfl (Prod.ext rfl h0)
      obtain ⟨_, _, _, a4⟩ := one_ok e
      have hd : (b.drop (oneF b).2.1).length = b.length - (oneF b).2.1 := List.length_drop
      obtain ⟨c1, c2, c3⟩ := ih _ _ _ (by omega) h
      exact ⟨c1, by omega, by omega⟩
  exact this _ b i out (Nat.le_refl _) h
theorem get_cut (p : Pr) (h : fits p = 0) (cut : Nat) (h1 : 1 ≤ cut) (h2 : cut < psize p) : getF ((rcd p).take cut) 0 [] = ([], 0, 90) := by
  have hne : (rcd p).take cut ≠ [] := fun e => by
    have := congrArg List.length e
    rw [List.length_take, rcd_len] at this
    simp at this; omega
  rw [getF, dif_neg hne]
  simp only [one_cut p h cut h1 h2]
  rw [if_neg (by simp), if_pos (by simp)]
end Px
end Go.Proofs.Ytldkhbkgmiicbaa
