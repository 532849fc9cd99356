/- Texts of mine, put together. -/
import Derived.Test.YtldkhbkgmiicbabGreatDoorBu7

/- Links stay inside the root: the mathematics; the contracts of the statements' own clean and strokes. -/
namespace Go.Proofs.YtldkhbkgmiicbabGreatDoor
open Go.RowKit Go.Deep
set_option linter.unusedVariables false
set_option linter.unusedSimpArgs false

namespace Nm
/-- a piece that is right -/
def Right (p : B) : Prop := p ≠ [] ∧ p ≠ [46] ∧ p ≠ [46, 46] ∧ (0 : UInt8) ∉ p
theorem chk_zero : ∀ (k : Nat) (ps : List B), (chk k ps).2 = 0 → ∀ p ∈ ps, (partE p).2 = 0
  | _, [], _, p, hp => by cases hp
  | k, q :: ps, h, p, hp => by
    unfold chk at h
    by_cases h0 : (partE q).2 = 0
    · rw [if_pos h0] at h
      rcases List.mem_cons.1 hp with rfl | hp
      · exact h0
      · exact chk_zero _ ps h p hp
    · rw [if_neg h0] at h; exact absurd h h0
theorem up_len (l : B) : (up l).length ≤ l.length := by
  obtain ⟨ps, p, hpp⟩ : ∃ ps p, pieces l = ps ++ [p] := ⟨_, _, (List.dropLast_concat_getLast (pieces_ne l)).symm⟩
  rw [up_of hpp]
  split
  · exact Nat.zero_le _
  · rw [List.length_take]; omega
end Nm

end Go.Proofs.YtldkhbkgmiicbabGreatDoor

/- Trees of files, code-free: items, what may be, which lists are trees, what is found. -/
namespace Go.Proofs.YtldkhbkgmiicbabGreatDoor
open Go.RowKit
set_option linter.unusedVariables false
set_option linter.unusedSimpArgs false

namespace Tr
abbrev B := Nm.B
/-- an item -/
structure It where
  path : B
  kind : Nat
  mode : Int
  time : Int
  body : B
  «to» : B
theorem it_ext {x y : It} (h1 : x.path = y.path) (h2 : x.kind = y.kind) (h3 : x.mode = y.mode) (h4 : x.time = y.time) (h5 : x.body = y.body) (h6 : x.to = y.to) : x = y := by
  cases x; cases y; simp_all
/-- what is wrong with an item -/
def mayE (x : It) : Int :=
  if (Nm.check x.path).2 ≠ 0 then (Nm.check x.path).2
  else if x.kind < 1 ∨ 4 < x.kind then 1
  else if x.time < 0 ∨ 1099511627776 < x.time ∨ (x.kind = 3 ∧ x.time ≠ 0) then 1
  else if x.mode < 0 ∨ 4095 < x.mode ∨ ((x.kind = 3 ∨ x.kind = 4) ∧ x.mode ≠ 0) then 1
  else if (0 < x.body.length ∧ x.kind ≠ 1) ∨ (x.to ≠ [] ∧ ¬ (x.kind = 3 ∨ x.kind = 4)) then 110
  else if 65536 < x.body.length then 2
  else if x.kind = 3 then (Nm.check x.to).2
  else if x.kind = 4 then (Nm.lead x.path x.to).2
  else 0
theorem may_check {x : It} (h : mayE x = 0) : (Nm.check x.path).2 = 0 := by
  unfold mayE at h
  split at h
  · exact h
  · rename_i hn; exact Decidable.not_not.1 hn
theorem check_ok_ne {p : B} (h : (Nm.check p).2 = 0) : p.length ≤ 400 ∧ p ≠ [] := by
  have h1 := (Nm.check_iff p).1 h
  refine ⟨h1.1, fun e => ?_⟩
  rw [e] at h1
  have := h1.2 [] (by simp [Nm.pieces])
  exact absurd this (by decide)
theorem may_len {x : It} (h : mayE x = 0) : x.path.length ≤ 400 ∧ x.path ≠ [] := check_ok_ne (may_check h)
theorem may_kind {x : It} (h : mayE x = 0) : 1 ≤ x.kind ∧ x.kind ≤ 4 := by
  unfold mayE at h
  repeat' split at h
  all_goals omega
/-- is a path that of an item of a kind? -/
def hasB (t : List It) (p : B) (k : Nat) : Bool := t.any fun y => decide (y.path = p) && decide (y.kind = k)
theorem hasB_iff {t : List It} {p : B} {k : Nat} : hasB t p k = true ↔ ∃ y ∈ t, y.path = p ∧ y.kind = k := by
  unfold hasB; rw [List.any_eq_true]; simp [Bool.and_eq_true, decide_eq_true_eq]
theorem hasB_no {t : List It} {p : B} {k : Nat} (h : ∀ (i : Nat) (y : It), t[i]? = some y → y.path = p → y.kind ≠ k) : hasB t p k = false := by
  rw [Bool.eq_false_iff]
  intro e
  obtain ⟨y, hy, h1, h2⟩ := hasB_iff.1 e
  obtain ⟨i, hi⟩ := List.getElem?_of_mem hy
  exact h i y hi h1 h2
theorem hasB_yes {t : List It} {p : B} {k i : Nat} {y : It} (hy : t[i]? = some y) (h1 : y.path = p) (h2 : y.kind = k) : hasB t p k = true :=
  hasB_iff.2 ⟨y, List.mem_of_getElem? hy, h1, h2⟩
/-- does it stand behind the last? -/
def behind (pre : List It) (x : It) : Bool := match pre.getLast? with | none => true | some y => decide (Nm.cmp y.path x.path = -1)
/-- what is wrong with an item behind others -/
def stepE (pre : List It) (x : It) : Int :=
  if mayE x ≠ 0 then mayE x
  else if behind pre x = false then 111
  else if Nm.up x.path ≠ [] ∧ hasB pre (Nm.up x.path) 2 = false then 112
  else if x.kind = 3 ∧ hasB pre x.to 1 = false then 113
  else 0
theorem step_may {pre : List It} {x : It} (h : stepE pre x = 0) : mayE x = 0 := by
  unfold stepE at h
  split at h
  · exact h
  · rename_i hn; exact Decidable.not_not.1 hn
theorem step_behind {pre : List It} {x : It} (h : stepE pre x = 0) : behind pre x = true := by
  unfold stepE at h
  split at h
  · exact absurd h (by assumption)
  · split at h
    · omega
    · rename_i hn; simpa using hn
def chkF (pre : List It) : List It → Nat × Int
  | [] => (0, 0)
  | x :: r => if stepE pre x ≠ 0 then (pre.length, stepE pre x) else chkF (pre ++ [x]) r
/-- what Check answers -/
def chkE (t : List It) : Nat × Int := if 256 < t.length then (256, 3) else chkF [] t
theorem chkF_good : ∀ (r pre : List It), (∀ (i : Nat) (x : It), r[i]? = some x → stepE (pre ++ r.take i) x = 0) → chkF pre r = (0, 0)
  | [], pre, h => rfl
  | x :: r, pre, h => by
    have h0 := h 0 x rfl
    rw [List.take_zero, List.append_nil] at h0
    unfold chkF
    rw [if_neg (by simp [h0])]
    refine chkF_good r (pre ++ [x]) fun i y hy => ?_
    have := h (i + 1) y (by simpa using hy)
    rwa [List.take_succ_cons, List.append_cons] at this
theorem chkF_bad : ∀ (r pre : List It) (i : Nat) (x : It), r[i]? = some x → (∀ (j : Nat) (y : It), j < i → r[j]? = some y → stepE (pre ++ r.take j) y = 0) → stepE (pre ++ r.take i) x ≠ 0 → chkF pre r = (pre.length + i, stepE (pre ++ r.take i) x)
  | [], pre, i, x, h, _, _ => by simp at h
  | y :: r, pre, 0, x, h, _, hb => by
    obtain rfl : y = x := by simpa using h
    rw [List.take_zero, List.append_nil] at hb ⊢
    unfold chkF
    rw [if_pos hb]; rfl
  | y :: r, pre, i + 1, x, h, hg, hb => by
    have h0 := hg 0 y (by omega) rfl
    rw [List.take_zero, List.append_nil] at h0
    unfold chkF
    rw [if_neg (by simp [h0]), chkF_bad r (pre ++ [y]) i x (by simpa using h) (fun j z hj hz => by
      have := hg (j + 1) z (by omega) (by simpa using hz)
      rwa [List.take_succ_cons, List.append_cons] at this) (by rwa [List.take_succ_cons, List.append_cons] at hb)]
    rw [List.take_succ_cons, List.append_cons, List.length_append]
    simp
    omega
/-- a list that is a tree, whatever its length -/
def Ok (t : List It) : Prop := ∀ (i : Nat) (x : It), t[i]? = some x → stepE (t.take i) x = 0
/-- so far -/
def Okto (t : List It) (n : Nat) : Prop := ∀ (i : Nat) (x : It), i < n → t[i]? = some x → stepE (t.take i) x = 0
theorem okto_zero (t : List It) : Okto t 0 := fun i _ h => absurd h (Nat.not_lt_zero _)
theorem okto_succ {t : List It} {n : Nat} {x : It} (h : Okto t n) (hx : t[n]? = some x) (hs : stepE (t.take n) x = 0) : Okto t (n + 1) := fun i y hi hy => by
  rcases Nat.lt_or_ge i n with g | g
  · exact h i y g hy
  · obtain rfl : i = n := by omega
    rw [hx] at hy; obtain rfl := Option.some.inj hy; exact hs
theorem okto_all {t : List It} (h : Okto t t.length) : Ok t := fun i x hx => h i x (List.getElem?_eq_some_iff.1 hx).1 hx
theorem okto_take {t : List It} {n : Nat} (h : Okto t n) : Ok (t.take n) := fun i x hx => by
  have hi := (List.getElem?_eq_some_iff.1 hx).1
  rw [List.length_take] at hi
  rw [List.getElem?_take, if_pos (by omega)] at hx
  rw [List.take_take, Nat.min_eq_left (by omega)]
  exact h i x (by omega) hx
theorem ok_take {t : List It} (h : Ok t) (n : Nat) : Ok (t.take n) := okto_take fun i x _ hx => h i x hx
theorem chk_long {t : List It} (h : 256 < t.length) : chkE t = (256, 3) := by unfold chkE; rw [if_pos h]
theorem chk_good {t : List It} (hl : t.length ≤ 256) (h : Ok t) : chkE t = (0, 0) := by
  unfold chkE; rw [if_neg (by omega)]
  exact chkF_good t [] fun i x hx => by rw [List.nil_append]; exact h i x hx
theorem chk_bad {t : List It} {i : Nat} {x : It} (hl : t.length ≤ 256) (h : Okto t i) (hx : t[i]? = some x) (hb : stepE (t.take i) x ≠ 0) : chkE t = (i, stepE (t.take i) x) := by
  unfold chkE; rw [if_neg (by omega), chkF_bad t [] i x hx (fun j y hj hy => by rw [List.nil_append]; exact h j y hj hy) (by rw [List.nil_append]; exact hb)]
  simp
theorem okto_or (t : List It) : ∀ n, Okto t n ∨ ∃ i x, i < n ∧ t[i]? = some x ∧ Okto t i ∧ stepE (t.take i) x ≠ 0
  | 0 => .inl (okto_zero t)
  | n + 1 => by
    rcases okto_or t n with h | ⟨i, x, h1, h2⟩
    · rcases hx : t[n]? with _ | x
      · left
        intro i y hi hy
        have := (List.getElem?_eq_some_iff.1 hy).1
        have := List.getElem?_eq_none_iff.1 hx
        exact h i y (by omega) hy
      · by_cases hs : stepE (t.take n) x = 0
        · exact .inl (okto_succ h hx hs)
        · exact .inr ⟨n, x, by omega, hx, h, hs⟩
    · exact .inr ⟨i, x, by omega, h2⟩
theorem chk_zero {t : List It} (h : (chkE t).2 = 0) : t.length ≤ 256 ∧ Ok t := by
  have hl : t.length ≤ 256 := by
    rcases Nat.lt_or_ge 256 t.length with g | g
    · rw [chk_long g] at h; simp at h
    · exact g
  refine ⟨hl, ?_⟩
  rcases okto_or t t.length with g | ⟨i, x, h1, h2, h3, h4⟩
  · exact okto_all g
  · rw [chk_bad hl h3 h2 h4] at h; exact absurd h h4
/-- paths rise -/
def Srt (t : List It) : Prop := ∀ (i j : Nat) (x y : It), i < j → t[i]? = some x → t[j]? = some y → Nm.cmp x.path y.path = -1
theorem ok_srt {t : List It} (h : Ok t) : Srt t := by
  have key : ∀ (d i : Nat) (x y : It), t[i]? = some x → t[i + 1 + d]? = some y → Nm.cmp x.path y.path = -1 := by
    intro d
    induction d with
    | zero =>
      intro i x y hx hy
      have hb := step_behind (h (i + 1) y (by simpa using hy))
      unfold behind at hb
      have hl : (t.take (i + 1)).getLast? = some x := by
        have hi := (List.getElem?_eq_some_iff.1 hx).1
        rw [List.getLast?_eq_getElem?, List.length_take, Nat.min_eq_left (by omega), List.getElem?_take, if_pos (by omega)]
        simpa using hx
      rw [hl] at hb
      simpa using hb
    | succ d ih =>
      intro i x y hx hy
      have hj := (List.getElem?_eq_some_iff.1 hy).1
      obtain ⟨z, hz⟩ : ∃ z, t[i + 1 + d]? = some z := ⟨_, List.getElem?_eq_getElem (by omega)⟩
      have h1 := ih i x z hx hz
      have hb := step_behind (h (i + 1 + (d + 1)) y hy)
      unfold behind at hb
      have hl : (t.take (i + 1 + (d + 1))).getLast? = some z := by
        rw [List.getLast?_eq_getElem?, List.length_take, Nat.min_eq_left (by omega), List.getElem?_take, if_pos (by omega)]
        exact hz
      rw [hl] at hb
      have h2 : Nm.cmp z.path y.path = -1 := by simpa using hb
      have f := Nm.cmp_facts x.path z.path y.path
      have g := (Nm.cmp_facts x.path y.path y.path).1
      have := f.2.2.2.2 (by omega) (by omega)
      omega
  intro i j x y hij hx hy
  obtain ⟨d, rfl⟩ : ∃ d, j = i + 1 + d := ⟨j - (i + 1), by omega⟩
  exact key d i x y hx hy
theorem srt_unique {t : List It} (h : Srt t) {i j : Nat} {x y : It} (hx : t[i]? = some x) (hy : t[j]? = some y) (e : x.path = y.path) : i = j := by
  have hz := (Nm.cmp_facts x.path y.path y.path).2.2.1.2 e
  have hz' := (Nm.cmp_facts y.path x.path y.path).2.2.1.2 e.symm
  rcases Nat.lt_trichotomy i j with g | g | g
  · have := h i j x y g hx hy; omega
  · exact g
  · have := h j i y x g hy hx; omega
/-- where a path's item stands -/
def find : List It → B → Option Nat
  | [], _ => none
  | x :: r, p => if x.path = p then some 0 else (find r p).map (· + 1)
theorem find_at : ∀ (t : List It) (p : B) (i : Nat) (x : It), t[i]? = some x → x.path = p → (∀ (j : Nat) (y : It), j < i → t[j]? = some y → y.path ≠ p) → find t p = some i
  | [], p, i, x, h, _, _ => by simp at h
  | y :: t, p, 0, x, h, hp, _ => by
    obtain rfl : y = x := by simpa using h
    unfold find; rw [if_pos hp]
  | y :: t, p, i + 1, x, h, hp, hn => by
    unfold find
    rw [if_neg (hn 0 y (by omega) rfl), find_at t p i x (by simpa using h) hp (fun j z hj hz => hn (j + 1) z (by omega) (by simpa using hz))]
    rfl
theorem find_none : ∀ (t : List It) (p : B), (∀ (j : Nat) (y : It), t[j]? = some y → y.path ≠ p) → find t p = none
  | [], p, h => rfl
  | y :: t, p, h => by
    unfold find
    rw [if_neg (h 0 y rfl), find_none t p (fun j z hz => h (j + 1) z (by simpa using hz))]; rfl
theorem find_some : ∀ (t : List It) (p : B) (i : Nat), find t p = some i → ∃ x, t[i]? = some x ∧ x.path = p ∧ ∀ (j : Nat) (y : It), j < i → t[j]? = some y → y.path ≠ p
  | [], p, i, h => by simp [find] at h
  | y :: t, p, i, h => by
    unfold find at h
    split at h
    · rename_i hp
      obtain rfl : 0 = i := by simpa using h
      exact ⟨y, rfl, hp, fun j _ hj => absurd hj (Nat.not_lt_zero _)⟩
    · rename_i hp
      rcases hf : find t p with _ | k
      · rw [hf] at h; simp at h
      · rw [hf] at h
        obtain rfl : k + 1 = i := by simpa using h
        obtain ⟨x, h1, h2, h3⟩ := find_some t p k hf
        refine ⟨x, by simpa using h1, h2, fun j z hj hz => ?_⟩
        cases j with
        | zero => obtain rfl : y = z := by simpa using hz
                  exact hp
        | succ j => exact h3 j z (by omega) (by simpa using hz)
theorem find_no {t : List It} {p : B} (h : find t p = none) (j : Nat) (y : It) (hy : t[j]? = some y) : y.path ≠ p := by
  intro e
  have key : ∀ n, (∀ (m : Nat) (z : It), m < n → t[m]? = some z → z.path ≠ p) ∨ ∃ (m : Nat) (z : It), t[m]? = some z ∧ z.path = p ∧ ∀ (k : Nat) (u : It), k < m → t[k]? = some u → u.path ≠ p := by
    intro n
    induction n with
    | zero => exact .inl fun m z hm => absurd hm (Nat.not_lt_zero _)
    | succ n ih =>
      rcases ih with h1 | h1
      · rcases hz : t[n]? with _ | z
        · left; intro m u hm hu
          have := (List.getElem?_eq_some_iff.1 hu).1
          have := List.getElem?_eq_none_iff.1 hz
          exact h1 m u (by omega) hu
        · by_cases e : z.path = p
          · exact .inr ⟨n, z, hz, e, fun k u hk hu => h1 k u hk hu⟩
          · left; intro m u hm hu
            rcases Nat.lt_or_ge m n with g | g
            · exact h1 m u g hu
            · obtain rfl : m = n := by omega
              rw [hz] at hu; obtain rfl := Option.some.inj hu; exact e
      · exact .inr h1
  rcases key (j + 1) with h1 | ⟨m, z, hz, hp, hk⟩
  · exact h1 j y (by omega) hy e
  · rw [find_at t p m z hz hp hk] at h; cases h
def findE (t : List It) (p : B) : Nat × Int := match find t p with | some i => (i, 0) | none => (0, 4)
/-- in a tree the first item of a path is the only one -/
theorem has_find {t : List It} (h : Srt t) {p : B} {i : Nat} {x : It} {k : Nat} (hf : find t p = some i) (hx : t[i]? = some x) : hasB t p k = decide (x.kind = k) := by
  obtain ⟨y, h1, h2, h3⟩ := find_some t p i hf
  rw [hx] at h1; obtain rfl := Option.some.inj h1
  by_cases hk : x.kind = k
  · rw [decide_eq_true hk]; exact hasB_yes hx h2 hk
  · rw [decide_eq_false hk]
    refine hasB_no fun j z hz hp => ?_
    obtain rfl : j = i := srt_unique h hz hx (hp.trans h2.symm)
    rw [hx] at hz; obtain rfl := Option.some.inj hz; exact hk
theorem has_none {t : List It} {p : B} {k : Nat} (hf : find t p = none) : hasB t p k = false := hasB_no fun j z hz hp => absurd hp (find_no hf j z hz)
theorem take_snoc {α : Type} {t : List α} {i : Nat} {x : α} (h : t[i]? = some x) : t.take (i + 1) = t.take i ++ [x] := by
  rw [List.take_add_one, h]; rfl
theorem hasB_snoc (t : List It) (x : It) (p : B) (k : Nat) : hasB (t ++ [x]) p k = (hasB t p k || (decide (x.path = p) && decide (x.kind = k))) := by
  unfold hasB; rw [List.any_append]; simp
theorem behind_take {t : List It} {i : Nat} {x y : It} (h : t[i]? = some y) : behind (t.take (i + 1)) x = decide (Nm.cmp y.path x.path = -1) := by
  unfold behind
  rw [take_snoc h, List.getLast?_append]
  simp
end Tr
end Go.Proofs.YtldkhbkgmiicbabGreatDoor
