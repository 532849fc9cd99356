/- Texts of mine, put together. -/
import Derived.Test.YtldkhbkgmiicbaaGreatDoorBu14

/- Records: a pair's record, what bytes begin with, there and back (code-free). -/
namespace Go.Proofs.YtldkhbkgmiicbaaGreatDoor
open Go.RowKit Go.Deep
set_option linter.unusedVariables false
set_option linter.unusedSimpArgs false

namespace Px
/-- a key: 1 to 32 bytes, none of them 0, 10 or 61 -/
def keyF (k : B) : Bool := k.all (fun c => c != 0 && c != 10 && c != 61) && decide (1 ≤ k.length) && decide (k.length ≤ 32)
/-- what is wrong with a pair -/
def fits (p : Pr) : Nat := if keyF p.1 = false then 91 else if p.2.length > 1024 then 2 else 0
def psize (p : Pr) : Nat := size (3 + p.1.length + p.2.length)
/-- a pair's record -/
def rcd (p : Pr) : B := dec (psize p) ++ (32 :: (p.1 ++ (61 :: (p.2 ++ [10]))))
theorem rcd_len (p : Pr) : (rcd p).length = psize p := by
  have h := size_says (3 + p.1.length + p.2.length)
  have e : psize p = size (3 + p.1.length + p.2.length) := rfl
  unfold rcd
  simp only [List.length_append, List.length_cons, List.length_nil, dec_len]
  rw [e]
  omega
/-- the number that bytes begin with, and how many digits it has -/
def longF (b : B) : Nat × Nat :=
  if (b.takeWhile isD).length = 0 ∨ 4 < (b.takeWhile isD).length ∨ (b.takeWhile isD).head? = some 48 ∨ b[(b.takeWhile isD).length]? ≠ some 32 then (0, 0)
  else (val (b.takeWhile isD), (b.takeWhile isD).length)
/-- the record that bytes begin with, its length, what is wrong -/
def oneF (b : B) : Pr × Nat × Nat :=
  let n := (longF b).1
  let d := (longF b).2
  if d = 0 ∨ b.length < n ∨ b[n - 1]? ≠ some 10 then (([], []), 0, 90)
  else
    let body := (b.take (n - 1)).drop (d + 1)
    let k := body.takeWhile (fun c => c != 61)
    if k.length = body.length then (([], []), 0, 90)
    else
      let p : Pr := (k, body.drop (k.length + 1))
      if fits p ≠ 0 then (([], []), 0, fits p)
      else if psize p ≠ n then (([], []), 0, 90)
      else (p, n, 0)
theorem takeWhile_stop {α : Type} (f : α → Bool) : ∀ (s : List α) (c : α) (t : List α), (∀ x ∈ s, f x = true) → f c = false → (s ++ c :: t).takeWhile f = s
  | [], c, t, _, hc => by simp [List.takeWhile, hc]
  | a :: s, c, t, h, hc => by
    rw [List.cons_append, List.takeWhile_cons, if_pos (h a List.mem_cons_self), takeWhile_stop f s c t (fun x hx => h x (List.mem_cons_of_mem _ hx)) hc]
theorem takeWhile_all {α : Type} (f : α → Bool) (s : List α) : ∀ x ∈ s.takeWhile f, f x = true := by
  induction s with
  | nil => intro x hx; cases hx
  | cons a s ih =>
    intro x hx
    rw [List.takeWhile_cons] at hx
    split at hx
    · rcases List.mem_cons.1 hx with rfl | hx
      · assumption
      · exact ih x hx
    · cases hx
theorem takeWhile_whole {α : Type} (f : α → Bool) : ∀ (s : List α), (∀ x ∈ s, f x = true) → s.takeWhile f = s
  | [], _ => rfl
  | a :: s, h => by rw [List.takeWhile_cons, if_pos (h a List.mem_cons_self), takeWhile_whole f s fun x hx => h x (List.mem_cons_of_mem _ hx)]
theorem takeWhile_front {α : Type} (f : α → Bool) (s : List α) : s.takeWhile f = s.take (s.takeWhile f).length := List.prefix_iff_eq_take.1 (List.takeWhile_prefix f)
theorem takeWhile_next {α : Type} (f : α → Bool) : ∀ (s : List α), (s.takeWhile f).length < s.length → ∃ c t, s = s.takeWhile f ++ c :: t ∧ f c = false
  | [], h => by simp at h
  | a :: s, h => by
    rw [List.takeWhile_cons] at h ⊢
    cases hf : f a with
    | false => exact ⟨a, s, by simp, hf⟩
    | true =>
      rw [hf, if_pos rfl] at h
      obtain ⟨c, t, e, hc⟩ := takeWhile_next f s (by simpa using h)
      refine ⟨c, t, ?_, hc⟩
      rw [if_pos rfl, List.cons_append, ← e]
theorem fits_ok {p : Pr} (h : fits p = 0) : keyF p.1 = true ∧ p.2.length ≤ 1024 := by
  unfold fits at h
  split at h
  · cases h
  · split at h
    · cases h
    · rename_i h1 h2; exact ⟨by simpa using h1, by omega⟩
theorem key_ok {k : B} (h : keyF k = true) : (∀ c ∈ k, (c != 61) = true) ∧ 1 ≤ k.length ∧ k.length ≤ 32 := by
  unfold keyF at h
  simp only [Bool.and_eq_true, decide_eq_true_eq, List.all_eq_true] at h
  exact ⟨fun c hc => (h.1.1 c hc).2, h.1.2, h.2⟩
theorem psize_le {p : Pr} (h : fits p = 0) : psize p ≤ 1064 := by
  obtain ⟨h1, h2⟩ := fits_ok h
  obtain ⟨_, h3, h4⟩ := key_ok h1
  have e : psize p = size (3 + p.1.length + p.2.length) := rfl
  have hd := dl_mono 1059 (3 + p.1.length + p.2.length) (by omega)
  have h5 : dl 1059 = 4 := by decide +kernel
  rw [e]; unfold size
  split <;> omega
theorem psize_dl {p : Pr} (h : fits p = 0) : dl (psize p) ≤ 4 := by
  have := dl_mono 1064 (psize p) (psize_le h)
  have h5 : dl 1064 = 4 := by decide +kernel
  omega
theorem psize_pos (p : Pr) : 4 ≤ psize p := by have := size_ge (3 + p.1.length + p.2.length); show 4 ≤ size _; omega
theorem long_rcd (p : Pr) (h : fits p = 0) (rest : B) : longF (rcd p ++ rest) = (psize p, dl (psize p)) := by
  have hr : rcd p ++ rest = dec (psize p) ++ 32 :: ((p.1 ++ (61 :: (p.2 ++ [10]))) ++ rest) := by unfold rcd; rw [List.append_assoc]; rfl
  have ht : (rcd p ++ rest).takeWhile isD = dec (psize p) := by rw [hr]; exact takeWhile_stop isD _ _ _ (dec_dig _) (by decide)
  unfold longF
  rw [ht, if_neg, val_dec, dec_len]
  rintro (h1 | h1 | h1 | h1)
  · rw [dec_len] at h1; have := dl_pos (psize p); omega
  · rw [dec_len] at h1; have := psize_dl h; omega
  · exact dec_head _ (by have := psize_pos p; omega) h1
  · refine h1 ?_
    rw [hr, List.getElem?_append_right (Nat.le_refl _), Nat.sub_self]
    rfl
/-- what was put is got -/
theorem one_rcd (p : Pr) (h : fits p = 0) (rest : B) : oneF (rcd p ++ rest) = (p, psize p, 0) := by
  have hl := rcd_len p
  have hp := psize_pos p
  obtain ⟨hk, hv⟩ := fits_ok h
  obtain ⟨k1, k2, k3⟩ := key_ok hk
  have hsays : psize p = 3 + p.1.length + p.2.length + dl (psize p) := size_says _
  have hrcd : rcd p = (dec (psize p) ++ 32 :: (p.1 ++ (61 :: p.2))) ++ [10] := by unfold rcd; simp
  have hlast : (rcd p ++ rest)[psize p - 1]? = some 10 := by
    rw [List.getElem?_append_left (by omega), hrcd, List.getElem?_append_right (by simp [dec_len]; omega)]
    have : psize p - 1 - (dec (psize p) ++ 32 :: (p.1 ++ (61 :: p.2))).length = 0 := by simp [dec_len]; omega
    rw [this]; rfl
  have hbody : ((rcd p ++ rest).take (psize p - 1)).drop (dl (psize p) + 1) = p.1 ++ (61 :: p.2) := by
    rw [List.take_append_of_le_length (by omega), hrcd, List.take_append_of_le_length (by simp [dec_len]; omega)]
    rw [List.take_of_length_le (by simp [dec_len]; omega)]
    have e : dec (psize p) ++ 32 :: (p.1 ++ (61 :: p.2)) = (dec (psize p) ++ [32]) ++ (p.1 ++ (61 :: p.2)) := by simp
    rw [e, List.drop_append_of_le_length (by simp [dec_len]), List.drop_of_length_le (by simp [dec_len]), List.nil_append]
  have htk : (p.1 ++ (61 :: p.2)).takeWhile (fun c => c != 61) = p.1 := takeWhile_stop _ _ _ _ k1 (by decide)
  have hdr : (p.1 ++ (61 :: p.2)).drop (p.1.length + 1) = p.2 := by simp
  unfold oneF
  simp only [long_rcd p h rest]
  rw [if_neg (by rintro (h1 | h1 | h1)
                 · have := dl_pos (psize p); omega
                 · rw [List.length_append] at h1; omega
                 · exact h1 hlast), hbody, htk, if_neg (by simp), hdr, if_neg (by intro e; exact e h), if_neg (by intro e; exact e rfl)]
/-- what is got of any bytes is just these bytes -/
theorem one_ok {b : B} {p : Pr} {n : Nat} (h : oneF b = (p, n, 0)) : fits p = 0 ∧ n = psize p ∧ b.take n = rcd p ∧ n ≤ b.length := by
  obtain ⟨s, hs⟩ : ∃ s, s = b.takeWhile isD := ⟨_, rfl⟩
  have hlong : longF b = if s.length = 0 ∨ 4 < s.length ∨ s.head? = some 48 ∨ b[s.length]? ≠ some 32 then (0, 0) else (val s, s.length) := by rw [hs]; rfl
  unfold oneF at h
  dsimp only at h
  split at h
  · cases h
  rename_i h1
  split at h
  · cases h
  rename_i h2
  split at h
  · rename_i h3
    injection h with _ h
    injection h with _ h
    exact absurd h h3
  rename_i h3
  split at h
  · cases h
  rename_i h4
  injection h with e1 h
  injection h with e2 _
  have hd : (longF b).2 ≠ 0 := fun e => h1 (.inl e)
  have hn : ¬ b.length < (longF b).1 := fun e => h1 (.inr (.inl e))
  have hten : b[(longF b).1 - 1]? = some 10 := Decidable.not_not.1 fun e => h1 (.inr (.inr e))
  by_cases hc : s.length = 0 ∨ 4 < s.length ∨ s.head? = some 48 ∨ b[s.length]? ≠ some 32
  · rw [hlong, if_pos hc] at hd; exact absurd rfl hd
  rw [hlong, if_neg hc] at h2 h3 h4 e1 e2 hd hn hten
  dsimp only at h2 h3 h4 e1 e2 hd hn hten
  have c1 : s.length ≠ 0 := fun e => hc (.inl e)
  have c3 : s.head? ≠ some 48 := fun e => hc (.inr (.inr (.inl e)))
  have c4 : b[s.length]? = some 32 := Decidable.not_not.1 fun e => hc (.inr (.inr (.inr e)))
  have hsd : ∀ c ∈ s, isD c = true := by rw [hs]; exact takeWhile_all isD b
  have hdec : dec (val s) = s := dec_val (s.length - 1) s (by omega) hsd c3
  have hst : s = b.take s.length := by rw [hs]; exact takeWhile_front isD b
  rw [e2] at h2 h3 h4 e1 hn hten hdec
  obtain ⟨body, hbody⟩ : ∃ body, body = (b.take (n - 1)).drop (s.length + 1) := ⟨_, rfl⟩
  rw [← hbody] at h2 h3 h4 e1
  have hlt : (body.takeWhile fun c => c != 61).length < body.length := by
    have := (List.takeWhile_prefix (p := fun c => c != 61) (l := body)).length_le
    omega
  obtain ⟨c, t, hb, hcf⟩ := takeWhile_next (fun c => c != 61) body hlt
  obtain rfl : c = 61 := by simpa using hcf
  obtain ⟨k, hk⟩ : ∃ k, k = body.takeWhile fun c => c != 61 := ⟨_, rfl⟩
  rw [← hk] at h2 h3 h4 e1 hb
  have hdrop : body.drop (k.length + 1) = t := by rw [hb]; simp
  rw [hdrop] at h3 h4 e1
  have hp1 : p.1 = k := by rw [← e1]
  have hp2 : p.2 = t := by rw [← e1]
  rw [e1] at h3 h4
  have hf : fits p = 0 := Decidable.not_not.1 h3
  have hps : psize p = n := Decidable.not_not.1 h4
  refine ⟨hf, hps.symm, ?_, by omega⟩
  have hn4 := psize_pos p
  have hbl : body.length ≠ 0 := by rw [hb]; simp
  have hbl2 : body.length = min (n - 1) b.length - (s.length + 1) := by rw [hbody, List.length_drop, List.length_take]
  have hsn : s.length + 1 ≤ n - 1 := by omega
  have t1 : b.take n = b.take (n - 1) ++ [10] := by
    obtain ⟨hi, hg⟩ := List.getElem?_eq_some_iff.1 hten
    have := List.take_append_getElem hi
    rw [hg] at this
    rw [this]
    congr 1
    omega
  have t2 : b.take (s.length + 1) = s ++ [32] := by
    obtain ⟨hi, hg⟩ := List.getElem?_eq_some_iff.1 c4
    have := List.take_append_getElem hi
    rw [hg, ← hst] at this
    exact this.symm
  have t3 : b.take (n - 1) = (s ++ [32]) ++ body := by
    rw [← t2, hbody]
    have := List.take_append_drop (s.length + 1) (b.take (n - 1))
    rw [List.take_take, Nat.min_eq_left hsn] at this
    exact this.symm
  rw [t1, t3, hb]
  unfold rcd
  rw [hps, hdec, hp1, hp2]
  simp
/-- a record that is cut off is none -/
theorem one_cut (p : Pr) (h : fits p = 0) (cut : Nat) (h1 : 1 ≤ cut) (h2 : cut < psize p) : oneF ((rcd p).take cut) = (([], []), 0, 90) := by
  have hl := rcd_len p
  have hcut : ((rcd p).take cut).length = cut := by rw [List.length_take]; omega
  have hr : rcd p = dec (psize p) ++ 32 :: (p.1 ++ (61 :: (p.2 ++ [10]))) := rfl
  by_cases hd : cut ≤ dl (psize p)
  · have ht : (rcd p).take cut = (dec (psize p)).take cut := by rw [hr, List.take_append_of_le_length (by rw [dec_len]; exact hd)]
    have hall : ∀ x ∈ (rcd p).take cut, isD x = true := fun x hx => by rw [ht] at hx; exact dec_dig _ x (List.mem_of_mem_take hx)
    have htw : ((rcd p).take cut).takeWhile isD = (rcd p).take cut := takeWhile_whole isD _ hall
    have hlong : longF ((rcd p).take cut) = (0, 0) := by
      unfold longF
      rw [htw, hcut, if_pos]
      exact .inr (.inr (.inr (by rw [List.getElem?_eq_none (by omega)]; simp)))
    unfold oneF
    simp only [hlong]
    rw [if_pos (.inl trivial)]
  · have ht : (rcd p).take cut = dec (psize p) ++ 32 :: (p.1 ++ (61 :: (p.2 ++ [10]))).take (cut - dl (psize p) - 1) := by
      rw [hr, List.take_append, List.take_of_length_le (by rw [dec_len]; omega), dec_len]
      congr 1
      obtain ⟨m, hm⟩ : ∃ m, cut - dl (psize p) = m + 1 := ⟨cut - dl (psize p) - 1, by omega⟩
      rw [hm, List.take_succ_cons]; rfl
    have htw : ((rcd p).take cut).takeWhile isD = dec (psize p) := by rw [ht]; exact takeWhile_stop isD _ _ _ (dec_dig _) (by decide)
    have hlong : longF ((rcd p).take cut) = (psize p, dl (psize p)) := by
      unfold longF
      rw [htw, if_neg, val_dec, dec_len]
      rintro (h1 | h1 | h1 | h1)
      · rw [dec_len] at h1; have := dl_pos (psize p); omega
      · rw [dec_len] at h1; have := psize_dl h; omega
      · exact dec_head _ (by have := psize_pos p; omega) h1
      · refine h1 ?_
        rw [ht, List.getElem?_append_right (Nat.le_refl _), Nat.sub_self]
        rfl
    unfold oneF
    simp only [hlong]
    rw [if_pos (.inr (.inl (by omega)))]
end Px
end Go.Proofs.YtldkhbkgmiicbaaGreatDoor

/- Lists of records: put and got, there and back (code-free). -/
namespace Go.Proofs.YtldkhbkgmiicbaaGreatDoor
open Go.RowKit Go.Deep
set_option linter.unusedVariables false
set_option linter.unusedSimpArgs false

namespace Px
/-- does a key stand behind the one ahead? -/
def behind : Option B → B → Bool
  | none, _ => true
  | some q, k => Nm.less q k
/-- what is wrong with a list, and where -/
def putE : Option B → List Pr → Nat → Nat × Nat
  | _, [], _ => (0, 0)
  | o, p :: l, i => if fits p ≠ 0 then (i, fits p) else if behind o p.1 = false then (i, 92) else putE (some p.1) l (i + 1)
/-- the records of a list -/
def all9 : List Pr → B
  | [] => []
  | p :: l => rcd p ++ all9 l
theorem all9_append : ∀ (a b : List Pr), all9 (a ++ b) = all9 a ++ all9 b
  | [], b => rfl
  | p :: a, b => by rw [List.cons_append, all9, all9, all9_append a b, List.append_assoc]
/-- Put's answer -/
def putF (l : List Pr) : B × Nat × Nat := if 64 < l.length then ([], 64, 3) else if (putE none l 0).2 ≠ 0 then ([], putE none l 0) else (all9 l, 0, 0)
/-- Get's answer, from a place on, so many pairs behind -/
def getF (b : B) (i : Nat) (out : List Pr) : List Pr × Nat × Nat :=
  if hb : b = [] then (out, 0, 0)
  else if out.length = 64 then ([], i, 3)
  else if (oneF b).2.2 ≠ 0 then ([], i, (oneF b).2.2)
  else if behind (out.getLast?.map (·.1)) (oneF b).1.1 = false then ([], i, 92)
  else if (oneF b).2.1 = 0 then ([], i, 90)
  else getF (b.drop (oneF b).2.1) (i + (oneF b).2.1) (out ++ [(oneF b).1])
termination_by b.length
decreasing_by
  rw [List.length_drop]
  have := List.length_pos_iff.2 hb
  omega
theorem fits_vals (p : Pr) : fits p = 0 ∨ fits p = 91 ∨ fits p = 2 := by
  unfold fits
  split
  · exact .inr (.inl rfl)
  · split
    · exact .inr (.inr rfl)
    · exact .inl rfl
theorem putE_ok : ∀ (l : List Pr) (o : Option B) (i : Nat), (putE o l i).2 = 0 ↔ ((∀ p ∈ l, fits p = 0) ∧ Srt l ∧ ∀ p ∈ l, behind o p.1 = true)
  | [], o, i => by simp [putE, Srt]
  | p :: l, o, i => by
    unfold putE
    by_cases h1 : fits p = 0
    · rw [if_neg (by simp [h1])]
      cases h2 : behind o p.1 with
      | false =>
        rw [if_pos rfl]
        constructor
        · intro h; cases h
        · rintro ⟨_, _, h⟩; rw [h p List.mem_cons_self] at h2; cases h2
      | true =>
        rw [if_neg (by simp), putE_ok l (some p.1) (i + 1)]
        constructor
        · rintro ⟨a, b, c⟩
          refine ⟨fun x hx => ?_, List.pairwise_cons.2 ⟨c, b⟩, fun x hx => ?_⟩
          · rcases List.mem_cons.1 hx with rfl | hx
            · exact h1
            · exact a x hx
          · rcases List.mem_cons.1 hx with rfl | hx
            · exact h2
            · have := c x hx
              cases o with
              | none => rfl
              | some q => exact Nm.less_trans _ _ _ h2 this
        · rintro ⟨a, b, c⟩
          exact ⟨fun x hx => a x (List.mem_cons_of_mem _ hx), b.tail, (List.pairwise_cons.1 b).1⟩
    · rw [if_pos h1]
      constructor
      · intro h; exact absurd h h1
      · rintro ⟨h, _⟩; exact absurd (h p List.mem_cons_self) h1
theorem put_ok (l : List Pr) : (putF l).2.2 = 0 ↔ (l.length ≤ 64 ∧ (∀ p ∈ l, fits p = 0) ∧ Srt l) := by
  have h := putE_ok l none 0
  unfold putF
  by_cases h1 : 64 < l.length
  · rw [if_pos h1]
    constructor
    · intro h; cases h
    · rintro ⟨h2, _⟩; omega
  · rw [if_neg h1]
    by_cases h2 : (putE none l 0).2 = 0
    · rw [if_neg (by simp [h2])]
      have := h.1 h2
      exact ⟨fun _ => ⟨by omega, this.1, this.2.1⟩, fun _ => rfl⟩
    · rw [if_pos h2]
      constructor
      · intro e; exact absurd e h2
      · rintro ⟨_, a, b⟩; exact absurd (h.2 ⟨a, b, fun _ _ => rfl⟩) h2
theorem put_all {l : List Pr} (h : l.length ≤ 64 ∧ (∀ p ∈ l, fits p = 0) ∧ Srt l) : putF l = (all9 l, 0, 0) := by
  have h2 := (putE_ok l none 0).2 ⟨h.2.1, h.2.2, fun _ _ => rfl⟩
  unfold putF
  rw [if_neg (by omega), if_neg (by simp [h2])]
theorem srt_snoc {out : List Pr} {p : Pr} (h : Srt out) (hb : behind (out.getLast?.map (·.1)) p.1 = true) : Srt (out ++ [p]) := by
  unfold Srt at h ⊢
  rw [List.pairwise_append]
  refine ⟨h, List.pairwise_singleton _ _, fun a ha b hb' => ?_⟩
  obtain rfl := List.mem_singleton.1 hb'
  have hne : out ≠ [] := fun e => by rw [e] at ha; cases ha
  have e := List.dropLast_concat_getLast hne
  rw [List.getLast?_eq_some_getLast hne] at hb
  have hb2 : Nm.less (out.getLast hne).1 b.1 = true := hb
  rw [← e] at ha h
  rcases List.mem_append.1 ha with ha | ha
  · exact Nm.less_trans _ _ _ ((List.pairwise_append.1 h).2.2 a ha _ List.mem_cons_self) hb2
  · obtain rfl := List.mem_singleton.1 ha; exact hb2
theorem behind_of_srt {out l : List Pr} {p : Pr} (h : Srt (out ++ p :: l)) : behind (out.getLast?.map (·.1)) p.1 = true := by
  cases ho : out.getLast? with
  | none => rfl
  | some q =>
    have hq : q ∈ out := List.mem_of_getLast? ho
    exact (List.pairwise_append.1 h).2.2 q hq p List.mem_cons_self
/-- what was put is got -/
theorem get_put : ∀ (l out : List Pr) (i : Nat), (out ++ l).length ≤ 64 → (∀ p ∈ l, fits p = 0) → Srt (out ++ l) → getF (all9 l) i out = (out ++ l, 0, 0)
  | [], out, i, _, _, _ => by rw [all9, getF, dif_pos rfl, List.append_nil]
  | p :: l, out, i, hl, hf, hs => by
    have h1 := one_rcd p (hf p List.mem_cons_self) (all9 l)
    have hn := psize_pos p
    have hne : rcd p ++ all9 l ≠ [] := fun e => by
      have := congrArg List.length e
      rw [List.length_append, rcd_len] at this
      simp at this; omega
    rw [all9, getF, dif_neg hne]
    simp only [h1]
    rw [if_neg (by simp at hl; omega), if_neg (by simp), if_neg (by rw [behind_of_srt hs]; simp), if_neg (by omega), ← rcd_len p, List.drop_left]
    rw [get_put l (out ++ [p]) _ (by simpa using hl) (fun x hx => hf x (List.mem_cons_of_mem _ hx)) (by simpa using hs)]
    simp
/-- what is got of any bytes, put, is just these bytes -/
theorem get_ok : ∀ (n : Nat) (b : B) (i : Nat) (out m : List Pr), b.length ≤ n → out.length ≤ 64 → (∀ p ∈ out, fits p = 0) → Srt out → getF b i out = (m, 0, 0) →
    m.length ≤ 64 ∧ (∀ p ∈ m, fits p = 0) ∧ Srt m ∧ all9 m = all9 out ++ b := by
  intro n
  induction n with
  | zero =>
    intro b i out m hn ho hf hs h
    obtain rfl := List.eq_nil_of_length_eq_zero (Nat.le_zero.1 hn)
    rw [getF, dif_pos rfl] at h
    injection h with h _
    subst h
    exact ⟨ho, hf, hs, by rw [List.append_nil]⟩
  | succ n ih =>
    intro b i out m hn ho hf hs h
    rw [getF] at h
    split at h
    · rename_i hb
      subst hb
      injection h with h _
      subst h
      exact ⟨ho, hf, hs, by rw [List.append_nil]⟩
    · rename_i hb
      split at h
      · cases h
      rename_i h64
      split at h
      · rename_i h1
        injection h with _ h
        injection h with _ h
        exact absurd h h1
      rename_i h1
      split at h
      · cases h
      rename_i h2
      split at h
      · cases h
      rename_i h3
      have h0 : (oneF b).2.2 = 0 := Decidable.not_not.1 h1
      have e : oneF b = ((oneF b).1, (oneF b).2.1, 0) := Prod.ext rfl (Prod.ext rfl h0)
      obtain ⟨a1, a2, a3, a4⟩ := one_ok e
      obtain ⟨b1, b2, b3, b4⟩ := ih _ _ _ m (by rw [List.length_drop]; omega) (by simp; omega) (fun p hp => by
        rcases List.mem_append.1 hp with hp | hp
        · exact hf p hp
        · obtain rfl := List.mem_singleton.1 hp; exact a1) (srt_snoc hs (by simpa using h2)) h
      refine ⟨b1, b2, b3, ?_⟩
      rw [b4, all9_append, List.append_assoc]
      congr 1
      show (rcd _ ++ []) ++ _ = b
      rw [List.append_nil, ← a3, List.take_append_drop]
theorem get_bad {b : B} {i : Nat} {out : List Pr} (h : (getF b i out).2.2 ≠ 0) : (getF b i out).1 = [] ∧ i ≤ (getF b i out).2.1 ∧ (getF b i out).2.1 ≤ i + b.length := by
  have : ∀ (n : Nat) (b : B) (i : Nat) (out : List Pr), b.length ≤ n → (getF b i out).2.2 ≠ 0 → (getF b i out).1 = [] ∧ i ≤ (getF b i out).2.1 ∧ (getF b i out).2.1 ≤ i + b.length := by
    intro n
    induction n with
    | zero =>
      intro b i out hn h
      obtain rfl := List.eq_nil_of_length_eq_zero (Nat.le_zero.1 hn)
      rw [getF, dif_pos rfl] at h
      exact absurd rfl h
    | succ n ih =>
      intro b i out hn h
      rw [getF] at h ⊢
      split at h
      · exact absurd rfl h
      rename_i hb
      rw [dif_neg hb]
      by_cases h64 : out.length = 64
      · rw [if_pos h64]; exact ⟨rfl, Nat.le_refl _, Nat.le_add_right _ _⟩
      rw [if_neg h64] at h ⊢
      by_cases h1 : (oneF b).2.2 ≠ 0
      · rw [if_pos h1]; exact ⟨rfl, Nat.le_refl _, Nat.le_add_right _ _⟩
      rw [if_neg h1] at h ⊢
      by_cases h2 : behind (out.getLast?.map (·.1)) (oneF b).1.1 = false
      · rw [if_pos h2]; exact ⟨rfl, Nat.le_refl _, Nat.le_add_right _ _⟩
      rw [if_neg h2] at h ⊢
      by_cases h3 : (oneF b).2.1 = 0
      · rw [if_pos h3]; exact ⟨rfl, Nat.le_refl _, Nat.le_add_right _ _⟩
      rw [if_neg h3] at h ⊢
      have h0 : (oneF b).2.2 = 0 := Decidable.not_not.1 h1
      have e : oneF b = ((oneF b).1, (oneF b).2.1, 0) := Prod.ext rfl (Prod.ext rfl h0)
      obtain ⟨_, _, _, a4⟩ := one_ok e
      have hd : (b.drop (oneF b).2.1).length = b.length - (oneF b).2.1 := List.length_drop
      obtain ⟨c1, c2, c3⟩ := ih _ _ _ (by omega) h
      exact ⟨c1, by omega, by omega⟩
  exact this _ b i out (Nat.le_refl _) h
theorem get_cut (p : Pr) (h : fits p = 0) (cut : Nat) (h1 : 1 ≤ cut) (h2 : cut < psize p) : getF ((rcd p).take cut) 0 [] = ([], 0, 90) := by
  have hne : (rcd p).take cut ≠ [] := fun e => by
    have := congrArg List.length e
    rw [List.length_take, rcd_len] at this
    simp at this; omega
  rw [getF, dif_neg hne]
  simp only [one_cut p h cut h1 h2]
  rw [if_neg (by simp), if_pos (by simp)]
end Px
end Go.Proofs.YtldkhbkgmiicbaaGreatDoor
