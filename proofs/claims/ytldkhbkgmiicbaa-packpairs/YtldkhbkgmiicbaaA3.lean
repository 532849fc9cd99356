/- Records: a pair's record, what bytes begin with, there and back (code-free). -/
import Derived.Test.YtldkhbkgmiicbaaA2
namespace Go.Proofs.Ytldkhbkgmiicbaa
open Go.RowKit Go.Deep
set_option linter.unusedVariables false
set_option linter.unusedSimpArgs false

namespace Px
/-- a key: 1 to 32 bytes, none of them 0, 10 or 61 -/
def keyF (k : B) : Bool := k.all (fun c => c != 0 && c != 10 && c != 61) && decide (1 ≤ k.length) && decide (k.length ≤ 32)
/-- what is wrong with a pair -/
def fits (p : Pr) : Nat := if keyF p.1 = false then 91 else if p.2.length > 1024 then 2 else 0
def psize (p : Pr) : Nat := size (3 + p.1.length + p.2.length)
/-- a pair's record -/
def rcd (p : Pr) : B := dec (psize p) ++ (32 :: (p.1 ++ (61 :: (p.2 ++ [10]))))
theorem rcd_len (p : Pr) : (rcd p).length = psize p := by
  have h := size_says (3 + p.1.length + p.2.length)
  have e : psize p = size (3 + p.1.length + p.2.length) := rfl
  unfold rcd
  simp only [List.length_append, List.length_cons, List.length_nil, dec_len]
  rw [e]
  omega
/-- the number that bytes begin with, and how many digits it has -/
def longF (b : B) : Nat × Nat :=
  if (b.takeWhile isD).length = 0 ∨ 4 < (b.takeWhile isD).length ∨ (b.takeWhile isD).head? = some 48 ∨ b[(b.takeWhile isD).length]? ≠ some 32 then (0, 0)
  else (val (b.takeWhile isD), (b.takeWhile isD).length)
/-- the record that bytes begin with, its length, what is wrong -/
def oneF (b : B) : Pr × Nat × Nat :=
  let n := (longF b).1
  let d := (longF b).2
  if d = 0 ∨ b.length < n ∨ b[n - 1]? ≠ some 10 then (([], []), 0, 90)
  else
    let body := (b.take (n - 1)).drop (d + 1)
    let k := body.takeWhile (fun c => c != 61)
    if k.length = body.length then (([], []), 0, 90)
    else
      let p : Pr := (k, body.drop (k.length + 1))
      if fits p ≠ 0 then (([], []), 0, fits p)
      else if psize p ≠ n then (([], []), 0, 90)
      else (p, n, 0)
theorem takeWhile_stop {α : Type} (f : α → Bool) : ∀ (s : List α) (c : α) (t : List α), (∀ x ∈ s, f x = true) → f c = false → (s ++ c :: t).takeWhile f = s
  | [], c, t, _, hc => by simp [List.takeWhile, hc]
  | a :: s, c, t, h, hc => by
    rw [List.cons_append, List.takeWhile_cons, if_pos (h a List.mem_cons_self), takeWhile_stop f s c t (fun x hx => h x (List.mem_cons_of_mem _ hx)) hc]
theorem takeWhile_all {α : Type} (f : α → Bool) (s : List α) : ∀ x ∈ s.takeWhile f, f x = true := by
  induction s with
  | nil => intro x hx; cases hx
  | cons a s ih =>
    intro x hx
    rw [List.takeWhile_cons] at hx
    split at hx
    · rcases List.mem_cons.1 hx with rfl | hx
      · assumption
      · exact ih x hx
    · cases hx
theorem takeWhile_whole {α : Type} (f : α → Bool) : ∀ (s : List α), (∀ x ∈ s, f x = true) → s.takeWhile f = s
  | [], _ => rfl
  | a :: s, h => by rw [List.takeWhile_cons, if_pos (h a List.mem_cons_self), takeWhile_whole f s fun x hx => h x (List.mem_cons_of_mem _ hx)]
theorem takeWhile_front {α : Type} (f : α → Bool) (s : List α) : s.takeWhile f = s.take (s.takeWhile f).length := List.prefix_iff_eq_take.1 (List.takeWhile_prefix f)
theorem takeWhile_next {α : Type} (f : α → Bool) : ∀ (s : List α), (s.takeWhile f).length < s.length → ∃ c t, s = s.takeWhile f ++ c :: t ∧ f c = false
  | [], h => by simp at h
  | a :: s, h => by
    rw [List.takeWhile_cons] at h ⊢
    cases hf : f a with
    | false => exact ⟨a, s, by simp, hf⟩
    | true =>
      rw [hf, if_pos rfl] at h
      obtain ⟨c, t, e, hc⟩ := takeWhile_next f s (by simpa using h)
      refine ⟨c, t, ?_, hc⟩
      rw [if_pos rfl, List.cons_append, ← e]
theorem fits_ok {p : Pr} (h : fits p = 0) : keyF p.1 = true ∧ p.2.length ≤ 1024 := by
  unfold fits at h
  split at h
  · cases h
  · split at h
    · cases h
    · rename_i h1 h2; exact ⟨by simpa using h1, by omega⟩
theorem key_ok {k : B} (h : keyF k = true) : (∀ c ∈ k, (c != 61) = true) ∧ 1 ≤ k.length ∧ k.length ≤ 32 := by
  unfold keyF at h
  simp only [Bool.and_eq_true, decide_eq_true_eq, List.all_eq_true] at h
  exact ⟨fun c hc => (h.1.1 c hc).2, h.1.2, h.2⟩
theorem psize_le {p : Pr} (h : fits p = 0) : psize p ≤ 1064 := by
  obtain ⟨h1, h2⟩ := fits_ok h
  obtain ⟨_, h3, h4⟩ := key_ok h1
  have e : psize p = size (3 + p.1.length + p.2.length) := rfl
  have hd := dl_mono 1059 (3 + p.1.length + p.2.length) (by omega)
  have h5 : dl 1059 = 4 := by decide +kernel
  rw [e]; unfold size
  split <;> omega
theorem psize_dl {p : Pr} (h : fits p = 0) : dl (psize p) ≤ 4 := by
  have := dl_mono 1064 (psize p) (psize_le h)
  have h5 : dl 1064 = 4 := by decide +kernel
  omega
theorem psize_pos (p : Pr) : 4 ≤ psize p := by have := size_ge (3 + p.1.length + p.2.length); show 4 ≤ size _; omega
theorem long_rcd (p : Pr) (h : fits p = 0) (rest : B) : longF (rcd p ++ rest) = (psize p, dl (psize p)) := by
  have hr : rcd p ++ rest = dec (psize p) ++ 32 :: ((p.1 ++ (61 :: (p.2 ++ [10]))) ++ rest) := by unfold rcd; rw [List.append_assoc]; rfl
  have ht : (rcd p ++ rest).takeWhile isD = dec (psize p) := by rw [hr]; exact takeWhile_stop isD _ _ _ (dec_dig _) (by decide)
  unfold longF
  rw [ht, if_neg, val_dec, dec_len]
  rintro (h1 | h1 | h1 | h1)
  · rw [dec_len] at h1; have := dl_pos (psize p); omega
  · rw [dec_len] at h1; have := psize_dl h; omega
  · exact dec_head _ (by have := psize_pos p; omega) h1
  · refine h1 ?_
    rw [hr, List.getElem?_append_right (Nat.le_refl _), Nat.sub_self]
    rfl
/-- what was put is got -/
theorem one_rcd (p : Pr) (h : fits p = 0) (rest : B) : oneF (rcd p ++ rest) = (p, psize p, 0) := by
  have hl := rcd_len p
  have hp := psize_pos p
  obtain ⟨hk, hv⟩ := fits_ok h
  obtain ⟨k1, k2, k3⟩ := key_ok hk
  have hsays : psize p = 3 + p.1.length + p.2.length + dl (psize p) := size_says _
  have hrcd : rcd p = (dec (psize p) ++ 32 :: (p.1 ++ (61 :: p.2))) ++ [10] := by unfold rcd; simp
  have hlast : (rcd p ++ rest)[psize p - 1]? = some 10 := by
    rw [List.getElem?_append_left (by omega), hrcd, List.getElem?_append_right (by simp [dec_len]; omega)]
    have : psize p - 1 - (dec (psize p) ++ 32 :: (p.1 ++ (61 :: p.2))).length = 0 := by simp [dec_len]; omega
    rw [this]; rfl
  have hbody : ((rcd p ++ rest).take (psize p - 1)).drop (dl (psize p) + 1) = p.1 ++ (61 :: p.2) := by
    rw [List.take_append_of_le_length (by omega), hrcd, List.take_append_of_le_length (by simp [dec_len]; omega)]
    rw [List.take_of_length_le (by simp [dec_len]; omega)]
    have e : dec (psize p) ++ 32 :: (p.1 ++ (61 :: p.2)) = (dec (psize p) ++ [32]) ++ (p.1 ++ (61 :: p.2)) := by simp
    rw [e, List.drop_append_of_le_length (by simp [dec_len]), List.drop_of_length_le (by simp [dec_len]), List.nil_append]
  have htk : (p.1 ++ (61 :: p.2)).takeWhile (fun c => c != 61) = p.1 := takeWhile_stop _ _ _ _ k1 (by decide)
  have hdr : (p.1 ++ (61 :: p.2)).drop (p.1.length + 1) = p.2 := by simp
  unfold oneF
  simp only [long_rcd p h rest]
  rw [if_neg (by rintro (h1 | h1 | h1)
                 · have := dl_pos (psize p); omega
                 · rw [List.length_append] at h1; omega
                 · exact h1 hlast), hbody, htk, if_neg (by simp), hdr, if_neg (by intro e; exact e h), if_neg (by intro e; exact e rfl)]
/-- what is got of any bytes is just these bytes -/
theorem one_ok {b : B} {p : Pr} {n : Nat} (h : oneF b = (p, n, 0)) : fits p = 0 ∧ n = psize p ∧ b.take n = rcd p ∧ n ≤ b.length := by
  obtain ⟨s, hs⟩ : ∃ s, s = b.takeWhile isD := ⟨_, rfl⟩
  have hlong : longF b = if s.length = 0 ∨ 4 < s.length ∨ s.head? = some 48 ∨ b[s.length]? ≠ some 32 then (0, 0) else (val s, s.length) := by rw [hs]; rfl
  unfold oneF at h
  dsimp only at h
  split at h
  · cases h
  rename_i h1
  split at h
  · cases h
  rename_i h2
  split at h
  · rename_i h3
    injection h with _ h
    injection h with _ h
    exact absurd h h3
  rename_i h3
  split at h
  · cases h
  rename_i h4
  injection h with e1 h
  injection h with e2 _
  have hd : (longF b).2 ≠ 0 := fun e => h1 (.inl e)
  have hn : ¬ b.length < (longF b).1 := fun e => h1 (.inr (.inl e))
  have hten : b[(longF b).1 - 1]? = some 10 := Decidable.not_not.1 fun e => h1 (.inr (.inr e))
  by_cases hc : s.length = 0 ∨ 4 < s.length ∨ s.head? = some 48 ∨ b[s.length]? ≠ some 32
  · rw [hlong, if_pos hc] at hd; exact absurd rfl hd
  rw [hlong, if_neg hc] at h2 h3 h4 e1 e2 hd hn hten
  dsimp only at h2 h3 h4 e1 e2 hd hn hten
  have c1 : s.length ≠ 0 := fun e => hc (.inl e)
  have c3 : s.head? ≠ some 48 := fun e => hc (.inr (.inr (.inl e)))
  have c4 : b[s.length]? = some 32 := Decidable.not_not.1 fun e => hc (.inr (.inr (.inr e)))
  have hsd : ∀ c ∈ s, isD c = true := by rw [hs]; exact takeWhile_all isD b
  have hdec : dec (val s) = s := dec_val (s.length - 1) s (by omega) hsd c3
  have hst : s = b.take s.length := by rw [hs]; exact takeWhile_front isD b
  rw [e2] at h2 h3 h4 e1 hn hten hdec
  obtain ⟨body, hbody⟩ : ∃ body, body = (b.take (n - 1)).drop (s.length + 1) := ⟨_, rfl⟩
  rw [← hbody] at h2 h3 h4 e1
  have hlt : (body.takeWhile fun c => c != 61).length < body.length := by
    have := (List.takeWhile_prefix (p := fun c => c != 61) (l := body)).length_le
    omega
  obtain ⟨c, t, hb, hcf⟩ := takeWhile_next (fun c => c != 61) body hlt
  obtain rfl : c = 61 := by simpa using hcf
  obtain ⟨k, hk⟩ : ∃ k, k = body.takeWhile fun c => c != 61 := ⟨_, rfl⟩
  rw [← hk] at h2 h3 h4 e1 hb
  have hdrop : body.drop (k.length + 1) = t := by rw [hb]; simp
  rw [hdrop] at h3 h4 e1
  have hp1 : p.1 = k := by rw [← e1]
  have hp2 : p.2 = t := by rw [← e1]
  rw [e1] at h3 h4
  have hf : fits p = 0 := Decidable.not_not.1 h3
  have hps : psize p = n := Decidable.not_not.1 h4
  refine ⟨hf, hps.symm, ?_, by omega⟩
  have hn4 := psize_pos p
  have hbl : body.length ≠ 0 := by rw [hb]; simp
  have hbl2 : body.length = min (n - 1) b.length - (s.length + 1) := by rw [hbody, List.length_drop, List.length_take]
  have hsn : s.length + 1 ≤ n - 1 := by omega
  have t1 : b.take n = b.take (n - 1) ++ [10] := by
    obtain ⟨hi, hg⟩ := List.getElem?_eq_some_iff.1 hten
    have := List.take_append_getElem hi
    rw [hg] at this
    rw [this]
    congr 1
    omega
  have t2 : b.take (s.length + 1) = s ++ [32] := by
    obtain ⟨hi, hg⟩ := List.getElem?_eq_some_iff.1 c4
    have := List.take_append_getElem hi
    rw [hg, ← hst] at this
    exact this.symm
  have t3 : b.take (n - 1) = (s ++ [32]) ++ body := by
    rw [← t2, hbody]
    have := List.take_append_drop (s.length + 1) (b.take (n - 1))
    rw [List.take_take, Nat.min_eq_left hsn] at this
    exact this.symm
  rw [t1, t3, hb]
  unfold rcd
  rw [hps, hdec, hp1, hp2]
  simp
/-- a record that is cut off is none -/
theorem one_cut (p : Pr) (h : fits p = 0) (cut : Nat) (h1 : 1 ≤ cut) (h2 : cut < psize p) : oneF ((rcd p).take cut) = (([], []), 0, 90) := by
  have hl := rcd_len p
  have hcut : ((rcd p).take cut).length = cut := by rw [List.length_take]; omega
  have hr : rcd p = dec (psize p) ++ 32 :: (p.1 ++ (61 :: (p.2 ++ [10]))) := rfl
  by_cases hd : cut ≤ dl (psize p)
  · have ht : (rcd p).take cut = (dec (psize p)).take cut := by rw [hr, List.take_append_of_le_length (by rw [dec_len]; exact hd)]
    have hall : ∀ x ∈ (rcd p).take cut, isD x = true := fun x hx => by rw [ht] at hx; exact dec_dig _ x (List.mem_of_mem_take hx)
    have htw : ((rcd p).take cut).takeWhile isD = (rcd p).take cut := takeWhile_whole isD _ hall
    have hlong : longF ((rcd p).take cut) = (0, 0) := by
      unfold longF
      rw [htw, hcut, if_pos]
      exact .inr (.inr (.inr (by rw [List.getElem?_eq_none (by omega)]; simp)))
    unfold oneF
    simp only [hlong]
    rw [if_pos (.inl trivial)]
  · have ht : (rcd p).take cut = dec (psize p) ++ 32 :: (p.1 ++ (61 :: (p.2 ++ [10]))).take (cut - dl (psize p) - 1) := by
      rw [hr, List.take_append, List.take_of_length_le (by rw [dec_len]; omega), dec_len]
      congr 1
      obtain ⟨m, hm⟩ : ∃ m, cut - dl (psize p) = m + 1 := ⟨cut - dl (psize p) - 1, by omega⟩
      rw [hm, List.take_succ_cons]; rfl
    have htw : ((rcd p).take cut).takeWhile isD = dec (psize p) := by rw [ht]; exact takeWhile_stop isD _ _ _ (dec_dig _) (by decide)
    have hlong : longF ((rcd p).take cut) = (psize p, dl (psize p)) := by
      unfold longF
      rw [htw, if_neg, val_dec, dec_len]
      rintro (h1 | h1 | h1 | h1)
      · rw [dec_len] at h1; have := dl_pos (psize p); omega
      · rw [dec_len] at h1; have := psize_dl h; omega
      · exact dec_head _ (by have := psize_pos p; omega) h1
      · refine h1 ?_
        rw [ht, List.getElem?_append_right (Nat.le_refl _), Nat.sub_self]
        rfl
    unfold oneF
    simp only [hlong]
    rw [if_pos (.inr (.inl (by omega)))]
end Px
end Go.Proofs.Ytldkhbkgmiicbaa
