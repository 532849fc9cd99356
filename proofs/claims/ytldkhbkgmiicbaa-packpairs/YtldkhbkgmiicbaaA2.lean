/- Decimal numbers, and numbers that say their own length (code-free). -/
import Derived.Test.YtldkhbkgmiicbaaA1
namespace Go.Proofs.Ytldkhbkgmiicbaa
open Go.RowKit Go.Deep
set_option linter.unusedVariables false
set_option linter.unusedSimpArgs false

namespace Px
/-- how many decimal digits -/
def dl (n : Nat) : Nat := if n < 10 then 1 else dl (n / 10) + 1
/-- the digits -/
def dec (n : Nat) : B := if n < 10 then [UInt8.ofNat (48 + n)] else dec (n / 10) ++ [UInt8.ofNat (48 + n % 10)]
theorem dl_one {n : Nat} (h : n < 10) : dl n = 1 := by rw [dl, if_pos h]
theorem dl_more {n : Nat} (h : ¬ n < 10) : dl n = dl (n / 10) + 1 := by rw [dl, if_neg h]
theorem dec_one {n : Nat} (h : n < 10) : dec n = [UInt8.ofNat (48 + n)] := by rw [dec, if_pos h]
theorem dec_more {n : Nat} (h : ¬ n < 10) : dec n = dec (n / 10) ++ [UInt8.ofNat (48 + n % 10)] := by rw [dec, if_neg h]
theorem dec_len (n : Nat) : (dec n).length = dl n := by
  induction n using Nat.strongRecOn with
  | ind n ih =>
    by_cases h : n < 10
    · rw [dec_one h, dl_one h]; rfl
    · rw [dec_more h, dl_more h, List.length_append, ih (n / 10) (by omega)]; rfl
theorem dl_pos (n : Nat) : 1 ≤ dl n := by
  by_cases h : n < 10
  · rw [dl_one h]; exact Nat.le_refl _
  · rw [dl_more h]; omega
theorem dl_mono : ∀ (b a : Nat), a ≤ b → dl a ≤ dl b := by
  intro b
  induction b using Nat.strongRecOn with
  | ind b ih =>
    intro a h
    by_cases hb : b < 10
    · rw [dl_one hb, dl_one (by omega)]; exact Nat.le_refl _
    · by_cases ha : a < 10
      · rw [dl_one ha]; exact dl_pos b
      · rw [dl_more ha, dl_more hb]
        have := ih (b / 10) (by omega) (a / 10) (by omega)
        omega
theorem dl_ten (r j : Nat) (h : j ≤ 9 * r + 9) : dl (r + j) ≤ dl r + 1 := by
  have h1 := dl_mono (10 * r + 9) (r + j) (by omega)
  by_cases hr : 10 * r + 9 < 10
  · rw [dl_one hr] at h1; omega
  · rw [dl_more hr] at h1
    have e : (10 * r + 9) / 10 = r := by omega
    rw [e] at h1; exact h1
theorem dl_le (n : Nat) : dl n ≤ n + 1 := by
  induction n using Nat.strongRecOn with
  | ind n ih =>
    by_cases h : n < 10
    · rw [dl_one h]; omega
    · rw [dl_more h]; have := ih (n / 10) (by omega); omega
/-- the least number that is r and as much as it has digits -/
def size (r : Nat) : Nat := if dl (r + dl r) = dl r then r + dl r else r + dl r + 1
theorem size_says (r : Nat) : size r = r + dl (size r) := by
  unfold size
  have h0 := dl_le r
  have h1 := dl_mono (r + dl r) r (by omega)
  have h2 := dl_ten r (dl r) (by omega)
  have h3 := dl_ten r (dl r + 1) (by omega)
  have h4 := dl_mono (r + (dl r + 1)) (r + dl r) (by omega)
  split
  · omega
  · rw [Nat.add_assoc]; omega
theorem size_least {r n : Nat} (h : n = r + dl n) : size r ≤ n := by
  have h1 := dl_mono n r (by omega)
  unfold size
  split
  · omega
  · rename_i h2
    have : n ≠ r + dl r := fun e => by
      have : dl n = dl r := by omega
      rw [e] at this; exact h2 this
    omega
theorem size_ge (r : Nat) : r + 1 ≤ size r := by have := size_says r; have := dl_pos (size r); omega
theorem size_mono {r q : Nat} (h : r < q) : size r < size q := by
  have h1 := size_says q
  have h2 := dl_mono q r (by omega)
  have h3 := dl_mono (q + dl q) (r + dl r) (by omega)
  have h4 := dl_ten r (dl r) (by have := dl_le r; omega)
  unfold size
  split <;> split
  · omega
  · omega
  · rename_i a b
    have : dl (r + dl r) ≥ dl r := dl_mono _ _ (by omega)
    by_cases e : dl q = dl r
    · rw [e] at b
      have := dl_mono (q + dl r) (r + dl r) (by omega)
      rw [e] at h3
      omega
    · omega
  · omega
theorem size_step (r : Nat) : size (r + 1) ≤ size r + 2 := by
  have h1 := size_says r
  have h2 := size_says (r + 1)
  have h5 := dl_ten r 1 (by omega)
  have h6 := dl_mono (r + 1) r (by omega)
  unfold size
  have h3 := dl_mono (r + 1 + dl (r + 1)) (r + dl r) (by omega)
  split <;> split
  · omega
  · omega
  · rename_i a b
    by_cases e : dl (r + 1) = dl r
    · omega
    · exfalso
      have h7 : dl (r + 1) = dl r + 1 := by omega
      have h8 : dl (r + dl r) ≥ dl (r + 1) := dl_mono _ _ (by have := dl_pos r; omega)
      omega
  · rename_i a b
    by_cases e : dl (r + 1) = dl r
    · omega
    · have h7 : dl (r + 1) = dl r + 1 := by omega
      omega
/-- a decimal digit -/
def isD (c : UInt8) : Bool := decide (48 ≤ c.toNat ∧ c.toNat ≤ 57)
/-- what digits come to -/
def val (s : B) : Nat := s.foldl (fun n c => 10 * n + (c.toNat - 48)) 0
theorem val_snoc (s : B) (c : UInt8) : val (s ++ [c]) = 10 * val s + (c.toNat - 48) := by unfold val; rw [List.foldl_append]; rfl
theorem dig_nat {k : Nat} (h : k < 10) : (UInt8.ofNat (48 + k)).toNat = 48 + k := by
  rw [UInt8.toNat_ofNat']; omega
theorem val_dec (n : Nat) : val (dec n) = n := by
  induction n using Nat.strongRecOn with
  | ind n ih =>
    by_cases h : n < 10
    · rw [dec_one h]; show 10 * 0 + ((UInt8.ofNat (48 + n)).toNat - 48) = n; rw [dig_nat h]; omega
    · rw [dec_more h, val_snoc, ih (n / 10) (by omega), dig_nat (by omega)]; omega
theorem dec_dig (n : Nat) : ∀ c ∈ dec n, isD c = true := by
  induction n using Nat.strongRecOn with
  | ind n ih =>
    intro c hc
    have hd : ∀ k, k < 10 → isD (UInt8.ofNat (48 + k)) = true := fun k hk => by unfold isD; rw [dig_nat hk]; exact decide_eq_true (by omega)
    by_cases h : n < 10
    · rw [dec_one h] at hc; obtain rfl := List.mem_singleton.1 hc; exact hd n h
    · rw [dec_more h] at hc
      rcases List.mem_append.1 hc with hc | hc
      · exact ih (n / 10) (by omega) c hc
      · obtain rfl := List.mem_singleton.1 hc; exact hd _ (by omega)
theorem dec_ne (n : Nat) : dec n ≠ [] := fun e => by have := dl_pos n; rw [← dec_len, e] at this; simp at this
theorem dec_head (n : Nat) (hn : 1 ≤ n) : (dec n).head? ≠ some 48 := by
  induction n using Nat.strongRecOn with
  | ind n ih =>
    by_cases h : n < 10
    · rw [dec_one h]
      intro e
      injection e with e
      have := congrArg UInt8.toNat e
      rw [dig_nat h] at this
      simp at this
      omega
    · rw [dec_more h, List.head?_append]
      have h1 := ih (n / 10) (by omega) (by omega)
      cases h2 : (dec (n / 10)).head? with
      | none => exact absurd (List.head?_eq_none_iff.1 h2) (dec_ne _)
      | some c => rw [h2] at h1; exact h1
theorem val_pos {c : UInt8} {s : B} (hc : isD c = true) (h48 : c ≠ 48) : ∀ n, s.length = n → 1 ≤ val (c :: s) := by
  intro n
  induction n generalizing s with
  | zero =>
    intro h
    obtain rfl := List.eq_nil_of_length_eq_zero h
    show 1 ≤ 10 * 0 + (c.toNat - 48)
    have := of_decide_eq_true hc
    have : c.toNat ≠ 48 := fun e => h48 (UInt8.toNat_inj.1 e)
    omega
  | succ n ih =>
    intro h
    have hs : s ≠ [] := fun e => by rw [e] at h; simp at h
    have e := List.dropLast_concat_getLast hs
    rw [← e, ← List.cons_append, val_snoc]
    have := ih (s := s.dropLast) (by rw [List.length_dropLast]; omega)
    omega
/-- digits without a nought ahead are those of what they come to -/
theorem dec_val : ∀ (n : Nat) (s : B), s.length = n + 1 → (∀ c ∈ s, isD c = true) → s.head? ≠ some 48 → dec (val s) = s := by
  intro n
  induction n with
  | zero =>
    intro s h hd h48
    obtain ⟨c, rfl⟩ := List.length_eq_one_iff.1 h
    have hc := of_decide_eq_true (hd c List.mem_cons_self)
    show dec (10 * 0 + (c.toNat - 48)) = _
    rw [dec_one (by omega)]
    congr 1
    apply UInt8.toNat_inj.1
    rw [dig_nat (by omega)]
    omega
  | succ n ih =>
    intro s h hd h48
    have hs : s ≠ [] := fun e => by rw [e] at h; simp at h
    have e := List.dropLast_concat_getLast hs
    obtain ⟨t, c, rfl⟩ : ∃ t c, s = t ++ [c] := ⟨_, _, e.symm⟩
    have ht : t.length = n + 1 := by rw [List.length_append] at h; simp at h; omega
    have hdt : ∀ x ∈ t, isD x = true := fun x hx => hd x (List.mem_append.2 (.inl hx))
    cases t with
    | nil => simp at ht
    | cons a t =>
      have ha : a ≠ 48 := fun e => h48 (by rw [e]; rfl)
      have hv := val_pos (s := t) (hdt a List.mem_cons_self) ha _ rfl
      have hc := of_decide_eq_true (hd c (List.mem_append.2 (.inr List.mem_cons_self)))
      have hi := ih (a :: t) ht hdt (by simpa using ha)
      rw [val_snoc, dec_more (by omega)]
      have e1 : (10 * val (a :: t) + (c.toNat - 48)) / 10 = val (a :: t) := by omega
      have e2 : (10 * val (a :: t) + (c.toNat - 48)) % 10 = c.toNat - 48 := by omega
      rw [e1, e2, hi]
      congr 2
      apply UInt8.toNat_inj.1
      rw [dig_nat (by omega)]
      omega
end Px
end Go.Proofs.Ytldkhbkgmiicbaa
