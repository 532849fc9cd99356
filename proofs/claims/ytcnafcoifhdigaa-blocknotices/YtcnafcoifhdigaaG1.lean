/- Blocks as bytes: numbers with the greatest byte first, a block's bytes, what bytes are read as. -/
import Derived.Test.YtcnafcoifhdigaaK9
import Derived.Test.YtcnafcoifhdigaaK6
namespace Go.Proofs.Ytcnafcoifhdigaa
open Go.RowKit Go.Deep
set_option linter.unusedVariables false
set_option linter.unusedSimpArgs false

namespace Blk
/-- what k bytes tell, the greatest one first -/
def num (f : Nat → Nat) : Nat → Nat
  | 0 => 0
  | k + 1 => num f k * 256 + f k
theorem num_lt {f : Nat → Nat} (hf : ∀ i, f i < 256) : ∀ k, num f k < 256 ^ k
  | 0 => by simp [num]
  | k + 1 => by
    have h := num_lt hf k
    have h2 := hf k
    have h3 : num f k * 256 + 256 ≤ 256 ^ k * 256 := by
      have := Nat.mul_le_mul_right 256 (Nat.succ_le_of_lt h)
      omega
    rw [Nat.pow_succ]; unfold num; omega
theorem num_congr {f g : Nat → Nat} : ∀ k, (∀ i, i < k → f i = g i) → num f k = num g k
  | 0, _ => rfl
  | k + 1, h => by unfold num; rw [num_congr k (fun i hi => h i (by omega)), h k (by omega)]
theorem num_div {f : Nat → Nat} (hf : ∀ i, f i < 256) (k : Nat) : ∀ j, num f (k + j) / 256 ^ j = num f k
  | 0 => by simp
  | j + 1 => by
    have h2 := hf (k + j)
    rw [Nat.pow_succ', ← Nat.div_div_eq_div_mul, ← Nat.add_assoc]
    show (num f (k + j) * 256 + f (k + j)) / 256 / 256 ^ j = _
    rw [show (num f (k + j) * 256 + f (k + j)) / 256 = num f (k + j) by omega, num_div hf k j]
/-- byte t, the greatest first, of a number of n bytes -/
def byteOf (x n t : Nat) : Nat := x / 256 ^ (n - 1 - t) % 256
theorem byteOf_lt (x n t : Nat) : byteOf x n t < 256 := Nat.mod_lt _ (by decide)
theorem byte_num {f : Nat → Nat} (hf : ∀ i, f i < 256) {n t : Nat} (h : t < n) : byteOf (num f n) n t = f t := by
  unfold byteOf
  have e : num f n / 256 ^ (n - 1 - t) = num f (t + 1) := by
    have := num_div hf (t + 1) (n - 1 - t)
    rwa [show t + 1 + (n - 1 - t) = n by omega] at this
  rw [e]
  have h2 := hf t
  show (num f t * 256 + f t) % 256 = f t
  omega
theorem num_byte_k (x n : Nat) (hx : x < 256 ^ n) : ∀ k, k ≤ n → num (byteOf x n) k = x / 256 ^ (n - k)
  | 0, _ => by rw [Nat.sub_zero, Nat.div_eq_of_lt hx]; rfl
  | k + 1, h => by
    unfold num
    rw [num_byte_k x n hx k (by omega)]
    unfold byteOf
    rw [show n - 1 - k = n - (k + 1) by omega, show n - k = (n - (k + 1)) + 1 by omega, Nat.pow_succ, ← Nat.div_div_eq_div_mul]
    omega
theorem num_byte {x n : Nat} (hx : x < 256 ^ n) : num (byteOf x n) n = x := by
  rw [num_byte_k x n hx n (Nat.le_refl _), Nat.sub_self, Nat.pow_zero, Nat.div_one]

/-- the first 28 of a block's bytes -/
def hd (key stripe shard len i : Nat) : Nat :=
  if i < 4 then byteOf 1413631051 4 i else if i < 12 then byteOf key 8 (i - 4) else if i < 16 then byteOf stripe 4 (i - 12) else if i = 16 then shard else if i = 17 then len else 0
/-- a block's first 124 bytes -/
def body (key stripe shard len : Nat) (d : Nat → Int) (i : Nat) : Int :=
  if i < 28 then ((hd key stripe shard len i : Nat) : Int) else if i < 28 + len then d (i - 28) else 0
theorem hd_lt {key stripe shard len : Nat} (h1 : shard < 256) (h2 : len < 256) (i : Nat) : hd key stripe shard len i < 256 := by
  unfold hd
  have a := byteOf_lt 1413631051 4 i
  have b := byteOf_lt key 8 (i - 4)
  have c := byteOf_lt stripe 4 (i - 12)
  split
  · exact a
  split
  · exact b
  split
  · exact c
  split
  · exact h1
  split
  · exact h2
  · decide
theorem body_bd {key stripe shard len : Nat} {d : Nat → Int} (h1 : shard < 256) (h2 : len < 256) (hd' : ∀ i, 0 ≤ d i ∧ d i < 256) (i : Nat) : 0 ≤ body key stripe shard len d i ∧ body key stripe shard len d i < 256 := by
  unfold body
  have a := hd_lt (key := key) (stripe := stripe) h1 h2 i
  split
  · omega
  split
  · exact hd' _
  · decide

/-- the first four bytes are the mark -/
def Mark (f : Nat → Int) : Prop := f 0 = 84 ∧ f 1 = 66 ∧ f 2 = 76 ∧ f 3 = 75
/-- bytes that are noughts from a on, up to b -/
def Zer (f : Nat → Int) (a b : Nat) : Prop := ∀ i, a ≤ i → i < b → f i = 0
/-- what must hold of bytes whose mark and sum are right -/
def Rest (f : Nat → Int) : Prop := f 17 ≤ 96 ∧ Zer f 18 28 ∧ Zer f (28 + nb f 17) 124
/-- what the reading of L bytes answers -/
structure Errs (L : Nat) (f : Nat → Int) (e : Int) : Prop where
  shape : L ≠ 128 → e = 6
  mark : L = 128 → ¬ Mark f → e = 60
  sum : L = 128 → Mark f → ¬ Crc.Opens (nb f) 124 → e = 61
  rest : L = 128 → Mark f → Crc.Opens (nb f) 124 → ¬ Rest f → e = 62
  good : L = 128 → Mark f → Crc.Opens (nb f) 124 → Rest f → e = 0
/-- bytes that are a block's -/
def Good (L : Nat) (f : Nat → Int) : Prop := L = 128 ∧ Mark f ∧ Crc.Opens (nb f) 124 ∧ Rest f
def keyOf (f : Nat → Int) : Nat := num (fun i => nb f (4 + i)) 8
def stripeOf (f : Nat → Int) : Nat := num (fun i => nb f (12 + i)) 4
def shardOf (f : Nat → Int) : Nat := nb f 16
def lenOf (f : Nat → Int) : Nat := nb f 17
structure Says (L : Nat) (f : Nat → Int) (e : Int) (k s h n : Nat) : Prop where
  errs : Errs L f e
  yes : e = 0 → k = keyOf f ∧ s = stripeOf f ∧ h = shardOf f ∧ n = lenOf f
  no : e ≠ 0 → k = 0 ∧ s = 0 ∧ h = 0 ∧ n = 0
theorem errs_unique {L : Nat} {f : Nat → Int} {e e' : Int} (h : Errs L f e) (h' : Errs L f e') : e = e' := by
  by_cases h1 : L = 128
  · by_cases h2 : Mark f
    · by_cases h3 : Crc.Opens (nb f) 124
      · by_cases h4 : Rest f
        · rw [h.good h1 h2 h3 h4, h'.good h1 h2 h3 h4]
        · rw [h.rest h1 h2 h3 h4, h'.rest h1 h2 h3 h4]
      · rw [h.sum h1 h2 h3, h'.sum h1 h2 h3]
    · rw [h.mark h1 h2, h'.mark h1 h2]
  · rw [h.shape h1, h'.shape h1]
theorem errs_zero {L : Nat} {f : Nat → Int} {e : Int} (h : Errs L f e) : e = 0 ↔ Good L f := by
  constructor
  · intro h0
    by_cases h1 : L = 128
    · by_cases h2 : Mark f
      · by_cases h3 : Crc.Opens (nb f) 124
        · by_cases h4 : Rest f
          · exact ⟨h1, h2, h3, h4⟩
          · have := h.rest h1 h2 h3 h4; omega
        · have := h.sum h1 h2 h3; omega
      · have := h.mark h1 h2; omega
    · have := h.shape h1; omega
  · rintro ⟨h1, h2, h3, h4⟩
    exact h.good h1 h2 h3 h4
theorem says_unique {L : Nat} {f : Nat → Int} {e e' : Int} {k s h n k' s' h' n' : Nat} (a : Says L f e k s h n) (b : Says L f e' k' s' h' n') : e = e' ∧ k = k' ∧ s = s' ∧ h = h' ∧ n = n' := by
  obtain rfl := errs_unique a.errs b.errs
  by_cases h0 : e = 0
  · obtain ⟨rfl, rfl, rfl, rfl⟩ := a.yes h0
    obtain ⟨rfl, rfl, rfl, rfl⟩ := b.yes h0
    exact ⟨rfl, rfl, rfl, rfl, rfl⟩
  · obtain ⟨rfl, rfl, rfl, rfl⟩ := a.no h0
    obtain ⟨rfl, rfl, rfl, rfl⟩ := b.no h0
    exact ⟨rfl, rfl, rfl, rfl, rfl⟩
theorem mark_num {f : Nat → Int} (hf : ∀ i, 0 ≤ f i ∧ f i < 256) : num (nb f) 4 = 1413631051 ↔ Mark f := by
  have h0 := hf 0
  have h1 := hf 1
  have h2 := hf 2
  have h3 := hf 3
  unfold Mark
  simp only [num]
  unfold nb
  constructor
  · intro h; omega
  · rintro ⟨a, b, c, d⟩; rw [a, b, c, d]; rfl
theorem num_lt64 {f : Nat → Nat} (hf : ∀ i, f i < 256) {k : Nat} (hk : k ≤ 8) : num f k < 18446744073709551616 :=
  Nat.lt_of_lt_of_le (num_lt hf k) (by rw [show (18446744073709551616 : Nat) = 256 ^ 8 by decide]; exact Nat.pow_le_pow_right (by decide) hk)
end Blk
end Go.Proofs.Ytcnafcoifhdigaa
