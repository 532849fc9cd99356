/- Texts of mine, put together. -/
import Derived.Test.YtldkhbkgmiicbaaGreatDoorBu1
import Derived.Test.YtldkhbkgmiicbaaGreatDoorBu2

/- Layer 10: heads of an archive: the mathematics of texts with noughts behind them, of sums and seals. -/
namespace Go.Proofs.YtldkhbkgmiicbaaGreatDoor
set_option linter.unusedVariables false
set_option linter.unusedSimpArgs false

namespace Hd
abbrev B := List UInt8
/-- a text, and noughts behind it -/
def pad (s : B) (w : Nat) : B := s ++ List.replicate (w - s.length) 0
/-- what stands ahead of the first nought -/
def first (b : B) : B := b.takeWhile (fun c => c != 0)
theorem pad_len {s : B} {w : Nat} (h : s.length ≤ w) : (pad s w).length = w := by
  unfold pad
  rw [List.length_append, List.length_replicate]; omega
/-- a number's form of W bytes -/
def nb (n W i : Nat) : Nat := if n < 8 ^ (W - 1) then (if i + 1 < W then 48 + n / 8 ^ (W - 2 - i) % 8 else 0) else (if i = 0 then 128 else n / 256 ^ (W - 1 - i) % 256)
def numB (n W : Nat) : B := (List.range W).map fun i => UInt8.ofNat (nb n W i)
theorem numB_len (n W : Nat) : (numB n W).length = W := by unfold numB; rw [List.length_map, List.length_range]
theorem nb_lt (n W i : Nat) : nb n W i < 256 := by
  unfold nb
  split
  · split <;> omega
  · split
    · decide
    · exact Nat.mod_lt _ (by decide)
theorem numB_at {n W i : Nat} (h : i < W) : (numB n W)[i]? = some (UInt8.ofNat (nb n W i)) := by
  unfold numB
  rw [List.getElem?_map, List.getElem?_range h]; rfl
/-- the sum of bytes; of a head's, eight blanks in the sum's place -/
def sumL (b : B) : Nat := (b.map UInt8.toNat).sum
def sumB (b : B) : Nat := sumL (b.take 148) + 256 + sumL (b.drop 156)
theorem sumL_bd : ∀ (b : B), sumL b ≤ 255 * b.length
  | [] => by simp [sumL]
  | c :: b => by
    have := sumL_bd b
    have hc := c.toNat_lt
    unfold sumL at this ⊢
    rw [List.map_cons, List.sum_cons, List.length_cons]; omega
theorem sumB_bd {b : B} (h : b.length ≤ 512) : sumB b < 8 ^ (7 - 1) := by
  have h1 := sumL_bd (b.take 148)
  have h2 := sumL_bd (b.drop 156)
  rw [List.length_take] at h1
  rw [List.length_drop] at h2
  unfold sumB
  show _ < 262144
  omega
/-- the sum in its place -/
def sealB (b : B) : B := b.take 148 ++ (numB (sumB b) 7 ++ (32 :: b.drop 156))
theorem seal_len {b : B} (h : 156 ≤ b.length) : (sealB b).length = b.length := by
  unfold sealB
  rw [List.length_append, List.length_append, List.length_cons, numB_len, List.length_take, List.length_drop]; omega
end Hd
end Go.Proofs.YtldkhbkgmiicbaaGreatDoor

/- Layer 10: a head's bytes: their parts, what is read of them. -/
namespace Go.Proofs.YtldkhbkgmiicbaaGreatDoor
set_option linter.unusedVariables false
set_option linter.unusedSimpArgs false

namespace Hd
/-- a head -/
structure Hdr where
  name : B
  mode : Int
  size : Int
  time : Int
  typ : UInt8
  link : B
  pre : B
def ustar : B := [117, 115, 116, 97, 114, 0, 48, 48]
def nul (s : B) : Bool := s.any (fun c => c == 0)
theorem nul_no {s : B} (h : nul s = false) : (0 : UInt8) ∉ s := fun hm => by
  have : nul s = true := List.any_eq_true.2 ⟨0, hm, by decide⟩
  rw [h] at this; exact absurd this (by decide)
def may (h : Hdr) : Nat :=
  if h.typ ≠ 48 ∧ h.typ ≠ 49 ∧ h.typ ≠ 50 ∧ h.typ ≠ 53 ∧ h.typ ≠ 120 then 102
  else if h.name.length > 100 ∨ h.link.length > 100 ∨ h.pre.length > 155 then 2
  else if nul h.name = true ∨ nul h.link = true ∨ nul h.pre = true then 82
  else if h.mode < 0 ∨ h.mode > 4095 ∨ h.size < 0 ∨ h.size > 8589934591 ∨ h.time < 0 ∨ h.time > 1099511627776 then 1
  else 0
structure Good (h : Hdr) : Prop where
  typ : h.typ = 48 ∨ h.typ = 49 ∨ h.typ = 50 ∨ h.typ = 53 ∨ h.typ = 120
  name : h.name.length ≤ 100
  link : h.link.length ≤ 100
  pre : h.pre.length ≤ 155
  nname : (0 : UInt8) ∉ h.name
  nlink : (0 : UInt8) ∉ h.link
  npre : (0 : UInt8) ∉ h.pre
  mode : 0 ≤ h.mode ∧ h.mode ≤ 4095
  size : 0 ≤ h.size ∧ h.size ≤ 8589934591
  time : 0 ≤ h.time ∧ h.time ≤ 1099511627776
theorem may_good {h : Hdr} (e : may h = 0) : Good h := by
  unfold may at e
  split at e
  · exact absurd e (by decide)
  split at e
  · exact absurd e (by decide)
  split at e
  · exact absurd e (by decide)
  split at e
  · exact absurd e (by decide)
  rename_i h1 h2 h3 h4
  have n1 : nul h.name = false := by cases hx : nul h.name with | false => rfl | true => exact absurd (.inl hx) h3
  have n2 : nul h.link = false := by cases hx : nul h.link with | false => rfl | true => exact absurd (.inr (.inl hx)) h3
  have n3 : nul h.pre = false := by cases hx : nul h.pre with | false => rfl | true => exact absurd (.inr (.inr hx)) h3
  refine ⟨?_, by omega, by omega, by omega, nul_no n1, nul_no n2, nul_no n3, by omega, by omega, by omega⟩
  by_cases a1 : h.typ = 48
  · exact .inl a1
  by_cases a2 : h.typ = 49
  · exact .inr (.inl a2)
  by_cases a3 : h.typ = 50
  · exact .inr (.inr (.inl a3))
  by_cases a4 : h.typ = 53
  · exact .inr (.inr (.inr (.inl a4)))
  by_cases a5 : h.typ = 120
  · exact .inr (.inr (.inr (.inr a5)))
  exact absurd ⟨a1, a2, a3, a4, a5⟩ h1
/-- what stands ahead of the sum, and behind it -/
def ahead (h : Hdr) : List B := [pad h.name 100, numB h.mode.toNat 8, numB 0 8, numB 0 8, numB h.size.toNat 12, numB h.time.toNat 12]
def after (h : Hdr) : List B := [[h.typ], pad h.link 100, pad ustar 8, pad [] 64, numB 0 8, numB 0 8, pad h.pre 155, pad [] 12]
/-- a head's bytes ahead of sealing, and sealed -/
def rawB (h : Hdr) : B := (ahead h).flatten ++ (pad [] 8 ++ (after h).flatten)
def layB (h : Hdr) : B := sealB (rawB h)
theorem ahead_len {h : Hdr} (g : Good h) : (ahead h).flatten.length = 148 := by
  unfold ahead
  simp only [List.flatten_cons, List.flatten_nil, List.length_append, List.length_nil, numB_len, pad_len g.name]
theorem after_len {h : Hdr} (g : Good h) : (after h).flatten.length = 356 := by
  unfold after
  simp only [List.flatten_cons, List.flatten_nil, List.length_append, List.length_nil, List.length_cons, numB_len, pad_len g.link, pad_len g.pre, pad_len (show ustar.length ≤ 8 by decide), pad_len (show ([] : B).length ≤ 64 by decide), pad_len (show ([] : B).length ≤ 12 by decide)]
theorem raw_len {h : Hdr} (g : Good h) : (rawB h).length = 512 := by
  unfold rawB
  rw [List.length_append, List.length_append, ahead_len g, after_len g, pad_len (by decide)]
theorem lay_len {h : Hdr} (g : Good h) : (layB h).length = 512 := by unfold layB; rw [seal_len (by rw [raw_len g]; omega), raw_len g]
end Hd
end Go.Proofs.YtldkhbkgmiicbaaGreatDoor

/- Layer 10: what is read of bytes, as a relation; the order of bytes and the sum. -/
namespace Go.Proofs.YtldkhbkgmiicbaaGreatDoor
set_option linter.unusedVariables false
set_option linter.unusedSimpArgs false

namespace Hd
def none : Hdr := ⟨[], 0, 0, 0, 0, [], []⟩
/-- what is read of bytes: the head, and what is wrong -/
structure Reads (b : B) (h : Hdr) (e : Nat) : Prop where
  len : b.length ≠ 512 → h = none ∧ e = 1
  word : b.length = 512 → (b.drop 257).take 8 ≠ ustar → h = none ∧ e = 100
  sum : b.length = 512 → (b.drop 257).take 8 = ustar → sealB b ≠ b → h = none ∧ e = 101
  yes : b.length = 512 → (b.drop 257).take 8 = ustar → sealB b = b → ∀ k, Good k → layB k = b → h = k ∧ e = 0
  no : b.length = 512 → (b.drop 257).take 8 = ustar → sealB b = b → (∀ k, Good k → layB k ≠ b) → h = none ∧ e = 100
end Hd
end Go.Proofs.YtldkhbkgmiicbaaGreatDoor

/- Numbers in a head's fields: the mathematics. -/
namespace Go.Proofs.YtldkhbkgmiicbaaGreatDoor
open Go.RowKit Go.Deep
set_option linter.unusedVariables false
set_option linter.unusedSimpArgs false

namespace Oct
/-- what k bytes tell, the greatest one first -/
def num (f : Nat → Int) : Nat → Int
  | 0 => 0
  | k + 1 => num f k * 256 + f k
/-- what k octal digits from p on tell -/
def oct (f : Nat → Int) (p : Nat) : Nat → Int
  | 0 => 0
  | k + 1 => 8 * oct f p k + (f (p + k) - 48)
def Digit (x : Int) : Prop := 48 ≤ x ∧ x ≤ 55
def Blank (x : Int) : Prop := x = 32
def Tail (x : Int) : Prop := x = 0 ∨ x = 32
/-- from p on the bytes up to q are such, and no further -/
structure Run (P : Int → Prop) (f : Nat → Int) (L p q : Nat) : Prop where
  le : p ≤ q
  top : q ≤ L
  all : ∀ i, p ≤ i → i < q → P (f i)
  stop : q < L → ¬ P (f q)
/-- what the reading of a loose field answers: the number, the place, the error -/
structure Says (L : Nat) (f : Nat → Int) (n at_ e : Int) : Prop where
  arg : ¬ (2 ≤ L ∧ L ≤ 12) → n = 0 ∧ at_ = 0 ∧ e = 1
  wide : 2 ≤ L → L ≤ 12 → f 0 = 128 → num (fun i => f (1 + i)) (L - 1) ≤ 9223372036854775807 → n = num (fun i => f (1 + i)) (L - 1) ∧ at_ = 0 ∧ e = 0
  long : 2 ≤ L → L ≤ 12 → f 0 = 128 → ¬ num (fun i => f (1 + i)) (L - 1) ≤ 9223372036854775807 → n = 0 ∧ at_ = 0 ∧ e = 2
  loose : 2 ≤ L → L ≤ 12 → ¬ f 0 = 128 → ∀ p q r, Run Blank f L 0 p → Run Digit f L p q → Run Tail f L q r → (r = L → n = oct f p (q - p) ∧ at_ = 0 ∧ e = 0) ∧ (r < L → n = 0 ∧ at_ = (r : Int) ∧ e = 70)
end Oct
end Go.Proofs.YtldkhbkgmiicbaaGreatDoor
