/- Texts of mine, put together. -/
import Derived.Test.YtldkhbkgmiicbabGreatDoorBu12
import Derived.Laws.IdiomStrings
import Derived.Laws.AppendOwn
import Derived.RangeFuncRecord

/- Decimal numbers, and numbers that say their own length (code-free). -/
namespace Go.Proofs.YtldkhbkgmiicbabGreatDoor
open Go.RowKit Go.Deep
set_option linter.unusedVariables false
set_option linter.unusedSimpArgs false

namespace Px
/-- how many decimal digits -/
def dl (n : Nat) : Nat := if n < 10 then 1 else dl (n / 10) + 1
/-- the digits -/
def dec (n : Nat) : B := if n < 10 then [UInt8.ofNat (48 + n)] else dec (n / 10) ++ [UInt8.ofNat (48 + n % 10)]
theorem dl_one {n : Nat} (h : n < 10) : dl n = 1 := by rw [dl, if_pos h]
theorem dl_more {n : Nat} (h : ¬ n < 10) : dl n = dl (n / 10) + 1 := by rw [dl, if_neg h]
theorem dec_one {n : Nat} (h : n < 10) : dec n = [UInt8.ofNat (48 + n)] := by rw [dec, if_pos h]
theorem dec_more {n : Nat} (h : ¬ n < 10) : dec n = dec (n / 10) ++ [UInt8.ofNat (48 + n % 10)] := by rw [dec, if_neg h]
theorem dec_len (n : Nat) : (dec n).length = dl n := by
  induction n using Nat.strongRecOn with
  | ind n ih =>
    by_cases h : n < 10
    · rw [dec_one h, dl_one h]; rfl
    · rw [dec_more h, dl_more h, List.length_append, ih (n / 10) (by omega)]; rfl
theorem dl_pos (n : Nat) : 1 ≤ dl n := by
  by_cases h : n < 10
  · rw [dl_one h]; exact Nat.le_refl _
  · rw [dl_more h]; omega
theorem dl_mono : ∀ (b a : Nat), a ≤ b → dl a ≤ dl b := by
  intro b
  induction b using Nat.strongRecOn with
  | ind b ih =>
    intro a h
    by_cases hb : b < 10
    · rw [dl_one hb, dl_one (by omega)]; exact Nat.le_refl _
    · by_cases ha : a < 10
      · rw [dl_one ha]; exact dl_pos b
      · rw [dl_more ha, dl_more hb]
        have := ih (b / 10) (by omega) (a / 10) (by omega)
        omega
theorem dl_ten (r j : Nat) (h : j ≤ 9 * r + 9) : dl (r + j) ≤ dl r + 1 := by
  have h1 := dl_mono (10 * r + 9) (r + j) (by omega)
  by_cases hr : 10 * r + 9 < 10
  · rw [dl_one hr] at h1; omega
  · rw [dl_more hr] at h1
    have e : (10 * r + 9) / 10 = r := by omega
    rw [e] at h1; exact h1
theorem dl_le (n : Nat) : dl n ≤ n + 1 := by
  induction n using Nat.strongRecOn with
  | ind n ih =>
    by_cases h : n < 10
    · rw [dl_one h]; omega
    · rw [dl_more h]; have := ih (n / 10) (by omega); omega
/-- the least number that is r and as much as it has digits -/
def size (r : Nat) : Nat := if dl (r + dl r) = dl r then r + dl r else r + dl r + 1
theorem size_says (r : Nat) : size r = r + dl (size r) := by
  unfold size
  have h0 := dl_le r
  have h1 := dl_mono (r + dl r) r (by omega)
  have h2 := dl_ten r (dl r) (by omega)
  have h3 := dl_ten r (dl r + 1) (by omega)
  have h4 := dl_mono (r + (dl r + 1)) (r + dl r) (by omega)
  split
  · omega
  · rw [Nat.add_assoc]; omega
theorem size_least {r n : Nat} (h : n = r + dl n) : size r ≤ n := by
  have h1 := dl_mono n r (by omega)
  unfold size
  split
  · omega
  · rename_i h2
    have : n ≠ r + dl r := fun e => by
      have : dl n = dl r := by omega
      rw [e] at this; exact h2 this
    omega
theorem size_ge (r : Nat) : r + 1 ≤ size r := by have := size_says r; have := dl_pos (size r); omega
/-- a decimal digit -/
def isD (c : UInt8) : Bool := decide (48 ≤ c.toNat ∧ c.toNat ≤ 57)
/-- what digits come to -/
def val (s : B) : Nat := s.foldl (fun n c => 10 * n + (c.toNat - 48)) 0
end Px
end Go.Proofs.YtldkhbkgmiicbabGreatDoor

/- Records: a pair's record, what bytes begin with, there and back (code-free). -/
namespace Go.Proofs.YtldkhbkgmiicbabGreatDoor
open Go.RowKit Go.Deep
set_option linter.unusedVariables false
set_option linter.unusedSimpArgs false

namespace Px
/-- a key: 1 to 32 bytes, none of them 0, 10 or 61 -/
def keyF (k : B) : Bool := k.all (fun c => c != 0 && c != 10 && c != 61) && decide (1 ≤ k.length) && decide (k.length ≤ 32)
/-- what is wrong with a pair -/
def fits (p : Pr) : Nat := if keyF p.1 = false then 91 else if p.2.length > 1024 then 2 else 0
def psize (p : Pr) : Nat := size (3 + p.1.length + p.2.length)
/-- a pair's record -/
def rcd (p : Pr) : B := dec (psize p) ++ (32 :: (p.1 ++ (61 :: (p.2 ++ [10]))))
theorem rcd_len (p : Pr) : (rcd p).length = psize p := by
  have h := size_says (3 + p.1.length + p.2.length)
  have e : psize p = size (3 + p.1.length + p.2.length) := rfl
  unfold rcd
  simp only [List.length_append, List.length_cons, List.length_nil, dec_len]
  rw [e]
  omega
/-- the number that bytes begin with, and how many digits it has -/
def longF (b : B) : Nat × Nat :=
  if (b.takeWhile isD).length = 0 ∨ 4 < (b.takeWhile isD).length ∨ (b.takeWhile isD).head? = some 48 ∨ b[(b.takeWhile isD).length]? ≠ some 32 then (0, 0)
  else (val (b.takeWhile isD), (b.takeWhile isD).length)
/-- the record that bytes begin with, its length, what is wrong -/
def oneF (b : B) : Pr × Nat × Nat :=
  let n := (longF b).1
  let d := (longF b).2
  if d = 0 ∨ b.length < n ∨ b[n - 1]? ≠ some 10 then (([], []), 0, 90)
  else
    let body := (b.take (n - 1)).drop (d + 1)
    let k := body.takeWhile (fun c => c != 61)
    if k.length = body.length then (([], []), 0, 90)
    else
      let p : Pr := (k, body.drop (k.length + 1))
      if fits p ≠ 0 then (([], []), 0, fits p)
      else if psize p ≠ n then (([], []), 0, 90)
      else (p, n, 0)
theorem fits_ok {p : Pr} (h : fits p = 0) : keyF p.1 = true ∧ p.2.length ≤ 1024 := by
  unfold fits at h
  split at h
  · cases h
  · split at h
    · cases h
    · rename_i h1 h2; exact ⟨by simpa using h1, by omega⟩
theorem key_ok {k : B} (h : keyF k = true) : (∀ c ∈ k, (c != 61) = true) ∧ 1 ≤ k.length ∧ k.length ≤ 32 := by
  unfold keyF at h
  simp only [Bool.and_eq_true, decide_eq_true_eq, List.all_eq_true] at h
  exact ⟨fun c hc => (h.1.1 c hc).2, h.1.2, h.2⟩
theorem psize_le {p : Pr} (h : fits p = 0) : psize p ≤ 1064 := by
  obtain ⟨h1, h2⟩ := fits_ok h
  obtain ⟨_, h3, h4⟩ := key_ok h1
  have e : psize p = size (3 + p.1.length + p.2.length) := rfl
  have hd := dl_mono 1059 (3 + p.1.length + p.2.length) (by omega)
  have h5 : dl 1059 = 4 := by decide +kernel
  rw [e]; unfold size
  split <;> omega
end Px
end Go.Proofs.YtldkhbkgmiicbabGreatDoor

/- Lists of records: put and got, there and back (code-free). -/
namespace Go.Proofs.YtldkhbkgmiicbabGreatDoor
open Go.RowKit Go.Deep
set_option linter.unusedVariables false
set_option linter.unusedSimpArgs false

namespace Px
/-- does a key stand behind the one ahead? -/
def behind : Option B → B → Bool
  | none, _ => true
  | some q, k => Nm.less q k
/-- what is wrong with a list, and where -/
def putE : Option B → List Pr → Nat → Nat × Nat
  | _, [], _ => (0, 0)
  | o, p :: l, i => if fits p ≠ 0 then (i, fits p) else if behind o p.1 = false then (i, 92) else putE (some p.1) l (i + 1)
/-- the records of a list -/
def all9 : List Pr → B
  | [] => []
  | p :: l => rcd p ++ all9 l
theorem all9_append : ∀ (a b : List Pr), all9 (a ++ b) = all9 a ++ all9 b
  | [], b => rfl
  | p :: a, b => by rw [List.cons_append, all9, all9, all9_append a b, List.append_assoc]
/-- Put's answer -/
def putF (l : List Pr) : B × Nat × Nat := if 64 < l.length then ([], 64, 3) else if (putE none l 0).2 ≠ 0 then ([], putE none l 0) else (all9 l, 0, 0)
/-- Get's answer, from a place on, so many pairs behind -/
def getF (b : B) (i : Nat) (out : List Pr) : List Pr × Nat × Nat :=
  if hb : b = [] then (out, 0, 0)
  else if out.length = 64 then ([], i, 3)
  else if (oneF b).2.2 ≠ 0 then ([], i, (oneF b).2.2)
  else if behind (out.getLast?.map (·.1)) (oneF b).1.1 = false then ([], i, 92)
  else if (oneF b).2.1 = 0 then ([], i, 90)
  else getF (b.drop (oneF b).2.1) (i + (oneF b).2.1) (out ++ [(oneF b).1])
termination_by b.length
decreasing_by
  rw [List.length_drop]
  have := List.length_pos_iff.2 hb
  omega
theorem putE_ok : ∀ (l : List Pr) (o : Option B) (i : Nat), (putE o l i).2 = 0 ↔ ((∀ p ∈ l, fits p = 0) ∧ Srt l ∧ ∀ p ∈ l, behind o p.1 = true)
  | [], o, i => by simp [putE, Srt]
  | p :: l, o, i => by
    unfold putE
    by_cases h1 : fits p = 0
    · rw [if_neg (by simp [h1])]
      cases h2 : behind o p.1 with
      | false =>
        rw [if_pos rfl]
        constructor
        · intro h; cases h
        · rintro ⟨_, _, h⟩; rw [h p List.mem_cons_self] at h2; cases h2
      | true =>
        rw [if_neg (by simp), putE_ok l (some p.1) (i + 1)]
        constructor
        · rintro ⟨a, b, c⟩
          refine ⟨fun x hx => ?_, List.pairwise_cons.2 ⟨c, b⟩, fun x hx => ?_⟩
          · rcases List.mem_cons.1 hx with rfl | hx
            · exact h1
            · exact a x hx
          · rcases List.mem_cons.1 hx with rfl | hx
            · exact h2
            · have := c x hx
              cases o with
              | none => rfl
              | some q => exact Nm.less_trans _ _ _ h2 this
        · rintro ⟨a, b, c⟩
          exact ⟨fun x hx => a x (List.mem_cons_of_mem _ hx), b.tail, (List.pairwise_cons.1 b).1⟩
    · rw [if_pos h1]
      constructor
      · intro h; exact absurd h h1
      · rintro ⟨h, _⟩; exact absurd (h p List.mem_cons_self) h1
theorem put_ok (l : List Pr) : (putF l).2.2 = 0 ↔ (l.length ≤ 64 ∧ (∀ p ∈ l, fits p = 0) ∧ Srt l) := by
  have h := putE_ok l none 0
  unfold putF
  by_cases h1 : 64 < l.length
  · rw [if_pos h1]
    constructor
    · intro h; cases h
    · rintro ⟨h2, _⟩; omega
  · rw [if_neg h1]
    by_cases h2 : (putE none l 0).2 = 0
    · rw [if_neg (by simp [h2])]
      have := h.1 h2
      exact ⟨fun _ => ⟨by omega, this.1, this.2.1⟩, fun _ => rfl⟩
    · rw [if_pos h2]
      constructor
      · intro e; exact absurd e h2
      · rintro ⟨_, a, b⟩; exact absurd (h.2 ⟨a, b, fun _ _ => rfl⟩) h2
theorem put_all {l : List Pr} (h : l.length ≤ 64 ∧ (∀ p ∈ l, fits p = 0) ∧ Srt l) : putF l = (all9 l, 0, 0) := by
  have h2 := (putE_ok l none 0).2 ⟨h.2.1, h.2.2, fun _ _ => rfl⟩
  unfold putF
  rw [if_neg (by omega), if_neg (by simp [h2])]
end Px
end Go.Proofs.YtldkhbkgmiicbabGreatDoor

/- The document's own Key (of tabularyref09). -/
namespace Go.Proofs.YtldkhbkgmiicbabGreatDoor
open Go.RowKit Go.Deep
set_option linter.unusedVariables false
set_option linter.unusedSimpArgs false

namespace Px
def badB (c : UInt8) : Bool := c == 0 || c == 10 || c == 61
end Px

end Go.Proofs.YtldkhbkgmiicbabGreatDoor

/- A text's bytes as a new row: '[]byte(s)'. -/
namespace Go.Proofs.YtldkhbkgmiicbabGreatDoor
open Go.RowKit Go.Deep
set_option linter.unusedVariables false
set_option linter.unusedSimpArgs false

namespace Px
/-- a row of these bytes -/
def rowF (l : B) (i : Nat) : Int := ((l.getD i 0).toNat : Int)
theorem rowF_bd (l : B) (i : Nat) : 0 ≤ rowF l i ∧ rowF l i < 256 := by
  unfold rowF
  have := (l.getD i 0).toNat_lt
  omega
end Px
/-- the room that a text's bytes get, and the world behind '[]byte(s)' -/
def textCap (W : World) (s : ByteArray) : Nat := grownCap W s.size 0 5
def textW (W : World) (s : ByteArray) : World := W.drew.alloc (.cells (bytesRow s (textCap W s)) 5 ((bytesRow s (textCap W s)).size, (bytesRow s (textCap W s)).size + 1))
end Go.Proofs.YtldkhbkgmiicbabGreatDoor
