/- Matrices of bytes in memory, and what is read of them: how many columns, what is wrong with one, whether one is great. -/
import Derived.Test.YtpgjkhlffcomgabM2
namespace Go.Proofs.Ytpgjkhlffcomgab
open Go.RowKit

/-- a matrix of n rows at A: row r lies at R r, its length L r, its room C r, its numbers Z r -/
def MatAt (w : World) (A : Option Addr) (n : Nat) (R : Nat → Option Addr) (L C : Nat → Nat) (Z : Nat → Nat → Int) : Prop :=
  (n = 0 ∨ ∃ b off, A = some ⟨b, off, none⟩ ∧ ∀ r, r < n → w.cell? ⟨b, off + r, none⟩ = some (.slice (R r) (L r) (C r))) ∧ ∀ r, r < n → RowAt w (R r) (L r) (Z r)

theorem MatAt.keep {w w' : World} {A : Option Addr} {n : Nat} {R : Nat → Option Addr} {L C : Nat → Nat} {Z : Nat → Nat → Int} (h : MatAt w A n R L C Z) (g : Bw w w') : MatAt w' A n R L C Z := by
  refine ⟨?_, fun r hr => (h.2 r hr).keep g⟩
  rcases h.1 with h0 | ⟨b, off, hA, hc⟩
  · exact Or.inl h0
  · refine Or.inr ⟨b, off, hA, fun i hi => ?_⟩
    have := hc i hi
    rw [g.cell (p := ⟨b, off + i, none⟩) (block_lt_of_cell this)]
    exact this

theorem MatAt.at {w : World} {A : Option Addr} {n : Nat} {R : Nat → Option Addr} {L C : Nat → Nat} {Z : Nat → Nat → Int} (h : MatAt w A n R L C Z) {k : Nat} (hk : k < n) : ∃ b off, A = some ⟨b, off, none⟩ ∧ ∀ r, r < n → w.cell? ⟨b, off + r, none⟩ = some (.slice (R r) (L r) (C r)) := by
  rcases h.1 with h0 | h
  · omega
  · exact h

def colsI (n : Nat) (L : Nat → Nat) : Int := if n = 0 then 0 else (L 0 : Int)

/-- what the document says is wrong with a matrix -/
def Wrong (n : Nat) (L : Nat → Nat) (e : Int) : Prop :=
  (e = 2 ∧ (32 < n ∨ ∃ r, r < n ∧ 131072 < L r)) ∨ (e = 6 ∧ n ≤ 32 ∧ (∀ r, r < n → L r ≤ 131072) ∧ ∃ r, r < n ∧ L r ≠ L 0) ∨ (e = 0 ∧ n ≤ 32 ∧ (∀ r, r < n → L r ≤ 131072) ∧ ∀ r, r < n → L r = L 0)

/-- how many numbers and rows as far as row k -/
def bulk (L : Nat → Nat) : Nat → Nat
  | 0 => 0
  | k + 1 => bulk L k + 1 + L k

theorem bulk_mono (L : Nat → Nat) (j k : Nat) (h : j ≤ k) : bulk L j ≤ bulk L k := by
  induction k with
  | zero => have : j = 0 := by omega
            subst this; exact Nat.le_refl _
  | succ k ih =>
    by_cases e : j = k + 1
    · subst e; exact Nat.le_refl _
    · have := ih (by omega)
      show bulk L j ≤ bulk L k + 1 + L k
      omega

theorem ret_bool {a b : Bool} (h : a = b) : Ending.returned (.bool a) = .returned (.bool b) := by rw [h]

end Go.Proofs.Ytpgjkhlffcomgab
