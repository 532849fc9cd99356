/- Rows of bytes in memory, and what the document's own Plus and Dot answer for them. -/
import Derived.Test.YtpgjkhlffcomgabW4
import Derived.Deep.QuietTactic
import Derived.BigQuiet
namespace Go.Proofs.Ytpgjkhlffcomgab
open Go.RowKit

/-- what was there stays -/
abbrev Bw (w w' : World) : Prop := Below w.heap.size w w'

theorem Bw.trans {a b c : World} (h : Bw a b) (k : Bw b c) : Bw a c := Below.trans h (Below.mono k h.size)
theorem Bw.refl (a : World) : Bw a a := Below.refl _ _
theorem Bw.drewN (w : World) : ∀ n, Bw w (w.drewN n)
  | 0 => Below.refl _ _
  | n + 1 => (Bw.drewN w n).drew

/-- a row of L bytes at A -/
def RowAt (w : World) (A : Option Addr) (L : Nat) (f : Nat → Int) : Prop :=
  (L = 0 ∨ ∃ b off, A = some ⟨b, off, none⟩ ∧ ∀ i, i < L → w.cell? ⟨b, off + i, none⟩ = some (.int .u8 (f i))) ∧ ∀ i, 0 ≤ f i ∧ f i < 256

theorem RowAt.keep {w w' : World} {A : Option Addr} {L : Nat} {f : Nat → Int} (h : RowAt w A L f) (g : Bw w w') : RowAt w' A L f := by
  refine ⟨?_, h.2⟩
  rcases h.1 with h0 | ⟨b, off, hA, hc⟩
  · exact Or.inl h0
  · refine Or.inr ⟨b, off, hA, fun i hi => ?_⟩
    have := hc i hi
    rw [g.cell (p := ⟨b, off + i, none⟩) (block_lt_of_cell this)]
    exact this

theorem RowAt.at {w : World} {A : Option Addr} {L : Nat} {f : Nat → Int} (h : RowAt w A L f) {k : Nat} (hk : k < L) : ∃ b off, A = some ⟨b, off, none⟩ ∧ ∀ i, i < L → w.cell? ⟨b, off + i, none⟩ = some (.int .u8 (f i)) := by
  rcases h.1 with h0 | h
  · omega
  · exact h

def twoE (la lb : Nat) : Int := if 131072 < la ∨ 131072 < lb then 2 else if la ≠ lb then 6 else 0

/-- the sum of the first k products -/
def dotU (f g : Nat → Int) : Nat → Int
  | 0 => 0
  | k + 1 => addI (dotU f g k) (mulI (f k) (g k))

theorem dotU_bd (f g : Nat → Int) (hf : ∀ i, 0 ≤ f i ∧ f i < 256) : ∀ k, 0 ≤ dotU f g k ∧ dotU f g k < 256
  | 0 => by show (0 : Int) ≤ 0 ∧ (0 : Int) < 256; decide
  | k + 1 => addI_bd _ _ (dotU_bd f g hf k).2 (mulI_bd _ _ (hf k).2).2

end Go.Proofs.Ytpgjkhlffcomgab
