/- What the document's own Turned makes. -/
import Derived.Test.YtpgjkhlffcomgabM8
namespace Go.Proofs.Ytpgjkhlffcomgab
open Go.RowKit

theorem Wrong.unique {n : Nat} {L : Nat → Nat} {x y : Int} (h : Wrong n L x) (k : Wrong n L y) : x = y := by
  rcases h with ⟨rfl, h⟩ | ⟨rfl, h1, h2, r, hr, hne⟩ | ⟨rfl, h1, h2, h3⟩ <;> rcases k with ⟨rfl, k⟩ | ⟨rfl, k1, k2, s, hs, kne⟩ | ⟨rfl, k1, k2, k3⟩
  · rfl
  · rcases h with h | ⟨r, hr, h⟩
    · omega
    · have := k2 r hr; omega
  · rcases h with h | ⟨r, hr, h⟩
    · omega
    · have := k2 r hr; omega
  · rcases k with h | ⟨r, hr, h⟩
    · omega
    · have := h2 r hr; omega
  · rfl
  · exact absurd (k3 r hr) hne
  · rcases k with h | ⟨r, hr, h⟩
    · omega
    · have := h2 r hr; omega
  · exact absurd (h3 s hs) kne
  · rfl

/-- rows and columns changed about -/
def tz (n : Nat) (Z : Nat → Nat → Int) (j i : Nat) : Int := if i < n then Z i j else 0
theorem tz_at (n : Nat) (Z : Nat → Nat → Int) (j i : Nat) (h : i < n) : tz n Z j i = Z i j := by unfold tz; rw [if_pos h]
theorem tz_bd {n : Nat} {Z : Nat → Nat → Int} (h : ∀ i, i < n → ∀ j, 0 ≤ Z i j ∧ Z i j < 256) (j i : Nat) : 0 ≤ tz n Z j i ∧ tz n Z j i < 256 := by
  unfold tz; split
  · exact h i ‹_› j
  · decide

end Go.Proofs.Ytpgjkhlffcomgab
