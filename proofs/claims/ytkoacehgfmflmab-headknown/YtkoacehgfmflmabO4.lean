/- Contracts of the document's own plain and Put, of layer 7. -/
import Derived.Test.YtkoacehgfmflmabO2
namespace Go.Proofs.Ytkoacehgfmflmab
open Go.RowKit Go.Deep
set_option linter.unusedVariables false
set_option linter.unusedSimpArgs false

namespace Oct
/-- the plain form of n in W bytes -/
def plainF (n W i : Nat) : Nat := if i + 1 < W then 48 + n / 8 ^ (W - 2 - i) % 8 else 0
/-- the wide form of n in W bytes -/
def wideF (n W i : Nat) : Nat := if i = 0 then 128 else n / 256 ^ (W - 1 - i) % 256
/-- the form of n in W bytes -/
def formF (n W i : Nat) : Int := if n < 8 ^ (W - 1) then ((plainF n W i : Nat) : Int) else ((wideF n W i : Nat) : Int)
theorem plainF_lt (n W i : Nat) : plainF n W i < 256 := by unfold plainF; split <;> omega
theorem wideF_lt (n W i : Nat) : wideF n W i < 256 := by unfold wideF; split; decide; exact Nat.mod_lt _ (by decide)
theorem formF_bd (n W i : Nat) : 0 ≤ formF n W i ∧ formF n W i < 256 := by
  have a := plainF_lt n W i
  have b := wideF_lt n W i
  unfold formF; split <;> omega
end Oct

theorem nat_pow8_le {k : Nat} (h : k ≤ 11) : 8 ^ k ≤ 8589934592 := by
  have h12 : k = 0 ∨ k = 1 ∨ k = 2 ∨ k = 3 ∨ k = 4 ∨ k = 5 ∨ k = 6 ∨ k = 7 ∨ k = 8 ∨ k = 9 ∨ k = 10 ∨ k = 11 := by omega
  rcases h12 with rfl | rfl | rfl | rfl | rfl | rfl | rfl | rfl | rfl | rfl | rfl | rfl <;> decide
theorem pow8_cast (k : Nat) : (8 : Int) ^ k = ((8 ^ k : Nat) : Int) := by rw [Int.natCast_pow]; rfl

end Go.Proofs.Ytkoacehgfmflmab
