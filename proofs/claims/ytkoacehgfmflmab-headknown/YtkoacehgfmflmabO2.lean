/- Contracts of the document's own Field, Most and own, of layer 7. -/
import Derived.Test.YtkoacehgfmflmabO1
namespace Go.Proofs.Ytkoacehgfmflmab
open Go.RowKit Go.Deep
set_option linter.unusedVariables false
set_option linter.unusedSimpArgs false

theorem pow8_le {k : Nat} (h : k ≤ 11) : (8 : Int) ^ k ≤ 8589934592 := by
  have h12 : k = 0 ∨ k = 1 ∨ k = 2 ∨ k = 3 ∨ k = 4 ∨ k = 5 ∨ k = 6 ∨ k = 7 ∨ k = 8 ∨ k = 9 ∨ k = 10 ∨ k = 11 := by omega
  rcases h12 with rfl | rfl | rfl | rfl | rfl | rfl | rfl | rfl | rfl | rfl | rfl | rfl <;> decide
theorem pow8_pos (k : Nat) : (0 : Int) < 8 ^ k := Int.pow_pos (by decide)
/-- what own answers -/
def OwnSays (L : Nat) (f : Nat → Int) (e : Ending) : Prop := ∃ n x, e = .returned (.tuple #[.int .i64 n, .bool x]) ∧ (Oct.num f L ≤ 9223372036854775807 → n = Oct.num f L ∧ x = true) ∧ (¬ Oct.num f L ≤ 9223372036854775807 → n = 0 ∧ x = false)
end Go.Proofs.Ytkoacehgfmflmab
