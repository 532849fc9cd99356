/- Contracts of crc's own small functions and of the document's: moved, take, parts. -/
import Derived.Test.YtjjnbpbbjaabeaaK0
import Derived.Test.YtjjnbpbbjaabeaaKm
namespace Go.Proofs.Ytjjnbpbbjaabeaa
open Go.RowKit

theorem steps_succ (k x : Nat) : Crc.steps (k + 1) x = Crc.step (Crc.steps k x) := Crc.steps_add k 1 x
theorem and_one (x : Nat) (hx : x < 4294967296) : bits .and .u32 (x : Int) 1 = ((x % 2 : Nat) : Int) := by
  rw [show (1 : Int) = ((1 : Nat) : Int) from rfl, u32_and_nat x 1 hx (by decide), Nat.and_one_is_mod]
theorem step_odd {x : Nat} (hx : x < 4294967296) (h : x % 2 = 1) : (bits .and .u32 (x : Int) 1 == 1) = true ∧ bits .xor .u32 ((x : Int) / 2) 2197175160 = ((Crc.step x : Nat) : Int) := by
  refine ⟨by rw [and_one x hx, h]; rfl, ?_⟩
  rw [show ((x : Int) / 2) = ((x / 2 : Nat) : Int) by omega, show (2197175160 : Int) = ((Crc.P : Nat) : Int) from rfl, u32_xor_nat _ _ (by omega) (by decide)]
  unfold Crc.step; rw [h]; rfl
theorem step_even {x : Nat} (hx : x < 4294967296) (h : ¬ x % 2 = 1) : (bits .and .u32 (x : Int) 1 == 1) = false ∧ (x : Int) / 2 = ((Crc.step x : Nat) : Int) := by
  have h' : x % 2 = 0 := by omega
  refine ⟨by rw [and_one x hx, h']; rfl, ?_⟩
  unfold Crc.step; rw [h']
  show (x : Int) / 2 = ((x / 2 : Nat) : Int)
  omega

end Go.Proofs.Ytjjnbpbbjaabeaa
