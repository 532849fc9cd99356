/- Contracts of crc's own small functions and of the document's: moved, take, parts. -/
import Derived.Test.YtcnafcoifhdigaaK0
import Derived.Test.YtcnafcoifhdigaaKm
namespace Go.Proofs.Ytcnafcoifhdigaa
open Go.RowKit

theorem steps_succ (k x : Nat) : Crc.steps (k + 1) x = Crc.step (Crc.steps k x) := Crc.steps_add k 1 x
theorem and_one (x : Nat) (hx : x < 4294967296) : bits .and .u32 (x : Int) 1 = ((x % 2 : Nat) : Int) := by
  rw [show (1 : Int) = ((1 : Nat) : Int) from rfl, u32_and_nat x 1 hx (by decide), Nat.and_one_is_mod]
theorem step_odd {x : Nat} (hx : x < 4294967296) (h : x % 2 = 1) : (bits .and .u32 (x : Int) 1 == 1) = true ∧ bits .xor .u32 ((x : Int) / 2) 2197175160 = ((Crc.step x : Nat) : Int) := by
  refine ⟨by rw [and_one x hx, h]; rfl, ?_⟩
  rw [show ((x : Int) / 2) = ((x / 2 : Nat) : Int) by omega, show (2197175160 : Int) = ((Crc.P : Nat) : Int) from rfl, u32_xor_nat _ _ (by omega) (by decide)]
  unfold Crc.step; rw [h]; rfl
theorem step_even {x : Nat} (hx : x < 4294967296) (h : ¬ x % 2 = 1) : (bits .and .u32 (x : Int) 1 == 1) = false ∧ (x : Int) / 2 = ((Crc.step x : Nat) : Int) := by
  have h' : x % 2 = 0 := by omega
  refine ⟨by rw [and_one x hx, h']; rfl, ?_⟩
  unfold Crc.step; rw [h']
  show (x : Int) / 2 = ((x / 2 : Nat) : Int)
  omega

theorem moved_any (x : Nat) (hx : x < 4294967296) (w : World) :
    Calls Try.prog 35 #[.int .u32 (x : Int)] w fun e w' => e = .returned (.int .u32 (Crc.mv x : Nat)) ∧ w' = w := by
  go_enter Try.func35, Try.ntmps35
  go_wp2
  go_loop [0, 4] (fun r i => ∃ k : Nat, k ≤ 8 ∧ i = .int .i64 k ∧ r = .int .u32 (Crc.steps k x : Nat)) (fun _ i => 8 - (intOf i).toNat)
  case atStart => exact ⟨0, Nat.zero_le _, rfl, rfl⟩
  case round =>
    obtain ⟨k, hk, rfl, rfl⟩ := hrel
    by_cases hlt : k < 8
    · have hb := Crc.steps_lt k hx
      by_cases hodd : Crc.steps k x % 2 = 1
      · obtain ⟨e1, e2⟩ := step_odd hb hodd
        go_wp2
        go_round
        case rel => exact ⟨k + 1, by omega, by go_num, by rw [steps_succ, ← e2]⟩
        case measure => simp [intOf]; omega
      · obtain ⟨e1, e2⟩ := step_even hb hodd
        go_wp2
        go_round
        case rel => exact ⟨k + 1, by omega, by go_num, by rw [steps_succ, ← e2]⟩
        case measure => simp [intOf]; omega
    · have ek : k = 8 := by omega
      subst ek
      go_wp2
      go_ret
      exact ⟨rfl, rfl⟩

theorem take_any (x c : Nat) (hx : x < 4294967296) (hc : c < 256) (w : World) :
    Calls Try.prog 32 #[.int .u32 (x : Int), .int .u8 (c : Int)] w fun e w' => e = .returned (.int .u32 (Crc.mv (x ^^^ c) : Nat)) ∧ w' = w := by
  have hxc : bits .xor .u32 (x : Int) (c : Int) = ((x ^^^ c : Nat) : Int) := u32_xor_nat x c hx (by omega)
  have hxl : x ^^^ c < 4294967296 := Crc.xor_lt32 hx (by omega)
  go_enter Try.func32, Try.ntmps32
  go_wp2
  go_loop [0, 5] (fun r i => ∃ k : Nat, k ≤ 8 ∧ i = .int .i64 k ∧ r = .int .u32 (Crc.steps k (x ^^^ c) : Nat)) (fun _ i => 8 - (intOf i).toNat)
  case atStart => exact ⟨0, Nat.zero_le _, rfl, rfl⟩
  case round =>
    obtain ⟨k, hk, rfl, rfl⟩ := hrel
    by_cases hlt : k < 8
    · have hb := Crc.steps_lt k hxl
      by_cases hodd : Crc.steps k (x ^^^ c) % 2 = 1
      · obtain ⟨e1, e2⟩ := step_odd hb hodd
        go_wp2
        go_round
        case rel => exact ⟨k + 1, by omega, by go_num, by rw [steps_succ, ← e2]⟩
        case measure => simp [intOf]; omega
      · obtain ⟨e1, e2⟩ := step_even hb hodd
        go_wp2
        go_round
        case rel => exact ⟨k + 1, by omega, by go_num, by rw [steps_succ, ← e2]⟩
        case measure => simp [intOf]; omega
    · have ek : k = 8 := by omega
      subst ek
      go_wp2
      go_ret
      exact ⟨rfl, rfl⟩
end Go.Proofs.Ytcnafcoifhdigaa
