/- Contracts of the program's own turning, and of the closure that it makes. -/
import Derived.Test.YtcpapaceggnaoaaDoorE0
namespace Go.Proofs.YtcpapaceggnaoaaDoor
open Go.RowKit Go.Deep

/-- a function that turns the word x round, which stands in block g -/
abbrev turnFn (g : Nat) : Value := .func (.func 30) #[] #[.pointer (some ⟨g, 0, none⟩)]

theorem turning_any (x : Int) (w : World) :
    Calls Tryd.prog 29 #[.int .u32 x] w fun e w' => e = .returned (turnFn w.heap.size) ∧ w' = w.alloc (.cells #[.int .u32 x] 42) := by
  go_enter Tryd.func29, Tryd.ntmps29
  go_wp2
  go_ret
  exact ⟨rfl, rfl⟩

theorem turn_any (x n g : Nat) (hx : x < 4294967296) (h1 : 1 ≤ n) (h2 : n < 32) (w : World) (hc : w.cell? ⟨g, 0, none⟩ = some (.int .u32 (x : Int))) :
    Calls Tryd.prog 30 #[.int .u64 (n : Int), .pointer (some ⟨g, 0, none⟩)] w fun e w' => e = .returned (.int .u32 (Sha.rot n x : Nat)) ∧ w' = w := by
  have n0 : (0 : Int) ≤ (n : Int) := Int.natCast_nonneg _
  have n1 : (n : Int) < 32 := by omega
  have m0 : (0 : Int) ≤ 32 - (n : Int) := by omega
  go_enter Tryd.func30, Tryd.ntmps30
  go_wp2
  go_ret
  refine ⟨ret_int ?_, rfl⟩
  have e := rot_or x n hx
  rw [Int.natCast_ediv, Int.natCast_emod, Int.natCast_mul, Int.natCast_pow, Int.natCast_pow] at e
  exact e

theorem turn_at (w : World) (g x : Nat) (z : Int) (hc : w.cell? ⟨g, 0, none⟩ = some (.int .u32 (x : Int))) (hx : x < 4294967296) (h1 : 1 ≤ z) (h2 : z < 32) :
    Calls Tryd.prog 30 #[.int .u64 z, .pointer (some ⟨g, 0, none⟩)] w fun e w' => e = .returned (.int .u32 (Sha.rot z.toNat x : Nat)) ∧ w' = w := by
  have := turn_any x z.toNat g hx (by omega) (by omega) w hc
  rwa [Int.toNat_of_nonneg (by omega)] at this
end Go.Proofs.YtcpapaceggnaoaaDoor
