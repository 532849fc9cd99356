/- Contracts of gf's small functions: what double, Add, turn and Mul answer, said of whole numbers. -/
import Derived.Test.YtpgjkhlffcomgaaRows
import Derived.Test.YtpgjkhlffcomgaaMath
import Derived.WalkKit
import Derived.WalkSpells
import Derived.WalkLawsBesides
namespace Go.Proofs.Ytpgjkhlffcomgaa
open Go.RowKit

theorem ret_int {k : IntKind} {a b : Int} (h : a = b) : Ending.returned (.int k a) = .returned (.int k b) := by rw [h]

def addI (a b : Int) : Int := ((a.toNat ^^^ b.toNat : Nat) : Int)
def dblI (a : Int) : Int := ((Gf.dbl a.toNat : Nat) : Int)
def mulUpI (a b : Int) (k : Nat) : Int := ((Gf.mulUp a.toNat b.toNat k : Nat) : Int)
def mulI (a b : Int) : Int := ((Gf.mul a.toNat b.toNat : Nat) : Int)
def expI (n : Int) : Int := ((Gf.exp (n % 255).toNat : Nat) : Int)
def lgI (a : Int) : Int := ((Gf.lg a.toNat : Nat) : Int)

theorem addI_bd (a b : Int) (a1 : a < 256) (b1 : b < 256) : 0 ≤ addI a b ∧ addI a b < 256 := by
  have := Gf.xor_lt a.toNat b.toNat (by omega) (by omega)
  unfold addI; omega
theorem dblI_bd (a : Int) (a1 : a < 256) : 0 ≤ dblI a ∧ dblI a < 256 := by
  have := Gf.dbl_lt a.toNat (by omega)
  unfold dblI; omega
theorem mulI_bd (a b : Int) (a1 : a < 256) : 0 ≤ mulI a b ∧ mulI a b < 256 := by
  have := Gf.mul_lt a.toNat b.toNat (by omega)
  unfold mulI; omega
theorem mulUpI_bd (a b : Int) (k : Nat) (a1 : a < 256) : 0 ≤ mulUpI a b k ∧ mulUpI a b k < 256 := by
  have := Gf.mulUp_lt a.toNat b.toNat (by omega) k
  unfold mulUpI; omega
theorem expI_bd (n : Int) : 0 ≤ expI n ∧ expI n < 256 := by
  have := Gf.exp_lt (n % 255).toNat
  unfold expI; omega

theorem add_any (a b : Int) (a0 : 0 ≤ a) (a1 : a < 256) (b0 : 0 ≤ b) (b1 : b < 256) (w : World) :
    Calls Try.prog 31 #[.int .u8 a, .int .u8 b] w fun e w' => e = .returned (.int .u8 (addI a b)) ∧ w' = w := by
  go_enter Try.func31, Try.ntmps31
  go_wp2
  go_ret
  exact ⟨ret_int (u8_xor a b a0 a1 b0 b1), rfl⟩

theorem dbl_hi (a : Int) (h0 : 0 ≤ a) (h1 : a < 256) (h : (a * 2 / 256 == 1) = true) : bits .xor .u16 (a * 2) 285 % 256 = dblI a := by
  rw [u16_xor (a * 2) 285 (by omega) (by omega) (by decide) (by decide)]
  unfold dblI
  have h' : a * 2 / 256 = 1 := by simpa using h
  have hb : Nat.blt a.toNat 128 = false := by rw [Bool.eq_false_iff]; intro hc; simp [Nat.blt_eq] at hc; omega
  have hd := Gf.dbl_lt a.toNat (by omega)
  rw [Gf.dbl_eq, hb] at hd ⊢
  have e : (a * 2).toNat = 2 * a.toNat := by omega
  rw [e]
  show ((2 * a.toNat ^^^ 285 : Nat) : Int) % 256 = ((2 * a.toNat ^^^ 285 : Nat) : Int)
  have hd' : (2 * a.toNat ^^^ 285) < 256 := hd
  omega

theorem dbl_lo (a : Int) (h0 : 0 ≤ a) (h1 : a < 256) (h : (a * 2 / 256 == 1) = false) : a * 2 % 256 = dblI a := by
  unfold dblI
  have h' : ¬ a * 2 / 256 = 1 := by simpa using h
  have hb : Nat.blt a.toNat 128 = true := by simp [Nat.blt_eq]; omega
  rw [Gf.dbl_eq, hb]
  show a * 2 % 256 = ((2 * a.toNat : Nat) : Int)
  omega

theorem dbl_any (a : Int) (h0 : 0 ≤ a) (h1 : a < 256) (w : World) :
    Calls Try.prog 41 #[.int .u8 a] w fun e w' => e = .returned (.int .u8 (dblI a)) ∧ w' = w := by
  go_enter Try.func41, Try.ntmps41
  go_wp2
  all_goals go_ret
  · exact ⟨ret_int (dbl_hi a h0 h1 ‹_›), rfl⟩
  · exact ⟨ret_int (dbl_lo a h0 h1 ‹_›), rfl⟩

theorem turn_eq (n : Int) : (n.tmod 255 + 255) % 255 = n % 255 := by
  have h2 : n.tmod 255 = n % 255 ∨ n.tmod 255 = n % 255 - 255 := by
    rw [Int.tmod_eq_emod]
    split <;> omega
  omega

theorem turn_any (n : Int) (w : World) :
    Calls Try.prog 52 #[.int .i64 n] w fun e w' => e = .returned (.int .i64 (n % 255)) ∧ w' = w := by
  have hlo : -255 < n.tmod 255 := by have := Int.lt_tmod_of_pos n (b := 255) (by decide); omega
  have hhi : n.tmod 255 < 255 := Int.tmod_lt_of_pos n (by decide)
  go_enter Try.func52, Try.ntmps52
  go_wp2
  go_ret
  exact ⟨ret_int (turn_eq n), rfl⟩

theorem bit_eq (b : Int) (k : Nat) (b0 : 0 ≤ b) (b1 : b < 256) : (bits .and .u8 (b / 2 ^ (7 - k)) 1 == 1) = Nat.beq (b.toNat / 2 ^ (7 - k) % 2) 1 := by
  obtain ⟨n, rfl⟩ : ∃ n : Nat, b = n := ⟨b.toNat, by omega⟩
  have e : ((n : Int) / 2 ^ (7 - k)) = ((n / 2 ^ (7 - k) : Nat) : Int) := by simp
  have hle : n / 2 ^ (7 - k) ≤ n := Nat.div_le_self _ _
  rw [e, show (1 : Int) = ((1 : Nat) : Int) from rfl, u8_and_nat _ _ (by omega) (by decide), Nat.and_one_is_mod]
  show (((n / 2 ^ (7 - k) % 2 : Nat) : Int) == ((1 : Nat) : Int)) = Nat.beq (n / 2 ^ (7 - k) % 2) 1
  rcases Gf.bit01 n (7 - k) with h | h <;> rw [h] <;> rfl

theorem up_yes (a b : Int) (k : Nat) (b0 : 0 ≤ b) (b1 : b < 256) (h : (bits .and .u8 (b / 2 ^ (7 - k)) 1 == 1) = true) : addI (dblI (mulUpI a b k)) a = mulUpI a b (k + 1) := by
  rw [bit_eq b k b0 b1] at h
  unfold addI dblI mulUpI
  rw [Gf.mulUp, h]
  rfl

theorem up_no (a b : Int) (k : Nat) (b0 : 0 ≤ b) (b1 : b < 256) (h : (bits .and .u8 (b / 2 ^ (7 - k)) 1 == 1) = false) : dblI (mulUpI a b k) = mulUpI a b (k + 1) := by
  rw [bit_eq b k b0 b1] at h
  unfold dblI mulUpI
  rw [Gf.mulUp, h]
  rfl

theorem val_int {k : IntKind} {a b : Int} (h : a = b) : Value.int k a = .int k b := by rw [h]

theorem mul_any (a b : Int) (a0 : 0 ≤ a) (a1 : a < 256) (b0 : 0 ≤ b) (b1 : b < 256) (w : World) :
    Calls Try.prog 32 #[.int .u8 a, .int .u8 b] w fun e w' => e = .returned (.int .u8 (mulI a b)) ∧ w' = w := by
  go_enter Try.func32, Try.ntmps32
  go_wp2
  go_loop [5, 7] (fun p i => ∃ k : Nat, k ≤ 8 ∧ i = .int .i64 k ∧ p = .int .u8 (mulUpI a b k)) (fun _ i => 8 - (intOf i).toNat)
  case atStart => exact ⟨0, Nat.zero_le _, rfl, rfl⟩
  case round =>
    obtain ⟨k, hk, rfl, rfl⟩ := hrel
    have hp := mulUpI_bd a b k a1
    have hd := dblI_bd (mulUpI a b k) hp.2
    by_cases hlt : k < 8
    · go_wp2_with (first | (go_at_call 41; refine (dbl_any _ (by omega) (by omega) _).mono ?_; rintro e w' ⟨rfl, rfl⟩) | (go_at_call 31; refine (add_any _ _ (by omega) (by omega) (by omega) (by omega) _).mono ?_; rintro e w' ⟨rfl, rfl⟩))
      all_goals
        go_round
        case rel => exact ⟨k + 1, by omega, by go_num, val_int (by first | exact up_yes a b k b0 b1 ‹_› | exact up_no a b k b0 b1 ‹_›)⟩
        case measure => simp [intOf]; omega
    · go_wp2
      go_ret
      have e8 : k = 8 := by omega
      subst e8
      exact ⟨rfl, rfl⟩

end Go.Proofs.Ytpgjkhlffcomgaa
