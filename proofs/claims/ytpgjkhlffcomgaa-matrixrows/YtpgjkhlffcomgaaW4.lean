/- Contracts of the document's own answers for gf: Mul, Inverse, Exp, Log and Pow by definition; none of them touches memory. -/
import Derived.Test.YtpgjkhlffcomgaaR
namespace Go.Proofs.Ytpgjkhlffcomgaa
open Go.RowKit

theorem i64_xor_nat (a b : Nat) (ha : a < 4611686018427387904) (hb : b < 4611686018427387904) : bits .xor .i64 (a : Int) (b : Int) = ((a ^^^ b : Nat) : Int) := by
  have hx : a ^^^ b < 2 ^ 62 := Nat.xor_lt_two_pow (n := 62) ha hb
  show IntKind.i64.wrap ((BitVec.ofInt 64 (a : Int) ^^^ BitVec.ofInt 64 (b : Int)).toNat) = _
  rw [BitVec.toNat_xor, ofInt_u64 a (by omega), ofInt_u64 b (by omega), IntKind.wrap_i64]
  omega

theorem i64_and1_nat (a : Nat) (ha : a < 4611686018427387904) : bits .and .i64 (a : Int) 1 = ((a % 2 : Nat) : Int) := by
  have := (bits_nat .i64 62 (by decide) (fun n h0 h1 => by rw [IntKind.wrap_i64]; omega) a 1 ha (by decide)).1
  rw [Nat.and_one_is_mod] at this
  exact this

def r1I (a b : Int) (k : Nat) : Int := ((Gf.r1 a.toNat b.toNat k : Nat) : Int)
def r2I (a b : Int) (j : Nat) : Int := ((Gf.r2 (Gf.r1 a.toNat b.toNat 8) j : Nat) : Int)

theorem r1I_bd (a b : Int) (a1 : a < 256) (k : Nat) (hk : k ≤ 8) : 0 ≤ r1I a b k ∧ r1I a b k < 32768 := by
  have := Gf.r1_lt a.toNat b.toNat (by omega) k hk
  unfold r1I; omega
theorem r2I_bd (a b : Int) (a1 : a < 256) (j : Nat) : 0 ≤ r2I a b j ∧ r2I a b j < 32768 := by
  have := Gf.r2_lt _ (Gf.r1_lt a.toNat b.toNat (by omega) 8 (Nat.le_refl _)) j
  unfold r2I; omega
theorem r2I_end (a b : Int) (a1 : a < 256) (b1 : b < 256) : r2I a b 7 = mulI a b := by
  unfold r2I mulI; rw [← Gf.rmul_eq _ _ (by omega) (by omega)]; rfl

theorem bit_i64 (x k : Nat) (hx : x < 4611686018427387904) : (bits .and .i64 ((x : Int) / 2 ^ k) 1 == 1) = Nat.beq (x / 2 ^ k % 2) 1 := by
  have e : ((x : Int) / 2 ^ k) = ((x / 2 ^ k : Nat) : Int) := by simp
  have hle : x / 2 ^ k ≤ x := Nat.div_le_self _ _
  rw [e, i64_and1_nat _ (by omega)]
  rcases Gf.bit01 x k with h | h <;> rw [h] <;> rfl

theorem up1_yes (a b : Int) (k : Nat) (a0 : 0 ≤ a) (a1 : a < 256) (b0 : 0 ≤ b) (b1 : b < 256) (hk : k < 8) (h : (bits .and .i64 (b / 2 ^ k) 1 == 1) = true) : bits .xor .i64 (r1I a b k) (wrap64 (a * 2 ^ k)) = r1I a b (k + 1) := by
  obtain ⟨x, rfl⟩ : ∃ x : Nat, a = x := ⟨a.toNat, by omega⟩
  obtain ⟨y, rfl⟩ : ∃ y : Nat, b = y := ⟨b.toNat, by omega⟩
  have hp : 2 ^ k ≤ 2 ^ 7 := Nat.pow_le_pow_right (by decide) (by omega)
  have hm : x * 2 ^ k ≤ 255 * 2 ^ 7 := Nat.mul_le_mul (by omega) hp
  have e : (x : Int) * 2 ^ k = ((x * 2 ^ k : Nat) : Int) := by simp
  have hr := Gf.r1_lt x y (by omega) k (by omega)
  rw [bit_i64 y k (by omega)] at h
  rw [e, IntWalk.wrap64_in _ ⟨by omega, by omega⟩]
  unfold r1I
  rw [Int.toNat_natCast, Int.toNat_natCast, i64_xor_nat _ _ (by omega) (by omega), Gf.r1, h]
  rfl

theorem up1_no (a b : Int) (k : Nat) (b0 : 0 ≤ b) (b1 : b < 256) (h : (bits .and .i64 (b / 2 ^ k) 1 == 1) = false) : r1I a b k = r1I a b (k + 1) := by
  obtain ⟨y, rfl⟩ : ∃ y : Nat, b = y := ⟨b.toNat, by omega⟩
  rw [bit_i64 y k (by omega)] at h
  unfold r1I
  rw [Int.toNat_natCast, Gf.r1, h]
  rfl

theorem up2_yes (a b : Int) (j : Nat) (a1 : a < 256) (hj : j < 7) (h : (bits .and .i64 (r2I a b j / 2 ^ (14 - j)) 1 == 1) = true) : bits .xor .i64 (r2I a b j) (wrap64 (285 * 2 ^ (14 - j - 8))) = r2I a b (j + 1) := by
  have hr := Gf.r2_lt _ (Gf.r1_lt a.toNat b.toNat (by omega) 8 (Nat.le_refl _)) j
  have hq : 2 ^ (6 - j) ≤ 2 ^ 6 := Nat.pow_le_pow_right (by decide) (by omega)
  have e : (285 : Int) * 2 ^ (14 - j - 8) = ((285 * 2 ^ (6 - j) : Nat) : Int) := by rw [show 14 - j - 8 = 6 - j by omega]; simp
  unfold r2I at h ⊢
  rw [bit_i64 _ _ (by omega)] at h
  rw [e, IntWalk.wrap64_in _ ⟨by omega, by omega⟩, i64_xor_nat _ _ (by omega) (by omega), Gf.r2_succ, h]
  rfl

theorem up2_no (a b : Int) (j : Nat) (a1 : a < 256) (h : (bits .and .i64 (r2I a b j / 2 ^ (14 - j)) 1 == 1) = false) : r2I a b j = r2I a b (j + 1) := by
  have hr := Gf.r2_lt _ (Gf.r1_lt a.toNat b.toNat (by omega) 8 (Nat.le_refl _)) j
  unfold r2I at h ⊢
  rw [bit_i64 _ _ (by omega)] at h
  rw [Gf.r2_succ, h]
  rfl

theorem rmul_any (a b : Int) (a0 : 0 ≤ a) (a1 : a < 256) (b0 : 0 ≤ b) (b1 : b < 256) (w : World) :
    Calls Try.prog 34 #[.int .u8 a, .int .u8 b] w fun e w' => e = .returned (.int .u8 (mulI a b)) ∧ w' = w := by
  go_enter Try.func34, Try.ntmps34
  go_wp2
  go_loop [5, 7] (fun p i => ∃ k : Nat, k ≤ 8 ∧ i = .int .i64 k ∧ p = .int .i64 (r1I a b k)) (fun _ i => 8 - (intOf i).toNat)
  case atStart => exact ⟨0, Nat.zero_le _, rfl, rfl⟩
  case round =>
    obtain ⟨k, hk, rfl, rfl⟩ := hrel
    have hp := r1I_bd a b a1 k hk
    by_cases hlt : k < 8
    · go_wp2
      all_goals
        go_round
        case rel => exact ⟨k + 1, by omega, by go_num, val_int (by first | exact up1_yes a b k a0 a1 b0 b1 hlt ‹_› | exact up1_no a b k b0 b1 ‹_›)⟩
        case measure => simp [intOf]; omega
    · have e8 : k = 8 := by omega
      subst e8
      clear hlt hk
      go_wp2
      go_loop [5, 8] (fun p i => ∃ j : Nat, j ≤ 7 ∧ i = .int .i64 (14 - (j : Int)) ∧ p = .int .i64 (r2I a b j)) (fun _ i => (intOf i - 7).toNat)
      case atStart => exact ⟨0, Nat.zero_le _, rfl, rfl⟩
      case round =>
        obtain ⟨j, hj, rfl, rfl⟩ := hrel
        have hq := r2I_bd a b a1 j
        by_cases hlt : j < 7
        · go_wp2
          all_goals
            go_round
            case rel => exact ⟨j + 1, by omega, by go_num, val_int (by first | exact up2_yes a b j a1 hlt ‹_› | exact up2_no a b j a1 ‹_›)⟩
            case measure => simp [intOf]; omega
        · have e8 : j = 7 := by omega
          subst e8
          have hm := r2I_end a b a1 b1
          go_wp2
          go_ret
          exact ⟨ret_int (by have := mulI_bd a b a1; omega), rfl⟩

theorem inv_only (a k : Int) (a0 : 0 ≤ a) (a1 : a < 256) (k0 : 0 ≤ k) (k1 : k < 256) (h : (mulI a k == 1) = true) : k = invR a := by
  have h1 : mulI a k = 1 := by simpa using h
  have ha : a ≠ 0 := by
    intro e; subst e
    have := (mul_zero_iff 0 k (by decide) (by decide) k0 k1).2 (Or.inl rfl)
    omega
  unfold invR; rw [if_neg ha]
  have e1 := inv_mul a (by omega) a1
  have e2 := mul_assoc (invI a) a k (invI_bd a).2 a1
  rw [e1, h1, mul_one _ (invI_bd a).1 (invI_bd a).2, mul_comm k 1 k1 (by decide), mul_one k k0 k1] at e2
  exact e2

theorem inv_none (a : Int) (a0 : 0 ≤ a) (a1 : a < 256) (h : ∀ j : Nat, 1 ≤ j → j < 256 → mulI a (j : Int) ≠ 1) : (0 : Int) = invR a := by
  unfold invR
  by_cases ha : a = 0
  · rw [if_pos ha]
  · exfalso
    have hb := invI_bd a
    have hp := inv_pos a
    have e := inv_mul a (by omega) a1
    rw [mul_comm a (invI a) a1 hb.2] at e
    have := h (invI a).toNat (by omega) (by omega)
    rw [show ((invI a).toNat : Int) = invI a by omega] at this
    exact this e

theorem no_more {a : Int} {k : Nat} (h : Hid (∀ j : Nat, 1 ≤ j → j < k → mulI a (j : Int) ≠ 1)) (hne : (mulI a (k : Int) == 1) = false) : Hid (∀ j : Nat, 1 ≤ j → j < k + 1 → mulI a (j : Int) ≠ 1) := fun j h1 h2 => by
  by_cases e : j = k
  · subst e; simpa using hne
  · exact h j h1 (by omega)

set_option maxRecDepth 100000 in
theorem rinv_any (a : Int) (a0 : 0 ≤ a) (a1 : a < 256) (w : World) :
    Calls Try.prog 45 #[.int .u8 a] w fun e w' => e = .returned (.int .u8 (invR a)) ∧ w' = w := by
  go_enter Try.func45, Try.ntmps45
  go_wp2
  go_loop [3] (fun i => ∃ k : Nat, 1 ≤ k ∧ k ≤ 256 ∧ i = .int .i64 k ∧ Hid (∀ j : Nat, 1 ≤ j → j < k → mulI a (j : Int) ≠ 1)) (fun i => 256 - (intOf i).toNat)
  case atStart => exact ⟨1, by decide, by decide, rfl, fun j h1 h2 => by omega⟩
  case round =>
    obtain ⟨k, hk1, hk, rfl, hno⟩ := hrel
    by_cases hlt : k < 256
    · go_wp2_with (go_at_call 34; refine (rmul_any _ _ (by omega) (by omega) (by omega) (by omega) _).mono ?_; rintro e w' ⟨rfl, rfl⟩)
      · go_ret
        exact ⟨ret_int (inv_only a k a0 a1 (by omega) (by omega) ‹_›), rfl⟩
      · go_round
        case rel => exact ⟨k + 1, by omega, by omega, by go_num, no_more hno ‹(mulI a (k : Int) == 1) = false›⟩
        case measure => simp [intOf]; omega
    · have e8 : k = 256 := by omega
      subst e8
      go_wp2
      go_ret
      exact ⟨ret_int (inv_none a a0 a1 hno.out), rfl⟩

theorem expI_one : expI 1 = 2 := by decide +kernel
theorem exp_step (k : Nat) : mulI (expI (k : Int)) 2 = expI ((k + 1 : Nat) : Int) := by
  rw [← expI_one, expI_add]; rfl

def rlgI (a : Int) : Int := if a = 0 then -1 else lgI a

theorem lg_only (a : Int) (k : Nat) (hk : k < 255) (h : (expI (k : Int) == a) = true) : (k : Int) = rlgI a := by
  have h1 : expI (k : Int) = a := by simpa using h
  have hp := expI_pos (k : Int)
  unfold rlgI; rw [if_neg (by omega), ← h1, lg_expI]; omega
theorem lg_none (a : Int) (a0 : 0 ≤ a) (a1 : a < 256) (h : ∀ j : Nat, j < 255 → expI (j : Int) ≠ a) : (-1 : Int) = rlgI a := by
  unfold rlgI
  by_cases ha : a = 0
  · rw [if_pos ha]
  · exfalso
    have hb := lgI_bd a (by omega) a1
    have := h (lgI a).toNat (by omega)
    rw [show ((lgI a).toNat : Int) = lgI a by omega] at this
    exact this (exp_lgI a (by omega) a1)

theorem lg_more {a : Int} {k : Nat} (h : Hid (∀ j : Nat, j < k → expI (j : Int) ≠ a)) (hne : (expI (k : Int) == a) = false) : Hid (∀ j : Nat, j < k + 1 → expI (j : Int) ≠ a) := fun j h2 => by
  by_cases e : j = k
  · subst e; simpa using hne
  · exact h j (by omega)

def powU (a : Int) : Nat → Int
  | 0 => 1
  | k + 1 => mulI (powU a k) a

theorem powU_bd (a : Int) : ∀ k, 0 ≤ powU a k ∧ powU a k < 256
  | 0 => by show (0 : Int) ≤ 1 ∧ (1 : Int) < 256; decide
  | k + 1 => mulI_bd _ _ (powU_bd a k).2

theorem powU_eq (a : Int) (a0 : 0 < a) (a1 : a < 256) : ∀ k : Nat, powU a k = expI (lgI a * (k : Int))
  | 0 => by rw [show ((0 : Nat) : Int) = 0 from rfl, Int.mul_zero, expI_zero]; rfl
  | k + 1 => by
    have e : mulI (powU a k) a = mulI (powU a k) (expI (lgI a)) := by rw [exp_lgI a a0 a1]
    show mulI (powU a k) a = _
    rw [e, powU_eq a a0 a1 k, expI_add]
    exact congrArg expI (by rw [show ((k + 1 : Nat) : Int) = (k : Int) + 1 from rfl, Int.mul_add, Int.mul_one])

end Go.Proofs.Ytpgjkhlffcomgaa
