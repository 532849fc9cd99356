/- Contracts of the program's isWidth, Most, number and of bytes.Equal, of layer 7. -/
import Derived.Test.YtkoacehgfmflmabO8
import Derived.Laws.BitsAllLaws
import Derived.WalkMore
namespace Go.Proofs.Ytkoacehgfmflmab
open Go.RowKit Go.Deep
set_option linter.unusedVariables false
set_option linter.unusedSimpArgs false

theorem isw_no (z : Int) (h : ¬ (2 ≤ z ∧ z ≤ 12)) (w : World) : Calls Try.prog 31 #[.int .i64 z] w fun e w' => e = .returned (.bool false) ∧ w' = w := by
  by_cases h1 : 2 ≤ z
  · have h2 : ¬ z ≤ 12 := fun h2 => h ⟨h1, h2⟩
    go_enter Try.func31, Try.ntmps31
    go_wp2
    go_ret
    exact ⟨rfl, rfl⟩
  · go_enter Try.func31, Try.ntmps31
    go_wp2
    go_ret
    exact ⟨rfl, rfl⟩
theorem isw_yes (z : Int) (h1 : 2 ≤ z) (h2 : z ≤ 12) (w : World) : Calls Try.prog 31 #[.int .i64 z] w fun e w' => e = .returned (.bool true) ∧ w' = w := by
  go_enter Try.func31, Try.ntmps31
  go_wp2
  go_ret
  exact ⟨rfl, rfl⟩
theorem most_no (z : Int) (h : ¬ (2 ≤ z ∧ z ≤ 12)) (w : World) : Calls Try.prog 32 #[.int .i64 z] w fun e w' => e = .returned (.int .i64 (-1)) ∧ w' = w := by
  go_enter Try.func32, Try.ntmps32
  go_wp2_with (go_at_call 31; refine (isw_no z h _).mono ?_; rintro e w' ⟨rfl, hw'⟩; subst w')
  go_ret
  exact ⟨rfl, rfl⟩
theorem most_yes (W : Nat) (h1 : 2 ≤ W) (h2 : W ≤ 12) (w : World) : Calls Try.prog 32 #[.int .i64 (W : Int)] w fun e w' => e = .returned (.int .i64 ((8 : Int) ^ (W - 1) - 1)) ∧ w' = w := by
  have h11 : W = 2 ∨ W = 3 ∨ W = 4 ∨ W = 5 ∨ W = 6 ∨ W = 7 ∨ W = 8 ∨ W = 9 ∨ W = 10 ∨ W = 11 ∨ W = 12 := by omega
  rcases h11 with rfl | rfl | rfl | rfl | rfl | rfl | rfl | rfl | rfl | rfl | rfl
  all_goals
    go_enter Try.func32, Try.ntmps32
    go_wp2_with (go_at_call 31; refine (isw_yes _ (by decide) (by decide) _).mono ?_; rintro e w' ⟨rfl, hw'⟩; subst w')
    go_ret
    exact ⟨rfl, rfl⟩
theorem equal7_any (A B : Option Addr) (n m ca cb : Nat) (f g : Nat → Int) (w : World) (ha : RowAt w A n f) (hb : RowAt w B m g) :
    Calls Try.prog 36 #[.slice A n ca, .slice B m cb] w fun e w' => ∃ x, e = .returned (.bool x) ∧ (x = true ↔ n = m ∧ ∀ i, i < n → f i = g i) ∧ w' = w := by
  have c1 := conv_row (C := ca) ha
  have c2 := conv_row (C := cb) hb
  have c3 := str_inj (L := n) (M := m) ha.2 hb.2
  go_enter Try.func36, Try.ntmps36
  go_wp2
  go_ret
  exact ⟨_, rfl, by rw [beq_iff_eq]; exact c3, rfl⟩
theorem i64_ofInt (a : Nat) (ha : a < 9223372036854775808) : (BitVec.ofInt 64 (a : Int)).toNat = a := by
  rw [BitVec.toNat_ofInt]; omega
theorem i64_or_nat (a b : Nat) (ha : a < 9223372036854775808) (hb : b < 9223372036854775808) : bits .or .i64 (a : Int) (b : Int) = ((a ||| b : Nat) : Int) := by
  have hlt : a ||| b < 2 ^ 63 := Nat.or_lt_two_pow (by omega) (by omega)
  unfold bits
  show IntKind.i64.wrap ((BitVec.ofInt 64 (a : Int) ||| BitVec.ofInt 64 (b : Int)).toNat : Int) = _
  rw [BitVec.toNat_or, i64_ofInt a ha, i64_ofInt b hb, IntKind.wrap_i64]
  omega
theorem i64_and_nat (a b : Nat) (ha : a < 9223372036854775808) (hb : b < 9223372036854775808) : bits .and .i64 (a : Int) (b : Int) = ((a &&& b : Nat) : Int) := by
  have hlt : a &&& b < 2 ^ 63 := Nat.and_lt_two_pow _ (by omega)
  unfold bits
  show IntKind.i64.wrap ((BitVec.ofInt 64 (a : Int) &&& BitVec.ofInt 64 (b : Int)).toNat : Int) = _
  rw [BitVec.toNat_and, i64_ofInt a ha, i64_ofInt b hb, IntKind.wrap_i64]
  omega
theorem or_digit (k : Nat) (a b : Int) (h0 : 0 ≤ a) (h1 : a * 2 ^ k < 9223372036854775808) (b0 : 0 ≤ b) (hb : b < 2 ^ k) (hk : k ≤ 62) : bits .or .i64 (a * 2 ^ k) b = a * 2 ^ k + b := by
  obtain ⟨x, rfl⟩ := Int.eq_ofNat_of_zero_le h0
  obtain ⟨y, rfl⟩ := Int.eq_ofNat_of_zero_le b0
  have e : (2 : Int) ^ k = ((2 ^ k : Nat) : Int) := by rw [Int.natCast_pow]; rfl
  rw [e] at h1 hb ⊢
  have hk2 : 2 ^ k ≤ 2 ^ 62 := Nat.pow_le_pow_right (by decide) hk
  have h1' : x * 2 ^ k < 9223372036854775808 := by rw [← Int.natCast_mul] at h1; omega
  have hb' : y < 2 ^ k := by omega
  rw [← Int.natCast_mul, i64_or_nat _ _ h1' (by omega), nat_join k _ _ (Nat.mul_mod_left _ _) hb', Int.natCast_add]
theorem or8 (a b : Int) (h0 : 0 ≤ a) (h1 : a * 256 < 9223372036854775808) (b0 : 0 ≤ b) (hb : b < 256) : bits .or .i64 (a * 256) b = a * 256 + b := or_digit 8 a b h0 h1 b0 hb (by decide)
theorem or3 (a b : Int) (h0 : 0 ≤ a) (h1 : a * 8 < 9223372036854775808) (b0 : 0 ≤ b) (hb : b < 8) : bits .or .i64 (a * 8) b = a * 8 + b := or_digit 3 a b h0 h1 b0 hb (by decide)

theorem number_any (A : Option Addr) (L ca : Nat) (f : Nat → Int) (hL : L ≤ 4611686018427387904) (w : World) (hrow : RowAt w A L f) :
    Calls Try.prog 42 #[.slice A L ca] w fun e w' => OwnSays L f e ∧ w' = w := by
  go_enter Try.func42, Try.ntmps42
  go_wp2
  go_loop [2, 3, 4, 9] (fun r x n i => ∃ (k : Nat) (u : Int), k ≤ L ∧ r = .int .i64 0 ∧ x = .bool false ∧ i = .int .i64 (k : Int) ∧ n = .int .i64 u ∧ Hid (u = Oct.num f k) ∧ u ≤ 9223372036854775807) (fun _ _ _ i => L - (intOf i).toNat)
  case atStart => exact ⟨0, 0, Nat.zero_le _, rfl, rfl, rfl, rfl, rfl, by decide⟩
  case round =>
    obtain ⟨k, u, hk, rfl, rfl, rfl, rfl, hu, hum⟩ := hrel
    have u0 : 0 ≤ u := by rw [hu.out]; exact Oct.num_nonneg hrow.2 k
    have k0 : (0 : Int) ≤ (k : Int) := Int.natCast_nonneg _
    by_cases hlt : k < L
    · obtain ⟨b1, o1, rfl, hc1⟩ := hrow.at hlt
      have h1 := hc1 k hlt
      have hb0 := (hrow.2 k).1
      have hb1 := (hrow.2 k).2
      have t1 : (k : Int) < (L : Int) := by omega
      clear hc1
      by_cases hle : u ≤ 36028797018963967
      · have t2 : ¬ 36028797018963967 < u := by omega
        have m2 : u * 256 + f k ≤ 9223372036854775807 := by omega
        have ho : bits .or .i64 (u * 256) (f k) = u * 256 + f k := or8 u (f k) u0 (by omega) hb0 hb1
        go_wp2
        go_round
        case rel => exact ⟨k + 1, u * 256 + f k, by omega, rfl, rfl, by go_num, by go_num, by show _ = _; unfold Oct.num; rw [← hu.out], m2⟩
        case measure => simp [intOf]; omega
      · have t2 : 36028797018963967 < u := by omega
        have hbig : ¬ Oct.num f L ≤ 9223372036854775807 := fun h => by
          have h2 := Oct.num_mono hrow.2 (k + 1) L (by omega)
          have h3 : Oct.num f (k + 1) = Oct.num f k * 256 + f k := rfl
          rw [← hu.out] at h3
          omega
        go_wp2
        go_ret2
        exact ⟨⟨0, false, rfl, fun h => absurd h (by first | exact hbig | exact Int.not_le.2 hbig), fun _ => ⟨rfl, rfl⟩⟩, rfl⟩
    · have ek : k = L := by omega
      subst ek
      go_wp2
      go_ret2
      exact ⟨⟨u, true, rfl, fun _ => ⟨hu.out, rfl⟩, fun h => absurd (hu.out ▸ hum) h⟩, rfl⟩
end Go.Proofs.Ytkoacehgfmflmab
