/- Contracts of the document's own Field, Most and own, of layer 7. -/
import Derived.Test.YtkoacehgfmflmaaO1
namespace Go.Proofs.Ytkoacehgfmflmaa
open Go.RowKit Go.Deep
set_option linter.unusedVariables false
set_option linter.unusedSimpArgs false

theorem field_no (z : Int) (h : ¬ (2 ≤ z ∧ z ≤ 12)) (w : World) : Calls Try.prog 53 #[.int .i64 z] w fun e w' => e = .returned (.bool false) ∧ w' = w := by
  by_cases h1 : 2 ≤ z
  · have h2 : ¬ z ≤ 12 := fun h2 => h ⟨h1, h2⟩
    go_enter Try.func53, Try.ntmps53
    go_wp2
    go_ret
    exact ⟨rfl, rfl⟩
  · go_enter Try.func53, Try.ntmps53
    go_wp2
    go_ret
    exact ⟨rfl, rfl⟩
theorem field_yes (z : Int) (h1 : 2 ≤ z) (h2 : z ≤ 12) (w : World) : Calls Try.prog 53 #[.int .i64 z] w fun e w' => e = .returned (.bool true) ∧ w' = w := by
  go_enter Try.func53, Try.ntmps53
  go_wp2
  go_ret
  exact ⟨rfl, rfl⟩

theorem rmost_no (z : Int) (h : ¬ (2 ≤ z ∧ z ≤ 12)) (w : World) : Calls Try.prog 55 #[.int .i64 z] w fun e w' => e = .returned (.int .i64 (-1)) ∧ w' = w := by
  go_enter Try.func55, Try.ntmps55
  go_wp2_with (go_at_call 53; refine (field_no z h _).mono ?_; rintro e w' ⟨rfl, hw'⟩; subst w')
  go_ret
  exact ⟨rfl, rfl⟩
theorem pow8_le {k : Nat} (h : k ≤ 11) : (8 : Int) ^ k ≤ 8589934592 := by
  have h12 : k = 0 ∨ k = 1 ∨ k = 2 ∨ k = 3 ∨ k = 4 ∨ k = 5 ∨ k = 6 ∨ k = 7 ∨ k = 8 ∨ k = 9 ∨ k = 10 ∨ k = 11 := by omega
  rcases h12 with rfl | rfl | rfl | rfl | rfl | rfl | rfl | rfl | rfl | rfl | rfl | rfl <;> decide
theorem pow8_pos (k : Nat) : (0 : Int) < 8 ^ k := Int.pow_pos (by decide)
theorem rmost_yes (W : Nat) (h1 : 2 ≤ W) (h2 : W ≤ 12) (w : World) : Calls Try.prog 55 #[.int .i64 (W : Int)] w fun e w' => e = .returned (.int .i64 ((8 : Int) ^ (W - 1) - 1)) ∧ w' = w := by
  go_enter Try.func55, Try.ntmps55
  go_wp2_with (go_at_call 53; refine (field_yes (W : Int) (by omega) (by omega) _).mono ?_; rintro e w' ⟨rfl, hw'⟩; subst w')
  go_loop [3, 4] (fun n i => ∃ (k : Nat) (u : Int), k + 1 ≤ W ∧ i = .int .i64 ((k : Int) + 1) ∧ n = .int .i64 u ∧ Hid (u = 8 ^ k)) (fun _ i => W - (intOf i).toNat)
  case atStart => exact ⟨0, 1, by omega, rfl, rfl, rfl⟩
  case round =>
    obtain ⟨k, u, hk, rfl, rfl, hu⟩ := hrel
    have u1 : u ≤ 8589934592 := by rw [hu.out]; exact pow8_le (by omega)
    have u0 : 0 < u := by rw [hu.out]; exact pow8_pos k
    have k0 : (0 : Int) ≤ (k : Int) := Int.natCast_nonneg _
    by_cases hlt : k + 1 < W
    · have t1 : (k : Int) + 1 < (W : Int) := by omega
      go_wp2
      go_round
      case rel => exact ⟨k + 1, 8 * u, by omega, by go_num, by go_num, by show _ = _; rw [hu.out, Int.pow_succ, Int.mul_comm]⟩
      case measure => simp [intOf]; omega
    · have t1 : ¬ (k : Int) + 1 < (W : Int) := by omega
      have ek : W - 1 = k := by omega
      go_wp2
      go_ret
      exact ⟨ret_int (by first | rw [ek, hu.out] | rw [hu.out]), rfl⟩

/-- what own answers -/
def OwnSays (L : Nat) (f : Nat → Int) (e : Ending) : Prop := ∃ n x, e = .returned (.tuple #[.int .i64 n, .bool x]) ∧ (Oct.num f L ≤ 9223372036854775807 → n = Oct.num f L ∧ x = true) ∧ (¬ Oct.num f L ≤ 9223372036854775807 → n = 0 ∧ x = false)
theorem own7_any (A : Option Addr) (L ca : Nat) (f : Nat → Int) (hL : L ≤ 4611686018427387904) (w : World) (hrow : RowAt w A L f) :
    Calls Try.prog 54 #[.slice A L ca] w fun e w' => OwnSays L f e ∧ w' = w := by
  go_enter Try.func54, Try.ntmps54
  go_wp2
  go_loop [2, 3, 4, 5] (fun r x n i => ∃ (k : Nat) (u : Int), k ≤ L ∧ r = .int .i64 0 ∧ x = .bool false ∧ i = .int .i64 (k : Int) ∧ n = .int .i64 u ∧ Hid (u = Oct.num f k) ∧ u ≤ 9223372036854775807) (fun _ _ _ i => L - (intOf i).toNat)
  case atStart => exact ⟨0, 0, Nat.zero_le _, rfl, rfl, rfl, rfl, rfl, by decide⟩
  case round =>
    obtain ⟨k, u, hk, rfl, rfl, rfl, rfl, hu, hum⟩ := hrel
    have u0 : 0 ≤ u := by rw [hu.out]; exact Oct.num_nonneg hrow.2 k
    have k0 : (0 : Int) ≤ (k : Int) := Int.natCast_nonneg _
    by_cases hlt : k < L
    · obtain ⟨b1, o1, rfl, hc1⟩ := hrow.at hlt
      have h1 := hc1 k hlt
      have hb0 := (hrow.2 k).1
      have hb1 := (hrow.2 k).2
      have t1 : (k : Int) < (L : Int) := by omega
      clear hc1
      obtain ⟨v, hv⟩ : ∃ v, Hid (v = (9223372036854775807 - f k) / 256) := ⟨_, rfl⟩
      have hdv : (9223372036854775807 - f k) / 256 = v := hv.out.symm
      have hdt : (9223372036854775807 - f k).tdiv 256 = v := by rw [Int.tdiv_eq_ediv_of_nonneg (by omega)]; exact hdv
      have hv0 : 0 ≤ v := by have := hv.out; omega
      have hv1 : v ≤ 36028797018963967 := by have := hv.out; omega
      have hs0 : 0 ≤ 9223372036854775807 - f k := by omega
      have hs1 : 9223372036854775807 - f k ≤ 9223372036854775807 := by omega
      by_cases hle : u ≤ v
      · have t2 : ¬ v < u := by omega
        have hnx : Hid (u * 256 + f k ≤ 9223372036854775807) := by show _ ≤ _; have := hv.out; omega
        have m0 : 0 ≤ 256 * u := by omega
        have m1 : 256 * u ≤ 9223372036854775807 := by have := hnx.out; omega
        have m2 : 256 * u + f k ≤ 9223372036854775807 := by have := hnx.out; omega
        have m3 : 0 ≤ 256 * u + f k := by omega
        go_wp2
        go_round
        case rel => exact ⟨k + 1, 256 * u + f k, by omega, rfl, rfl, by go_num, by go_num, by show _ = _; unfold Oct.num; rw [← hu.out, Int.mul_comm], m2⟩
        case measure => simp [intOf]; omega
      · have t2 : v < u := by omega
        have hbig : ¬ Oct.num f L ≤ 9223372036854775807 := fun h => by
          have h2 := Oct.num_mono hrow.2 (k + 1) L (by omega)
          have h3 : Oct.num f (k + 1) = Oct.num f k * 256 + f k := rfl
          rw [← hu.out] at h3
          have := hv.out
          omega
        go_wp2
        go_ret2
        exact ⟨⟨0, false, rfl, fun h => absurd h (Int.not_le.2 hbig), fun _ => ⟨rfl, rfl⟩⟩, rfl⟩
    · have ek : k = L := by omega
      subst ek
      go_wp2
      go_ret2
      exact ⟨⟨u, true, rfl, fun _ => ⟨hu.out, rfl⟩, fun h => absurd (hu.out ▸ hum) h⟩, rfl⟩
end Go.Proofs.Ytkoacehgfmflmaa
