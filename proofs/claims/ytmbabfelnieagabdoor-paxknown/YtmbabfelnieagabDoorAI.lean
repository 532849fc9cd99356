/- Layer 9: how many digits a number has (the statements' said); whether a list has a key (named). -/
import Derived.Test.YtmbabfelnieagabDoorAH
namespace Go.Proofs.YtmbabfelnieagabDoor
open Go.RowKit Go.Deep
set_option linter.unusedVariables false
set_option linter.unusedSimpArgs false

set_option maxHeartbeats 1000000 in
theorem said9_any (n : Nat) (h1 : 1 ≤ n) (hn : n ≤ 4611686018427387904) (w : World) :
    Calls Tryd.prog 9 #[.int .i64 (n : Int)] w fun e w' => e = .returned (.int .i64 (Px.dl n : Int)) ∧ w' = w := by
  obtain ⟨D, hD⟩ : ∃ D, Hid (Px.dl n = D) := ⟨_, rfl⟩
  rw [hD.out]
  have hDb : D ≤ n + 1 := by rw [← hD.out]; exact Px.dl_le n
  go_enter Tryd.func9, Tryd.ntmps9
  go_wp2
  go_loop [0, 3] (fun m d => ∃ k j : Nat, k ≤ n ∧ m = .int .i64 (k : Int) ∧ d = .int .i64 (j : Int) ∧ j ≤ D ∧ Hid (D = j + if k = 0 then 0 else Px.dl k)) (fun m _ => (intOf m).toNat)
  case atStart => exact ⟨n, 0, Nat.le_refl _, rfl, rfl, Nat.zero_le _, by show _ = _; rw [if_neg (by omega), hD.out]; omega⟩
  case round =>
    obtain ⟨k, j, hk, rfl, rfl, hj, hst⟩ := hrel
    have k0 : (0 : Int) ≤ (k : Int) := Int.natCast_nonneg _
    have j0 : (0 : Int) ≤ (j : Int) := Int.natCast_nonneg _
    by_cases hlt : 0 < k
    · have t1 : (0 : Int) < (k : Int) := by omega
      have hnx : Hid (D = (j + 1) + if k / 10 = 0 then 0 else Px.dl (k / 10)) := by
        have := hst.out
        rw [if_neg (by omega)] at this
        show _ = _
        by_cases h10 : k < 10
        · rw [Px.dl_one h10] at this
          rw [if_pos (by omega)]; omega
        · rw [Px.dl_more h10] at this
          rw [if_neg (by omega)]; omega
      have hj1 : j + 1 ≤ D := by have := hnx.out; omega
      go_wp2
      go_round
      case rel => exact ⟨k / 10, j + 1, by omega, by go_num, by go_num, hj1, hnx⟩
      case measure => simp [intOf]; omega
    · have ek : k = 0 := by omega
      subst ek
      have hfin : Hid (D = j) := by have := hst.out; rw [if_pos rfl] at this; exact this
      go_wp2
      go_ret
      exact ⟨ret_int (by rw [hfin.out]), rfl⟩
end Go.Proofs.YtmbabfelnieagabDoor
