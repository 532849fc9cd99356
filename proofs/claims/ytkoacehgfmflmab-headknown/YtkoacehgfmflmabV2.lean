/- Contract of the program's lay: a number's digits laid into a row of the call's own. -/
import Derived.Test.YtkoacehgfmflmabV1
namespace Go.Proofs.Ytkoacehgfmflmab
open Go.RowKit Go.Deep
set_option linter.unusedVariables false
set_option linter.unusedSimpArgs false

/-- a block with the digits of n in units of B laid over it at o, the highest first -/
def layF (F : Nat → Int) (o m n B : Nat) (z : Int) (c : Nat) : Int := if o ≤ c ∧ c < o + m then z + ((n / B ^ (o + m - 1 - c) % B : Nat) : Int) else F c
/-- the same when the last t digits are laid -/
def layP (F : Nat → Int) (o m n B : Nat) (z : Int) (t c : Nat) : Int := if o + (m - t) ≤ c ∧ c < o + m then z + ((n / B ^ (o + m - 1 - c) % B : Nat) : Int) else F c
theorem layP_all (F : Nat → Int) (o m n B : Nat) (z : Int) : layP F o m n B z m = layF F o m n B z := by
  funext c; unfold layP layF; rw [Nat.sub_self, Nat.add_zero]
theorem layP_none (F : Nat → Int) (o m n B : Nat) (z : Int) : layP F o m n B z 0 = F := by
  funext c; unfold layP; rw [Nat.sub_zero, if_neg (by omega)]

set_option maxHeartbeats 1000000 in
theorem lay3_any (g o m ca N n : Nat) (F : Nat → Int) (hm : m ≤ 12) (hN : o + m ≤ N) (ho : o ≤ 12) (hn : n ≤ 9223372036854775807) (w : World) (hown : BlockIs w g N F) :
    Calls Try.prog 33 #[.slice (some ⟨g, o, none⟩) m ca, .int .i64 (n : Int), .int .i64 3, .int .u8 48] w fun e w' => e = .returned (.tuple #[]) ∧ BlockIs w' g N (layF F o m n 8 48) ∧ Bx (· = g) w w' := by
  go_enter Try.func33, Try.ntmps33
  go_wp2
  go_loopw [1, 8] (fun x i wr => ∃ y t E : Nat, y + t = m ∧ i = .int .i64 ((y : Int) - 1) ∧ x = .int .i64 (E : Int) ∧ Hid (E = n / 8 ^ t) ∧ BlockIs wr g N (layP F o m n 8 48 t) ∧ Bx (· = g) w wr) (fun _ i _ => (intOf i + 1).toNat)
  case atStart => exact ⟨m, 0, n, rfl, by go_num, rfl, by show _ = _; rw [Nat.pow_zero, Nat.div_one], by rw [layP_none]; exact hown, Bx.refl _ _⟩
  case round =>
    obtain ⟨y, t, E, hyt, rfl, rfl, hE, ho1, hx⟩ := hrel
    rcases y with _ | y
    · have et : t = m := by omega
      subst et
      go_wp2
      refine bodyPost_end (results_none rfl _ _ _) rfl ?_
      exact ⟨rfl, by rw [← layP_all]; exact ho1, hx⟩
    · have ey : ((y + 1 : Nat) : Int) - 1 = (y : Int) := by omega
      rw [ey]
      clear ey
      have y0 : (0 : Int) ≤ (y : Int) := Int.natCast_nonneg _
      have y1 : (y : Int) < (m : Int) := by omega
      have hEn : E ≤ n := by rw [hE.out]; exact Nat.div_le_self _ _
      have e0 : (0 : Int) ≤ (E : Int) := Int.natCast_nonneg _
      obtain ⟨V, hV⟩ : ∃ V : Nat, Hid (V = E % 8) := ⟨E % 8, rfl⟩
      have hV8 : V < 8 := by rw [hV.out]; exact Nat.mod_lt _ (by decide)
      have ha : bits .and .i64 (E : Int) 7 = (V : Int) := by
        rw [show (7 : Int) = ((7 : Nat) : Int) from rfl, i64_and_nat E 7 (by omega) (by decide), nat_mask3, hV.out]
      obtain ⟨Q, hQ⟩ : ∃ Q : Nat, Hid (Q = E / 8) := ⟨E / 8, rfl⟩
      have hq : (E : Int) / 8 = (Q : Int) := by rw [hQ.out]; omega
      obtain ⟨c1, c2⟩ := ho1.cell (c := o + y) (by omega)
      have hQe : Hid (Q = n / 8 ^ (t + 1)) := by show _ = _; rw [hQ.out, hE.out, Nat.pow_succ, Nat.div_div_eq_div_mul]
      have hset : Hid (∀ W, BlockIs W g N (layP F o m n 8 48 t) → BlockIs (W.setCell ⟨g, o + y, none⟩ (.int .u8 (48 + (V : Int)))) g N (layP F o m n 8 48 (t + 1))) := fun W hW => hW.set (by omega) (by
        unfold layP
        rw [if_pos (by omega), show o + m - 1 - (o + y) = t by omega, ← hE.out, ← hV.out]) (fun c hc hne => by
        unfold layP
        by_cases h : o + (m - t) ≤ c ∧ c < o + m
        · rw [if_pos h, if_pos (by omega)]
        · rw [if_neg h, if_neg (by omega)])
      go_wp2
      go_roundw
      case rel => exact ⟨y, t + 1, Q, by omega, by go_num, by go_num, hQe, hset.out _ ho1, hx.put rfl⟩
      case measure => simp [intOf]
set_option maxHeartbeats 1000000 in
theorem lay8_any (g o m ca N n : Nat) (F : Nat → Int) (hm : m ≤ 12) (hN : o + m ≤ N) (ho : o ≤ 12) (hn : n ≤ 9223372036854775807) (w : World) (hown : BlockIs w g N F) :
    Calls Try.prog 33 #[.slice (some ⟨g, o, none⟩) m ca, .int .i64 (n : Int), .int .i64 8, .int .u8 0] w fun e w' => e = .returned (.tuple #[]) ∧ BlockIs w' g N (layF F o m n 256 0) ∧ Bx (· = g) w w' := by
  go_enter Try.func33, Try.ntmps33
  go_wp2
  go_loopw [1, 8] (fun x i wr => ∃ y t E : Nat, y + t = m ∧ i = .int .i64 ((y : Int) - 1) ∧ x = .int .i64 (E : Int) ∧ Hid (E = n / 256 ^ t) ∧ BlockIs wr g N (layP F o m n 256 0 t) ∧ Bx (· = g) w wr) (fun _ i _ => (intOf i + 1).toNat)
  case atStart => exact ⟨m, 0, n, rfl, by go_num, rfl, by show _ = _; rw [Nat.pow_zero, Nat.div_one], by rw [layP_none]; exact hown, Bx.refl _ _⟩
  case round =>
    obtain ⟨y, t, E, hyt, rfl, rfl, hE, ho1, hx⟩ := hrel
    rcases y with _ | y
    · have et : t = m := by omega
      subst et
      go_wp2
      refine bodyPost_end (results_none rfl _ _ _) rfl ?_
      exact ⟨rfl, by rw [← layP_all]; exact ho1, hx⟩
    · have ey : ((y + 1 : Nat) : Int) - 1 = (y : Int) := by omega
      rw [ey]
      clear ey
      have y0 : (0 : Int) ≤ (y : Int) := Int.natCast_nonneg _
      have y1 : (y : Int) < (m : Int) := by omega
      have hEn : E ≤ n := by rw [hE.out]; exact Nat.div_le_self _ _
      have e0 : (0 : Int) ≤ (E : Int) := Int.natCast_nonneg _
      obtain ⟨V, hV⟩ : ∃ V : Nat, Hid (V = E % 256) := ⟨E % 256, rfl⟩
      have hV8 : V < 256 := by rw [hV.out]; exact Nat.mod_lt _ (by decide)
      have ha : bits .and .i64 (E : Int) 255 = (V : Int) := by
        rw [show (255 : Int) = ((255 : Nat) : Int) from rfl, i64_and_nat E 255 (by omega) (by decide), nat_mask8, hV.out]
      obtain ⟨Q, hQ⟩ : ∃ Q : Nat, Hid (Q = E / 256) := ⟨E / 256, rfl⟩
      have hq : (E : Int) / 256 = (Q : Int) := by rw [hQ.out]; omega
      obtain ⟨c1, c2⟩ := ho1.cell (c := o + y) (by omega)
      have hQe : Hid (Q = n / 256 ^ (t + 1)) := by show _ = _; rw [hQ.out, hE.out, Nat.pow_succ, Nat.div_div_eq_div_mul]
      have hset : Hid (∀ W, BlockIs W g N (layP F o m n 256 0 t) → BlockIs (W.setCell ⟨g, o + y, none⟩ (.int .u8 (V : Int))) g N (layP F o m n 256 0 (t + 1))) := fun W hW => hW.set (by omega) (by
        unfold layP
        rw [if_pos (by omega), show o + m - 1 - (o + y) = t by omega, ← hE.out, ← hV.out, Int.zero_add]) (fun c hc hne => by
        unfold layP
        by_cases h : o + (m - t) ≤ c ∧ c < o + m
        · rw [if_pos h, if_pos (by omega)]
        · rw [if_neg h, if_neg (by omega)])
      go_wp2
      go_roundw
      case rel => exact ⟨y, t + 1, Q, by omega, by go_num, by go_num, hQe, hset.out _ ho1, hx.put rfl⟩
      case measure => simp [intOf]
end Go.Proofs.Ytkoacehgfmflmab
