/- Texts of mine, put together. -/
import Derived.Test.YtldkhbkgmiicbaaGreatDoorBu22
import Derived.Laws.BitsAllLaws
import Derived.WalkMore

/- Contracts of the program's isWidth, Most, number and of bytes.Equal, of layer 7. -/
namespace Go.Proofs.YtldkhbkgmiicbaaGreatDoor
open Go.RowKit Go.Deep
set_option linter.unusedVariables false
set_option linter.unusedSimpArgs false

theorem isw_no (z : Int) (h : ¬ (2 ≤ z ∧ z ≤ 12)) (w : World) : Calls Tryz.prog 116 #[.int .i64 z] w fun e w' => e = .returned (.bool false) ∧ w' = w := by
  by_cases h1 : 2 ≤ z
  · have h2 : ¬ z ≤ 12 := fun h2 => h ⟨h1, h2⟩
    go_enter Tryz.func116, Tryz.ntmps116
    go_wp2
    go_ret
    exact ⟨rfl, rfl⟩
  · go_enter Tryz.func116, Tryz.ntmps116
    go_wp2
    go_ret
    exact ⟨rfl, rfl⟩
theorem isw_yes (z : Int) (h1 : 2 ≤ z) (h2 : z ≤ 12) (w : World) : Calls Tryz.prog 116 #[.int .i64 z] w fun e w' => e = .returned (.bool true) ∧ w' = w := by
  go_enter Tryz.func116, Tryz.ntmps116
  go_wp2
  go_ret
  exact ⟨rfl, rfl⟩
theorem most_yes (W : Nat) (h1 : 2 ≤ W) (h2 : W ≤ 12) (w : World) : Calls Tryz.prog 117 #[.int .i64 (W : Int)] w fun e w' => e = .returned (.int .i64 ((8 : Int) ^ (W - 1) - 1)) ∧ w' = w := by
  have h11 : W = 2 ∨ W = 3 ∨ W = 4 ∨ W = 5 ∨ W = 6 ∨ W = 7 ∨ W = 8 ∨ W = 9 ∨ W = 10 ∨ W = 11 ∨ W = 12 := by omega
  rcases h11 with rfl | rfl | rfl | rfl | rfl | rfl | rfl | rfl | rfl | rfl | rfl
  all_goals
    go_enter Tryz.func117, Tryz.ntmps117
    go_wp2_with (go_at_call 116; refine (isw_yes _ (by decide) (by decide) _).mono ?_; rintro e w' ⟨rfl, hw'⟩; subst w')
    go_ret
    exact ⟨rfl, rfl⟩
theorem i64_ofInt (a : Nat) (ha : a < 9223372036854775808) : (BitVec.ofInt 64 (a : Int)).toNat = a := by
  rw [BitVec.toNat_ofInt]; omega
theorem i64_and_nat (a b : Nat) (ha : a < 9223372036854775808) (hb : b < 9223372036854775808) : bits .and .i64 (a : Int) (b : Int) = ((a &&& b : Nat) : Int) := by
  have hlt : a &&& b < 2 ^ 63 := Nat.and_lt_two_pow _ (by omega)
  unfold bits
  show IntKind.i64.wrap ((BitVec.ofInt 64 (a : Int) &&& BitVec.ofInt 64 (b : Int)).toNat : Int) = _
  rw [BitVec.toNat_and, i64_ofInt a ha, i64_ofInt b hb, IntKind.wrap_i64]
  omega
end Go.Proofs.YtldkhbkgmiicbaaGreatDoor

/- Contract of the program's lay: a number's digits laid into a row of the call's own. -/
namespace Go.Proofs.YtldkhbkgmiicbaaGreatDoor
open Go.RowKit Go.Deep
set_option linter.unusedVariables false
set_option linter.unusedSimpArgs false

/-- a block with the digits of n in units of B laid over it at o, the highest first -/
def layF (F : Nat → Int) (o m n B : Nat) (z : Int) (c : Nat) : Int := if o ≤ c ∧ c < o + m then z + ((n / B ^ (o + m - 1 - c) % B : Nat) : Int) else F c
/-- the same when the last t digits are laid -/
def layP (F : Nat → Int) (o m n B : Nat) (z : Int) (t c : Nat) : Int := if o + (m - t) ≤ c ∧ c < o + m then z + ((n / B ^ (o + m - 1 - c) % B : Nat) : Int) else F c
theorem layP_all (F : Nat → Int) (o m n B : Nat) (z : Int) : layP F o m n B z m = layF F o m n B z := by
  funext c; unfold layP layF; rw [Nat.sub_self, Nat.add_zero]
theorem layP_none (F : Nat → Int) (o m n B : Nat) (z : Int) : layP F o m n B z 0 = F := by
  funext c; unfold layP; rw [Nat.sub_zero, if_neg (by omega)]

set_option maxHeartbeats 1000000 in
theorem lay3_any (g o m ca N n : Nat) (F : Nat → Int) (hm : m ≤ 12) (hN : o + m ≤ N) (ho : o ≤ 12) (hn : n ≤ 9223372036854775807) (w : World) (hown : BlockIs w g N F) :
    Calls Tryz.prog 118 #[.slice (some ⟨g, o, none⟩) m ca, .int .i64 (n : Int), .int .i64 3, .int .u8 48] w fun e w' => e = .returned (.tuple #[]) ∧ BlockIs w' g N (layF F o m n 8 48) ∧ Bx (· = g) w w' := by
  go_enter Tryz.func118, Tryz.ntmps118
  go_wp2
  go_loopw [1, 8] (fun x i wr => ∃ y t E : Nat, y + t = m ∧ i = .int .i64 ((y : Int) - 1) ∧ x = .int .i64 (E : Int) ∧ Hid (E = n / 8 ^ t) ∧ BlockIs wr g N (layP F o m n 8 48 t) ∧ Bx (· = g) w wr) (fun _ i _ => (intOf i + 1).toNat)
  case atStart => exact ⟨m, 0, n, rfl, by go_num, rfl, by show _ = _; rw [Nat.pow_zero, Nat.div_one], by rw [layP_none]; exact hown, Bx.refl _ _⟩
  case round =>
    obtain ⟨y, t, E, hyt, rfl, rfl, hE, ho1, hx⟩ := hrel
    rcases y with _ | y
    · have et : t = m := by omega
      subst et
      go_wp2
      refine bodyPost_end (results_none rfl _ _ _) rfl ?_
      exact ⟨rfl, by rw [← layP_all]; exact ho1, hx⟩
    · have ey : ((y + 1 : Nat) : Int) - 1 = (y : Int) := by omega
      rw [ey]
      clear ey
      have y0 : (0 : Int) ≤ (y : Int) := Int.natCast_nonneg _
      have y1 : (y : Int) < (m : Int) := by omega
      have hEn : E ≤ n := by rw [hE.out]; exact Nat.div_le_self _ _
      have e0 : (0 : Int) ≤ (E : Int) := Int.natCast_nonneg _
      obtain ⟨V, hV⟩ : ∃ V : Nat, Hid (V = E % 8) := ⟨E % 8, rfl⟩
      have hV8 : V < 8 := by rw [hV.out]; exact Nat.mod_lt _ (by decide)
      have ha : bits .and .i64 (E : Int) 7 = (V : Int) := by
        rw [show (7 : Int) = ((7 : Nat) : Int) from rfl, i64_and_nat E 7 (by omega) (by decide), nat_mask3, hV.out]
      obtain ⟨Q, hQ⟩ : ∃ Q : Nat, Hid (Q = E / 8) := ⟨E / 8, rfl⟩
      have hq : (E : Int) / 8 = (Q : Int) := by rw [hQ.out]; omega
      obtain ⟨c1, c2⟩ := ho1.cell (c := o + y) (by omega)
      have hQe : Hid (Q = n / 8 ^ (t + 1)) := by show _ = _; rw [hQ.out, hE.out, Nat.pow_succ, Nat.div_div_eq_div_mul]
      have hset : Hid (∀ W, BlockIs W g N (layP F o m n 8 48 t) → BlockIs (W.setCell ⟨g, o + y, none⟩ (.int .u8 (48 + (V : Int)))) g N (layP F o m n 8 48 (t + 1))) := fun W hW => hW.set (by omega) (by
        unfold layP
        rw [if_pos (by omega), show o + m - 1 - (o + y) = t by omega, ← hE.out, ← hV.out]) (fun c hc hne => by
        unfold layP
        by_cases h : o + (m - t) ≤ c ∧ c < o + m
        · rw [if_pos h, if_pos (by omega)]
        · rw [if_neg h, if_neg (by omega)])
      go_wp2
      go_roundw
      case rel => exact ⟨y, t + 1, Q, by omega, by go_num, by go_num, hQe, hset.out _ ho1, hx.put rfl⟩
      case measure => simp [intOf]
set_option maxHeartbeats 1000000 in
theorem lay8_any (g o m ca N n : Nat) (F : Nat → Int) (hm : m ≤ 12) (hN : o + m ≤ N) (ho : o ≤ 12) (hn : n ≤ 9223372036854775807) (w : World) (hown : BlockIs w g N F) :
    Calls Tryz.prog 118 #[.slice (some ⟨g, o, none⟩) m ca, .int .i64 (n : Int), .int .i64 8, .int .u8 0] w fun e w' => e = .returned (.tuple #[]) ∧ BlockIs w' g N (layF F o m n 256 0) ∧ Bx (· = g) w w' := by
  go_enter Tryz.func118, Tryz.ntmps118
  go_wp2
  go_loopw [1, 8] (fun x i wr => ∃ y t E : Nat, y + t = m ∧ i = .int .i64 ((y : Int) - 1) ∧ x = .int .i64 (E : Int) ∧ Hid (E = n / 256 ^ t) ∧ BlockIs wr g N (layP F o m n 256 0 t) ∧ Bx (· = g) w wr) (fun _ i _ => (intOf i + 1).toNat)
  case atStart => exact ⟨m, 0, n, rfl, by go_num, rfl, by show _ = _; rw [Nat.pow_zero, Nat.div_one], by rw [layP_none]; exact hown, Bx.refl _ _⟩
  case round =>
    obtain ⟨y, t, E, hyt, rfl, rfl, hE, ho1, hx⟩ := hrel
    rcases y with _ | y
    · have et : t = m := by omega
      subst et
      go_wp2
      refine bodyPost_end (results_none rfl _ _ _) rfl ?_
      exact ⟨rfl, by rw [← layP_all]; exact ho1, hx⟩
    · have ey : ((y + 1 : Nat) : Int) - 1 = (y : Int) := by omega
      rw [ey]
      clear ey
      have y0 : (0 : Int) ≤ (y : Int) := Int.natCast_nonneg _
      have y1 : (y : Int) < (m : Int) := by omega
      have hEn : E ≤ n := by rw [hE.out]; exact Nat.div_le_self _ _
      have e0 : (0 : Int) ≤ (E : Int) := Int.natCast_nonneg _
      obtain ⟨V, hV⟩ : ∃ V : Nat, Hid (V = E % 256) := ⟨E % 256, rfl⟩
      have hV8 : V < 256 := by rw [hV.out]; exact Nat.mod_lt _ (by decide)
      have ha : bits .and .i64 (E : Int) 255 = (V : Int) := by
        rw [show (255 : Int) = ((255 : Nat) : Int) from rfl, i64_and_nat E 255 (by omega) (by decide), nat_mask8, hV.out]
      obtain ⟨Q, hQ⟩ : ∃ Q : Nat, Hid (Q = E / 256) := ⟨E / 256, rfl⟩
      have hq : (E : Int) / 256 = (Q : Int) := by rw [hQ.out]; omega
      obtain ⟨c1, c2⟩ := ho1.cell (c := o + y) (by omega)
      have hQe : Hid (Q = n / 256 ^ (t + 1)) := by show _ = _; rw [hQ.out, hE.out, Nat.pow_succ, Nat.div_div_eq_div_mul]
      have hset : Hid (∀ W, BlockIs W g N (layP F o m n 256 0 t) → BlockIs (W.setCell ⟨g, o + y, none⟩ (.int .u8 (V : Int))) g N (layP F o m n 256 0 (t + 1))) := fun W hW => hW.set (by omega) (by
        unfold layP
        rw [if_pos (by omega), show o + m - 1 - (o + y) = t by omega, ← hE.out, ← hV.out, Int.zero_add]) (fun c hc hne => by
        unfold layP
        by_cases h : o + (m - t) ≤ c ∧ c < o + m
        · rw [if_pos h, if_pos (by omega)]
        · rw [if_neg h, if_neg (by omega)])
      go_wp2
      go_roundw
      case rel => exact ⟨y, t + 1, Q, by omega, by go_num, by go_num, hQe, hset.out _ ho1, hx.put rfl⟩
      case measure => simp [intOf]
end Go.Proofs.YtldkhbkgmiicbaaGreatDoor

/- Contract of the program's spelled: the rows of a loose field of digits. -/
namespace Go.Proofs.YtldkhbkgmiicbaaGreatDoor
open Go.RowKit Go.Deep
set_option linter.unusedVariables false
set_option linter.unusedSimpArgs false

/-- what spelled has seen when it stands at k: the row r, the number u -/
def SpellAt (f : Nat → Int) (L k : Nat) (r u : Int) : Prop :=
  (r = 0 ∧ u = 0 ∧ ∀ i, i < k → Oct.Blank (f i))
  ∨ (r = 1 ∧ ∃ p, p < k ∧ Oct.Run Oct.Blank f L 0 p ∧ (∀ i, p ≤ i → i < k → Oct.Digit (f i)) ∧ u = Oct.oct f p (k - p))
  ∨ (r = 2 ∧ ∃ p q, q < k ∧ Oct.Run Oct.Blank f L 0 p ∧ Oct.Run Oct.Digit f L p q ∧ (∀ i, q ≤ i → i < k → Oct.Tail (f i)) ∧ u = Oct.oct f p (q - p))
/-- what spelled answers -/
def SpellSays (f : Nat → Int) (L : Nat) (u a : Int) : Prop := ∃ p q r, Oct.Run Oct.Blank f L 0 p ∧ Oct.Run Oct.Digit f L p q ∧ Oct.Run Oct.Tail f L q r ∧ u = Oct.oct f p (q - p) ∧ a = (r : Int)

end Go.Proofs.YtldkhbkgmiicbaaGreatDoor

/- Contract of the program's Put. -/
namespace Go.Proofs.YtldkhbkgmiicbaaGreatDoor
open Go.RowKit Go.Deep
set_option linter.unusedVariables false
set_option linter.unusedSimpArgs false

theorem oput_arg (n z : Int) (h : ¬ (2 ≤ z ∧ z ≤ 12) ∨ n < 0) (w : World) :
    Calls Tryz.prog 88 #[.int .i64 n, .int .i64 z] w fun e w' => e = .returned (.tuple #[.slice none 0 0, .int .i64 1]) ∧ w' = w := by
  by_cases hz : 2 ≤ z ∧ z ≤ 12
  · have hn : n < 0 := h.resolve_left (fun h => h hz)
    go_enter Tryz.func88, Tryz.ntmps88
    go_wp2_with (go_at_call 116; refine (isw_yes z hz.1 hz.2 _).mono ?_; rintro e w' ⟨rfl, hw'⟩; subst w')
    go_ret2
    exact ⟨rfl, rfl⟩
  · go_enter Tryz.func88, Tryz.ntmps88
    go_wp2_with (go_at_call 116; refine (isw_no z hz _).mono ?_; rintro e w' ⟨rfl, hw'⟩; subst w')
    go_ret2
    exact ⟨rfl, rfl⟩
theorem block_made (w : World) (M : Array Value) (n : Nat) (h1 : M.size = n) (h2 : ∀ i, i < n → M[i]? = some (.int .u8 0)) : BlockIs (w.alloc (.cells M 5)) w.heap.size n (fun _ => 0) :=
  ⟨M, heap_alloc_new _ _, h1, h2⟩
theorem plain_form {n m c : Nat} (hn : n < 8 ^ m) (hc : c < m) : Oct.formF n (m + 1) c = layF (fun _ => 0) 0 m n 8 48 c := by
  unfold Oct.formF Oct.plainF layF
  rw [if_pos (by rw [Nat.add_sub_cancel]; exact hn), if_pos (by omega), if_pos (by omega), show m + 1 - 2 - c = 0 + m - 1 - c by omega]
  omega
set_option maxHeartbeats 1000000 in
theorem oput_plain (n m : Nat) (h1 : 1 ≤ m) (h2 : m ≤ 11) (hn : n < 8 ^ m) (w : World) :
    Calls Tryz.prog 88 #[.int .i64 (n : Int), .int .i64 ((m : Int) + 1)] w fun e w' => ∃ g, e = .returned (.tuple #[.slice (some ⟨g, 0, none⟩) (m + 1) (m + 1), .int .i64 0]) ∧ BlockIs w' g (m + 1) (Oct.formF n (m + 1)) ∧ w.heap.size ≤ g ∧ Bw w w' := by
  obtain ⟨M, hM1, hM2, hM3⟩ := made_bytes (m + 1) (by omega)
  have hMB : Hid (∀ w : World, BlockIs (w.alloc (.cells M 5)) w.heap.size (m + 1) (fun _ => 0)) := fun w => block_made w M _ hM1 hM2
  have hMr : ∀ w, (Instr.makeSlice 24 (.int .i64 ((m : Int) + 1)) (.int .i64 ((m : Int) + 1))).run Tryz.prog w = .ok (.slice (some ⟨w.heap.size, 0, none⟩) (m + 1) (m + 1)) (w.alloc (.cells M 5)) := hM3
  have hn63 : n ≤ 9223372036854775807 := by have := nat_pow8_le h2; omega
  have hPb : (8 : Int) ^ m ≤ 8589934592 := pow8_le (by omega)
  obtain ⟨P, hPe⟩ : ∃ P : Int, Hid (P = (8 : Int) ^ m - 1) := ⟨_, rfl⟩
  have hP : (n : Int) ≤ P := by rw [hPe.out, pow8_cast]; omega
  have HN : Hid (n < 8 ^ m) := hn
  have n0 : (0 : Int) ≤ (n : Int) := Int.natCast_nonneg _
  have m0 : (0 : Int) ≤ (m : Int) := Int.natCast_nonneg _
  have m1 : (m : Int) ≤ 11 := by omega
  clear hM1 hM2 hM3 hn hPb
  go_enter Tryz.func88, Tryz.ntmps88
  go_wp2_with (first
    | (go_at_call 116; refine (isw_yes _ (by omega) (by omega) _).mono ?_; rintro e w' ⟨rfl, hw'⟩; subst w')
    | (go_at_call 117; refine (most_yes (m + 1) (by omega) (by omega) _).mono ?_; rintro e w' ⟨rfl, hw'⟩; subst w'; rw [Nat.add_sub_cancel, ← hPe.out])
    | (go_at_call 118; refine (lay3_any w.heap.size 0 m _ (m + 1) n (fun _ => 0) (by omega) (by omega) (by omega) hn63 _ (hMB.out w)).mono ?_; rintro e w1 ⟨rfl, ho1, hx1⟩; obtain ⟨c1, c2⟩ := ho1.cell (c := m) (by omega)))
  go_ret2
  have hw1 : Bw w w1 := ⟨hx1.os, hx1.tape, hx1.output, by have := hx1.size; rw [size_alloc] at this; omega, fun b hb => (hx1.block b (by rw [size_alloc]; omega) (by omega)).trans (heap_alloc_old w _ hb)⟩
  refine ⟨w.heap.size, rfl, ho1.set (by omega) ?_ (fun c hc hne => plain_form HN.out (by omega)), Nat.le_refl _, hw1.put (Nat.le_refl _) _ _⟩
  unfold Oct.formF Oct.plainF
  rw [if_pos (by rw [Nat.add_sub_cancel]; exact HN.out), if_neg (by omega)]; rfl
theorem wide_form {n m c : Nat} (hn : ¬ n < 8 ^ m) (h0 : 0 < c) (hc : c < m + 1) (F : Nat → Int) : Oct.formF n (m + 1) c = layF F 1 m n 256 0 c := by
  unfold Oct.formF Oct.wideF layF
  rw [if_neg (by rw [Nat.add_sub_cancel]; exact hn), if_neg (by omega), if_pos (by omega), show m + 1 - 1 - c = 1 + m - 1 - c by omega]
  omega
theorem shr_wide (n m : Nat) (hn : n ≤ 9223372036854775807) : Op.shift .shr .i64 (n : Int) .i64 (8 * (m : Int)) = pure (.int .i64 ((n / 256 ^ m : Nat) : Int)) := by
  rw [shift_shr_any _ _ _ _ (by omega)]
  congr 2
  have e8 : (8 * (m : Int)).toNat = 8 * m := by omega
  rw [e8, show IntKind.i64.bits = 64 from rfl]
  have ep : (256 : Nat) ^ m = 2 ^ (8 * m) := by rw [show (256 : Nat) = 2 ^ 8 from rfl, ← Nat.pow_mul]
  rw [ep]
  have ec : ∀ k : Nat, (n : Int) / 2 ^ k = ((n / 2 ^ k : Nat) : Int) := fun k => by rw [Int.natCast_ediv, Int.natCast_pow]; rfl
  rw [ec]
  rcases Nat.lt_or_ge (8 * m) 64 with h | h
  · rw [Nat.min_eq_left (by omega)]
  · rw [Nat.min_eq_right (by omega), Nat.div_eq_of_lt (by omega), Nat.div_eq_of_lt]
    have : 2 ^ 64 ≤ 2 ^ (8 * m) := Nat.pow_le_pow_right (by decide) h
    omega
set_option maxHeartbeats 1000000 in
theorem oput_wide (n m : Nat) (h1 : 1 ≤ m) (h2 : m ≤ 11) (hn : ¬ n < 8 ^ m) (hn63 : n ≤ 9223372036854775807) (w : World) :
    Calls Tryz.prog 88 #[.int .i64 (n : Int), .int .i64 ((m : Int) + 1)] w fun e w' => (256 ^ m ≤ n → e = .returned (.tuple #[.slice none 0 0, .int .i64 2])) ∧ (n < 256 ^ m → ∃ g, e = .returned (.tuple #[.slice (some ⟨g, 0, none⟩) (m + 1) (m + 1), .int .i64 0]) ∧ BlockIs w' g (m + 1) (Oct.formF n (m + 1)) ∧ w.heap.size ≤ g) ∧ Bw w w' := by
  obtain ⟨M, hM1, hM2, hM3⟩ := made_bytes (m + 1) (by omega)
  have hMB : Hid (∀ w : World, BlockIs (w.alloc (.cells M 5)) w.heap.size (m + 1) (fun _ => 0)) := fun w => block_made w M _ hM1 hM2
  have hMr : ∀ w, (Instr.makeSlice 24 (.int .i64 ((m : Int) + 1)) (.int .i64 ((m : Int) + 1))).run Tryz.prog w = .ok (.slice (some ⟨w.heap.size, 0, none⟩) (m + 1) (m + 1)) (w.alloc (.cells M 5)) := hM3
  obtain ⟨P, hPe⟩ : ∃ P : Int, Hid (P = (8 : Int) ^ m - 1) := ⟨_, rfl⟩
  have hP : ¬ (n : Int) ≤ P := by rw [hPe.out, pow8_cast]; omega
  have HN : Hid (¬ n < 8 ^ m) := hn
  have n0 : (0 : Int) ≤ (n : Int) := Int.natCast_nonneg _
  have m0 : (0 : Int) ≤ (m : Int) := Int.natCast_nonneg _
  have m1 : (m : Int) ≤ 11 := by omega
  have HM1 : Hid (M.size = m + 1) := hM1
  have HM2 : Hid (∀ i, i < m + 1 → M[i]? = some (.int .u8 0)) := hM2
  clear hM1 hM2 hM3 hn
  obtain ⟨D, hD⟩ : ∃ D : Nat, Hid (D = n / 256 ^ m) := ⟨_, rfl⟩
  have hsh : Op.shift .shr .i64 (n : Int) .i64 (8 * (m : Int)) = pure (.int .i64 (D : Int)) := by rw [hD.out]; exact shr_wide n m hn63
  by_cases hlong : 256 ^ m ≤ n
  · have hlong' : Hid (256 ^ m ≤ n) := hlong
    have hpos : 0 < D := by rw [hD.out]; exact Nat.div_pos hlong (Nat.pow_pos (by decide))
    have hne : ((D : Int) != 0) = true := by rw [bne_iff_ne]; omega
    clear hlong
    go_enter Tryz.func88, Tryz.ntmps88
    go_wp2_with (first
      | (go_at_call 116; refine (isw_yes _ (by omega) (by omega) _).mono ?_; rintro e w' ⟨rfl, hw'⟩; subst w')
      | (go_at_call 117; refine (most_yes (m + 1) (by omega) (by omega) _).mono ?_; rintro e w' ⟨rfl, hw'⟩; subst w'; rw [Nat.add_sub_cancel, ← hPe.out]))
    go_ret2
    exact ⟨fun _ => rfl, fun h => absurd h (Nat.not_lt.2 hlong'.out), Below.alloc (Bw.refl _) (Nat.le_refl _) _⟩
  · have hlong' : Hid (n < 256 ^ m) := Nat.lt_of_not_le hlong
    have h0 : D = 0 := by rw [hD.out]; exact Nat.div_eq_of_lt hlong'.out
    subst h0
    clear hlong
    have hB0 := hMB.out w
    obtain ⟨c1, c2⟩ := hB0.cell (c := 0) (by omega)
    have hB1 : BlockIs (w.alloc (.cells (M.setIfInBounds 0 (.int .u8 128)) 5)) w.heap.size (m + 1) (fun c => if c = 0 then 128 else 0) := ⟨_, heap_alloc_new _ _, by rw [Array.size_setIfInBounds]; exact HM1.out, fun c hc => by
      by_cases h : c = 0
      · subst h; rw [Array.getElem?_setIfInBounds_self_of_lt (by have := HM1.out; omega)]; rfl
      · rw [Array.getElem?_setIfInBounds_ne (Ne.symm h), HM2.out c hc]; dsimp only; rw [if_neg h]⟩
    have d1 : ¬ m = 0 := by omega
    go_enter Tryz.func88, Tryz.ntmps88
    go_wp2_with (first
      | (go_at_call 116; refine (isw_yes _ (by omega) (by omega) _).mono ?_; rintro e w' ⟨rfl, hw'⟩; subst w')
      | (go_at_call 117; refine (most_yes (m + 1) (by omega) (by omega) _).mono ?_; rintro e w' ⟨rfl, hw'⟩; subst w'; rw [Nat.add_sub_cancel, ← hPe.out])
      | (go_at_call 118; refine (lay8_any w.heap.size 1 m _ (m + 1) n _ (by omega) (by omega) (by omega) hn63 _ hB1).mono ?_; rintro e w1 ⟨rfl, ho1, hx1⟩))
    go_ret2
    have hx0 : Bw w (w.alloc (.cells (M.setIfInBounds 0 (.int .u8 128)) 5)) := Below.alloc (Bw.refl _) (Nat.le_refl _) _
    have hw1 : Bw w w1 := ⟨hx1.os.trans hx0.os, hx1.tape.trans hx0.tape, hx1.output.trans hx0.output, Nat.le_trans hx0.size hx1.size, fun b hb => (hx1.block b (Nat.lt_of_lt_of_le hb hx0.size) (by omega)).trans (hx0.block b hb)⟩
    refine ⟨fun h => absurd h (Nat.not_le.2 hlong'.out), fun _ => ⟨w.heap.size, rfl, ho1.congr (fun c hc => ?_), Nat.le_refl _⟩, hw1⟩
    by_cases h0 : c = 0
    · subst h0
      unfold Oct.formF Oct.wideF layF
      rw [if_neg (by rw [Nat.add_sub_cancel]; exact HN.out), if_pos rfl, if_neg (by omega)]; rfl
    · exact wide_form HN.out (by omega) hc _
/-- what Put answers -/
structure OPutSays (n z : Int) (w : World) (e : Ending) (w' : World) : Prop where
  arg : ¬ (2 ≤ z ∧ z ≤ 12) ∨ n < 0 → e = .returned (.tuple #[.slice none 0 0, .int .i64 1])
  long : 2 ≤ z → z ≤ 12 → 0 ≤ n → ¬ (n.toNat < 8 ^ (z.toNat - 1) ∨ n.toNat < 256 ^ (z.toNat - 1)) → e = .returned (.tuple #[.slice none 0 0, .int .i64 2])
  form : 2 ≤ z → z ≤ 12 → 0 ≤ n → (n.toNat < 8 ^ (z.toNat - 1) ∨ n.toNat < 256 ^ (z.toNat - 1)) → ∃ g, e = .returned (.tuple #[.slice (some ⟨g, 0, none⟩) z.toNat z.toNat, .int .i64 0]) ∧ BlockIs w' g z.toNat (Oct.formF n.toNat z.toNat) ∧ w.heap.size ≤ g
  keeps : Bw w w'
theorem oput_any (n z : Int) (hn : n ≤ 9223372036854775807) (w : World) : Calls Tryz.prog 88 #[.int .i64 n, .int .i64 z] w fun e w' => OPutSays n z w e w' := by
  by_cases h : ¬ (2 ≤ z ∧ z ≤ 12) ∨ n < 0
  · refine (oput_arg n z h w).mono ?_
    rintro e w' ⟨rfl, hw'⟩
    subst w'
    exact ⟨fun _ => rfl, fun h1 h2 h3 => absurd h (by omega), fun h1 h2 h3 => absurd h (by omega), Bw.refl _⟩
  · obtain ⟨m, rfl⟩ : ∃ m : Nat, z = (m : Int) + 1 := ⟨(z - 1).toNat, by omega⟩
    obtain ⟨k, rfl⟩ := Int.eq_ofNat_of_zero_le (show 0 ≤ n by omega)
    have ez : ((m : Int) + 1).toNat = m + 1 := by omega
    by_cases hp : k < 8 ^ m
    · refine (oput_plain k m (by omega) (by omega) hp w).mono ?_
      rintro e w' ⟨g, he, ho, hg, hw⟩
      refine ⟨fun h' => absurd h' h, fun _ _ _ h' => absurd (Or.inl ?_) h', fun _ _ _ _ => ⟨g, ?_, ?_, hg⟩, hw⟩
      · rw [ez]; exact hp
      · rw [ez]; exact he
      · rw [ez]; exact ho
    · refine (oput_wide k m (by omega) (by omega) hp (by omega) w).mono ?_
      rintro e w' ⟨ha, hb, hw⟩
      refine ⟨fun h' => absurd h' h, fun _ _ _ h' => ha ?_, fun _ _ _ h' => ?_, hw⟩
      · rcases Nat.lt_or_ge k (256 ^ m) with h3 | h3
        · exact absurd (Or.inr (by rw [ez]; exact h3)) h'
        · exact h3
      · rw [ez, Nat.add_sub_cancel] at h'
        obtain ⟨g, he, ho, hg⟩ := hb (h'.resolve_left hp)
        rw [ez]
        exact ⟨g, he, ho, hg⟩
end Go.Proofs.YtldkhbkgmiicbaaGreatDoor
