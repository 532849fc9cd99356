/- Keys: the library's search for bytes that no key has. -/
import Derived.Test.YtmbabfelnieagabDoorB1
import Derived.Laws.RangeAny
import Derived.Lib.OthersKept
import Derived.Deep.LoopGhost
import Derived.WalkMore
namespace Go.Proofs.YtmbabfelnieagabDoor
open Go.RowKit Go.Deep
set_option linter.unusedVariables false
set_option linter.unusedSimpArgs false

set_option maxRecDepth 100000 in
set_option maxHeartbeats 1000000 in
theorem rune_err (w : World) : Calls Tryd.prog 84 #[.string ⟨#[0, 10, 61]⟩, .int .i32 65533] w fun e w' => e = .returned (.int .i64 (-1)) ∧ Bw w w' := by
  obtain ⟨C, hC⟩ : ∃ C : ByteArray, Hid (C = ⟨#[0, 10, 61]⟩) := ⟨_, rfl⟩
  have hs : C.size = 3 := by rw [hC.out]; rfl
  have ha : Hid (∀ i (h : i < C.size), (C[i]'h).toNat < 128) := by
    show ∀ i (h : i < C.size), (C[i]'h).toNat < 128
    obtain rfl := hC.out
    intro i h
    rcases i with _ | _ | _ | i
    · show (0 : UInt8).toNat < 128; decide
    · show (10 : UInt8).toNat < 128; decide
    · show (61 : UInt8).toNat < 128; decide
    · exact absurd h (by show ¬ i + 3 < 3; omega)
  rw [← hC.out]
  go_enter Tryd.func84, Tryd.ntmps84
  go_wp2
  go_loopg [5, 6] 3 (fun g _ _ wx => ∃ i : Nat, i + g = 3 ∧ wx = w.iter C i)
  case atStart => exact ⟨0, rfl, rfl⟩
  case round =>
    obtain ⟨i, hig, rfl⟩ := hrel
    cases gk with
    | zero =>
      obtain rfl : i = 3 := by omega
      have hnx := fun ty => run_next_end (P := Tryd.prog) w C 3 ty (by omega)
      go_wp2
      go_ret
      exact ⟨rfl, Below.alloc (Below.refl _ _) (Nat.le_refl _) _⟩
    | succ g =>
      have hi : i < C.size := by omega
      obtain ⟨x, hx⟩ : ∃ x : UInt8, C[i]'hi = x := ⟨_, rfl⟩
      have hx128 : x.toNat < 128 := by rw [← hx]; exact ha.out i hi
      have hnx := fun ty => run_next_ascii (P := Tryd.prog) w C i ty hi (by rw [hx]; exact hx128)
      rw [hx] at hnx
      clear hx
      have e1 : ((x.toNat : Int) == 65533) = false := beq_eq_false_iff_ne.2 (by omega)
      go_wp2
      go_roundg g
      case measure => omega
      case rel => exact ⟨i + 1, by omega, rfl⟩
set_option maxRecDepth 100000 in
set_option maxHeartbeats 1000000 in
theorem valid_any (r : Nat) (h2 : r ≤ 2147483647) (w : World) : Calls Tryd.prog 90 #[.int .i32 (r : Int)] w fun e w' => e = .returned (.bool (decide (r < 55296 ∨ 57343 < r ∧ r ≤ 1114111))) ∧ w' = w := by
  have r0 : (0 : Int) ≤ (r : Int) := Int.natCast_nonneg _
  obtain ⟨R, hR⟩ : ∃ R, Hid (decide (r < 55296 ∨ 57343 < r ∧ r ≤ 1114111) = R) := ⟨_, rfl⟩
  rw [hR.out]
  by_cases c1 : (r : Int) < 55296
  · have hr : Hid (R = true) := by show _ = _; rw [← hR.out]; exact decide_eq_true (by omega)
    go_enter Tryd.func90, Tryd.ntmps90
    go_wp2
    go_ret
    exact ⟨ret_bool hr.out.symm, rfl⟩
  · by_cases c2 : (57343 : Int) < (r : Int)
    · by_cases c3 : (r : Int) ≤ 1114111
      · have hr : Hid (R = true) := by show _ = _; rw [← hR.out]; exact decide_eq_true (by omega)
        go_enter Tryd.func90, Tryd.ntmps90
        go_wp2
        go_ret
        exact ⟨ret_bool hr.out.symm, rfl⟩
      · have hr : Hid (R = false) := by show _ = _; rw [← hR.out]; exact decide_eq_false (by omega)
        go_enter Tryd.func90, Tryd.ntmps90
        go_wp2
        go_ret
        exact ⟨ret_bool hr.out.symm, rfl⟩
    · have hr : Hid (R = false) := by show _ = _; rw [← hR.out]; exact decide_eq_false (by omega)
      go_enter Tryd.func90, Tryd.ntmps90
      go_wp2
      go_ret
      exact ⟨ret_bool hr.out.symm, rfl⟩
/-- the text of a rune that is no ASCII: its bytes are not ASCII -/
theorem enc_high (r : Nat) (h1 : 128 ≤ r) (hv : r < 55296 ∨ 57343 < r ∧ r ≤ 1114111) : ∃ x y z t : UInt8, 128 ≤ x.toNat ∧ 128 ≤ y.toNat ∧ 128 ≤ z.toNat ∧ 128 ≤ t.toNat ∧ (Utf8.encode (r : Int) = ⟨#[x, t]⟩ ∨ Utf8.encode (r : Int) = ⟨#[x, y, t]⟩ ∨ Utf8.encode (r : Int) = ⟨#[x, y, z, t]⟩) := by
  have hva : Utf8.valid (r : Int) = true := by
    unfold Utf8.valid
    simp only [Bool.or_eq_true, Bool.and_eq_true, decide_eq_true_eq]
    omega
  have hb : ∀ k, k < 64 → 128 ≤ (UInt8.ofNat (0x80 + k)).toNat := fun k hk => by rw [UInt8.toNat_ofNat']; omega
  unfold Utf8.encode
  simp only [hva, if_true, Int.toNat_natCast]
  by_cases c1 : r < 0x80
  · omega
  · by_cases c2 : r < 0x800
    · refine ⟨UInt8.ofNat (0xC0 + r / 64), UInt8.ofNat (0x80 + 0), UInt8.ofNat (0x80 + 0), UInt8.ofNat (0x80 + r % 64), by rw [UInt8.toNat_ofNat']; omega, hb _ (by omega), hb _ (by omega), hb _ (by omega), .inl ?_⟩
      rw [if_neg c1, if_pos c2]
    · by_cases c3 : r < 0x10000
      · refine ⟨UInt8.ofNat (0xE0 + r / 4096), UInt8.ofNat (0x80 + r / 64 % 64), UInt8.ofNat (0x80 + 0), UInt8.ofNat (0x80 + r % 64), by rw [UInt8.toNat_ofNat']; omega, hb _ (by omega), hb _ (by omega), hb _ (by omega), .inr (.inl ?_)⟩
        rw [if_neg c1, if_neg c2, if_pos c3]
      · refine ⟨UInt8.ofNat (0xF0 + r / 262144), UInt8.ofNat (0x80 + r / 4096 % 64), UInt8.ofNat (0x80 + r / 64 % 64), UInt8.ofNat (0x80 + r % 64), by rw [UInt8.toNat_ofNat']; omega, hb _ (by omega), hb _ (by omega), hb _ (by omega), .inr (.inr ?_)⟩
        rw [if_neg c1, if_neg c2, if_neg c3]
theorem byte_not (y : UInt8) (c : Int) (hy : 128 ≤ y.toNat) (hc : c < 128) : (c != (y.toNat : Int)) = true := by rw [bne_iff_ne]; omega
theorem ib_none (s : ByteArray) (c : UInt8) (hc : 128 ≤ c.toNat) (hs : ∀ b ∈ s.data.toList, b.toNat < 128) (w : World) : Calls Tryd.prog 89 #[.string s, .int .u8 (c.toNat : Int)] w fun e w' => e = .returned (.int .i64 (-1)) ∧ w' = w :=
  (Any.strings_IndexByte (ρ := sx150_ren) { sx150 with } s (c.toNat : Int) w).mono fun e w' ⟨h1, h2⟩ => ⟨by
    have hb : ((c.toNat : Int)).toNat.toUInt8 = c := by simp
    rw [h1, hb]
    have h3 : s.data.toList.contains c = false := by
      rw [List.contains_eq_mem]
      refine decide_eq_false fun h => ?_
      have := hs c h
      omega
    have h4 := Lib.contains_iff_indexByte s.data.toList c
    rw [h3] at h4
    have h5 := of_decide_eq_false h4.symm
    have h6 := Lib.indexByte_ge s.data.toList c
    congr 2
    omega, h2⟩
set_option maxRecDepth 100000 in
set_option maxHeartbeats 1000000 in
theorem rune_high (r : Nat) (h1 : 128 ≤ r) (h2 : r ≤ 2147483647) (h3 : r ≠ 65533) (w : World) : Calls Tryd.prog 84 #[.string ⟨#[0, 10, 61]⟩, .int .i32 (r : Int)] w fun e w' => e = .returned (.int .i64 (-1)) ∧ Bw w w' := by
  have e1 : ((r : Int) == 65533) = false := beq_eq_false_iff_ne.2 (by omega)
  have r0 : ¬ (r : Int) < 128 := by omega
  have r1 : (0 : Int) ≤ (r : Int) := by omega
  by_cases hv : r < 55296 ∨ 57343 < r ∧ r ≤ 1114111
  · have hd := decide_eq_true hv
    obtain ⟨x, y, z, t, hx, hy, hz, ht, he⟩ := enc_high r h1 hv
    have HV : Hid (decide (r < 55296 ∨ 57343 < r ∧ r ≤ 1114111) = true) := hd
    have hcv : ∀ W : World, (convert 21 9 (.int .i32 (r : Int))).run Tryd.prog W = .ok (.string (Utf8.encode (r : Int))) W := fun W => by kernel_rfl
    clear hv hd
    rcases he with he | he | he
    · rw [he] at hcv
      clear he
      go_enter Tryd.func84, Tryd.ntmps84
      go_wp2_with (go_at_call 90; refine (valid_any r h2 _).mono ?_; rintro e w1 ⟨rfl, hw1⟩; rw [HV.out]; subst w1)
      go_step3
      go_wp2
      go_loop [9, 10] (fun i f => i = .int .i64 1 ∧ f = .int .i64 0) (fun _ _ => 0)
      case atStart => exact ⟨rfl, rfl⟩
      case round =>
        obtain ⟨rfl, rfl⟩ := hrel
        have hb1 : ((((⟨#[0, 10, 61]⟩ : ByteArray)[1]'(by decide)).toNat : Int) != (((⟨#[x, t]⟩ : ByteArray)[1]'(by show 1 < 2; decide)).toNat : Int)) = true := byte_not t 10 ht (by decide)
        go_wp2
        go_step3
        go_wp2
        go_quiet (fail)
        clear hb1
        go_wp2
        generalize hW : w.drewN nq = W
        have hbw : Bw w W := by rw [← hW]; exact Bw.drewN _ _
        clear hW
        go_quiet (first | (go_at_call 89; exact Calls.quiet_of_same (ib_none _ t ht (by decide) _)) | (go_at_call 89; trace_state; fail))
        go_wp2
        simp only [Exit.noGoto_ret]
        go_wp2
        simp only [Exit.noGoto_ret]
        go_wp2
        go_ret
        exact ⟨rfl, hbw.trans (Bw.drewN _ _)⟩
    · rw [he] at hcv
      clear he
      go_enter Tryd.func84, Tryd.ntmps84
      go_wp2_with (go_at_call 90; refine (valid_any r h2 _).mono ?_; rintro e w1 ⟨rfl, hw1⟩; rw [HV.out]; subst w1)
      go_step3
      go_wp2
      go_loop [9, 10] (fun i f => i = .int .i64 2 ∧ f = .int .i64 0) (fun _ _ => 0)
      case atStart => exact ⟨rfl, rfl⟩
      case round =>
        obtain ⟨rfl, rfl⟩ := hrel
        have hb1 : ((((⟨#[0, 10, 61]⟩ : ByteArray)[2]'(by decide)).toNat : Int) != (((⟨#[x, y, t]⟩ : ByteArray)[2]'(by show 2 < 3; decide)).toNat : Int)) = true := byte_not t 61 ht (by decide)
        go_wp2
        go_step3
        go_wp2
        go_quiet (fail)
        clear hb1
        go_wp2
        generalize hW : w.drewN nq = W
        have hbw : Bw w W := by rw [← hW]; exact Bw.drewN _ _
        clear hW
        go_quiet (first | (go_at_call 89; exact Calls.quiet_of_same (ib_none _ t ht (by decide) _)) | (go_at_call 89; trace_state; fail))
        go_wp2
        simp only [Exit.noGoto_ret]
        go_wp2
        simp only [Exit.noGoto_ret]
        go_wp2
        go_ret
        exact ⟨rfl, hbw.trans (Bw.drewN _ _)⟩
    · rw [he] at hcv
      clear he
      go_enter Tryd.func84, Tryd.ntmps84
      go_wp2_with (go_at_call 90; refine (valid_any r h2 _).mono ?_; rintro e w1 ⟨rfl, hw1⟩; rw [HV.out]; subst w1)
      go_step3
      go_wp2
      go_loop [9, 10] (fun i f => i = .int .i64 3 ∧ f = .int .i64 0) (fun _ _ => 0)
      case atStart => exact ⟨rfl, rfl⟩
      case round =>
        obtain ⟨rfl, rfl⟩ := hrel
        go_wp2
        go_ret
        exact ⟨rfl, Bw.refl _⟩
  · have HV : Hid (decide (r < 55296 ∨ 57343 < r ∧ r ≤ 1114111) = false) := decide_eq_false hv
    clear hv
    go_enter Tryd.func84, Tryd.ntmps84
    go_wp2_with (go_at_call 90; refine (valid_any r h2 _).mono ?_; rintro e w1 ⟨rfl, hw1⟩; rw [HV.out]; subst w1)
    go_ret
    exact ⟨rfl, Bw.refl _⟩
end Go.Proofs.YtmbabfelnieagabDoor
