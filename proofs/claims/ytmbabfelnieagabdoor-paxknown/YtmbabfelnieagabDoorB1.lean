/- The program's own Size, as landed at 7a0984bd. -/
import Derived.Test.YtmbabfelnieagabDoorB0
import Derived.Test.YtmbabfelnieagabDoorBL
namespace Go.Proofs.YtmbabfelnieagabDoor
open Go.RowKit Go.Deep
set_option linter.unusedVariables false
set_option linter.unusedSimpArgs false

theorem Px.decDigits_dec : ∀ (n u : Nat), u ≤ n → Lib.decDigits u = Px.dec u := by
  intro n
  induction n with
  | zero => intro u hu; rw [Lib.decDigits, dif_pos (by omega), Px.dec_one (by omega)]
  | succ n ih =>
    intro u hu
    by_cases h : u < 10
    · rw [Lib.decDigits, dif_pos h, Px.dec_one h]
    · rw [Lib.decDigits, dif_neg h, Px.dec_more h, ih (u / 10) (by omega)]
theorem Px.itoa_dec (u : Nat) : Lib.itoa (u : Int) = Px.dec u := by rw [Lib.itoa_nonneg, Px.decDigits_dec u u (Nat.le_refl _)]
theorem bw_grown9 (w : World) (k : Nat) (os : Array Obj) : Bw w (Go.Sort.grow (w.drewN k) os) := Lib.below_grow w.heap.size w (Nat.le_refl _) k os
/-- strconv.Itoa of a number -/
theorem itoa_any (n : Nat) (hn : n ≤ 9223372036854775807) (w : World) (hk : KAt w) :
    Calls Tryd.prog 18 #[.int .i64 (n : Int)] w fun e w' => e = .returned (.string (Nm.S (Px.dec n))) ∧ Bw w w' :=
  (Any.strconv_Itoa sx171 (n : Int) (by omega) (by omega) w hk).mono fun e w' ⟨h1, k, os, h2⟩ => ⟨by rw [h1, Px.itoa_dec]; rfl, by rw [h2]; exact bw_grown9 w k os⟩
set_option maxHeartbeats 1000000 in
theorem psize_any (a b : ByteArray) (ha : a.size ≤ 140737488355328) (hb : b.size ≤ 140737488355328) (w : World) (hk : KAt w) :
    Calls Tryd.prog 8 #[.agg #[.string a, .string b]] w fun e w' => e = .returned (.int .i64 ((Px.psize (a.toList, b.toList) : Nat) : Int)) ∧ Bw w w' := by
  obtain ⟨r, hr⟩ : ∃ r, Hid (r = 3 + a.size + b.size) := ⟨_, rfl⟩
  have HP : Hid (Px.psize (a.toList, b.toList) = Px.size r) := by
    show _ = _
    unfold Px.psize
    rw [Nm.size_toList, Nm.size_toList, hr.out]
  have HK : Hid (KAt w) := hk
  clear hk
  go_enter Tryd.func8, Tryd.ntmps8
  have HB : Hid (Px.size r ≤ r + r + 2) := by
    show _ ≤ _
    have := Px.dl_le r
    unfold Px.size
    split <;> omega
  have hrb : r ≤ 281474976710659 := by have := hr.out; omega
  have hr2 : Hid ((a.size : Int) + (b.size : Int) + (3 : Int) = (r : Int)) := by show _ = _; have := hr.out; omega
  go_wp2
  rw [hr2.out]
  have hw1 : Bw w (w.alloc (.cells #[.string a, .string b] 23)) := Below.alloc (Below.refl _ _) (Nat.le_refl _) _
  go_loopw [4] (fun m wr => ∃ (k : Nat), 1 ≤ k ∧ Hid (r + k ≤ Px.size r) ∧ Hid (k ≤ Px.dl (r + k)) ∧ m = .int .i64 (k : Int) ∧ Bw w wr) (fun m _ => Px.size r - (intOf m).toNat)
  case atStart => exact ⟨1, Nat.le_refl _, Px.size_ge r, Px.dl_pos _, rfl, hw1⟩
  case round =>
    obtain ⟨k, hk1, hk2, hk3, rfl, hwr⟩ := hrel
    have k0 : (0 : Int) ≤ (k : Int) := Int.natCast_nonneg _
    have kb : k ≤ 562949953421322 := by have := HB.out; have := hk2.out; omega
    obtain ⟨m, hm⟩ : ∃ m, Hid (m = r + k) := ⟨_, rfl⟩
    have hm2 : (r : Int) + (k : Int) = (m : Int) := by have := hm.out; omega
    have mb : m ≤ 9007199254740992 := by have := hm.out; omega
    have hsz : (Nm.S (Px.dec m)).size = Px.dl m := by rw [Nm.size_S, Px.dec_len]
    obtain ⟨X, hX⟩ : ∃ X, Hid (X = Nm.S (Px.dec m)) := ⟨_, rfl⟩
    rw [← hX.out] at hsz
    have hdl : Hid (Px.dl m ≤ m + 1) := Px.dl_le m
    obtain ⟨d, hd⟩ : ∃ d, Hid (d = Px.dl m) := ⟨_, rfl⟩
    rw [← hd.out] at hsz hdl
    have hkd : Hid (k ≤ d) := by show _ ≤ _; have := hk3.out; rw [← hm.out, ← hd.out] at this; exact this
    have KT := HK.out.keep hwr
    have KK : Hid (KAt wr) := KT
    clear KT
    by_cases he : k < d
    · have e1 : (k : Int) < (d : Int) := by omega
      have n1 : Hid (r + (k + 1) ≤ Px.size r) := by
        show _ ≤ _
        rcases Nat.lt_or_ge (r + k) (Px.size r) with h | h
        · omega
        · exfalso
          have h1 : r + k = Px.size r := Nat.le_antisymm hk2.out h
          have h2 := Px.size_says r
          rw [← h1, ← hm.out, ← hd.out, hm.out] at h2
          omega
      have n2 : Hid (k + 1 ≤ Px.dl (r + (k + 1))) := by
        show _ ≤ _
        have h1 := Px.dl_mono (r + (k + 1)) (r + k) (by omega)
        rw [← hm.out, ← hd.out] at h1
        omega
      clear he
      go_wp2_with (go_at_call 18; refine (itoa_any m (by omega) _ KK.out).mono ?_; rintro e w2 ⟨rfl, hw2⟩; rw [← hX.out])
      go_roundw
      case rel => exact ⟨k + 1, by omega, n1, n2, by go_num, hwr.trans hw2⟩
      case measure => have := n1.out; simp [intOf]; omega
    · have e1 : ¬ (k : Int) < (d : Int) := by omega
      have hans : Hid (Px.psize (a.toList, b.toList) = m) := by
        show _ = _
        rw [HP.out]
        refine Nat.le_antisymm (Px.size_least ?_) (by rw [hm.out]; exact hk2.out)
        have := hkd.out
        rw [← hd.out, show d = k by omega]
        exact hm.out
      clear he
      go_wp2_with (go_at_call 18; refine (itoa_any m (by omega) _ KK.out).mono ?_; rintro e w2 ⟨rfl, hw2⟩; rw [← hX.out])
      go_ret
      exact ⟨ret_int (by rw [hans.out]), hwr.trans hw2⟩
end Go.Proofs.YtmbabfelnieagabDoor
