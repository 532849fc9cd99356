/- Texts of mine, put together. -/
import Derived.Test.YtldkhbkgmiicbabGreatDoorBu20
import Derived.Laws.RangeAny
import Derived.Lib.OthersKept
import Derived.Deep.LoopGhost
import Derived.WalkMore
import Derived.Defers
import Derived.Recover
import Derived.WalkLawsBesides
import Derived.Laws.Pointers

/- The program's own Size, as landed at 7a0984bd. -/
namespace Go.Proofs.YtldkhbkgmiicbabGreatDoor
open Go.RowKit Go.Deep
set_option linter.unusedVariables false
set_option linter.unusedSimpArgs false

theorem Px.decDigits_dec : ∀ (n u : Nat), u ≤ n → Lib.decDigits u = Px.dec u := by
  intro n
  induction n with
  | zero => intro u hu; rw [Lib.decDigits, dif_pos (by omega), Px.dec_one (by omega)]
  | succ n ih =>
    intro u hu
    by_cases h : u < 10
    · rw [Lib.decDigits, dif_pos h, Px.dec_one h]
    · rw [Lib.decDigits, dif_neg h, Px.dec_more h, ih (u / 10) (by omega)]
theorem Px.itoa_dec (u : Nat) : Lib.itoa (u : Int) = Px.dec u := by rw [Lib.itoa_nonneg, Px.decDigits_dec u u (Nat.le_refl _)]
theorem bw_grown9 (w : World) (k : Nat) (os : Array Obj) : Bw w (Go.Sort.grow (w.drewN k) os) := Lib.below_grow w.heap.size w (Nat.le_refl _) k os
/-- strconv.Itoa of a number -/
theorem itoa_any (n : Nat) (hn : n ≤ 9223372036854775807) (w : World) (hk : KAt w) :
    Calls Tryz.prog 77 #[.int .i64 (n : Int)] w fun e w' => e = .returned (.string (Nm.S (Px.dec n))) ∧ Bw w w' :=
  (Any.strconv_Itoa sx171 (n : Int) (by omega) (by omega) w hk).mono fun e w' ⟨h1, k, os, h2⟩ => ⟨by rw [h1, Px.itoa_dec]; rfl, by rw [h2]; exact bw_grown9 w k os⟩
set_option maxHeartbeats 1000000 in
theorem psize_any (a b : ByteArray) (ha : a.size ≤ 140737488355328) (hb : b.size ≤ 140737488355328) (w : World) (hk : KAt w) :
    Calls Tryz.prog 60 #[.agg #[.string a, .string b]] w fun e w' => e = .returned (.int .i64 ((Px.psize (a.toList, b.toList) : Nat) : Int)) ∧ Bw w w' := by
  obtain ⟨r, hr⟩ : ∃ r, Hid (r = 3 + a.size + b.size) := ⟨_, rfl⟩
  have HP : Hid (Px.psize (a.toList, b.toList) = Px.size r) := by
    show _ = _
    unfold Px.psize
    rw [Nm.size_toList, Nm.size_toList, hr.out]
  have HK : Hid (KAt w) := hk
  clear hk
  go_enter Tryz.func60, Tryz.ntmps60
  have HB : Hid (Px.size r ≤ r + r + 2) := by
    show _ ≤ _
    have := Px.dl_le r
    unfold Px.size
    split <;> omega
  have hrb : r ≤ 281474976710659 := by have := hr.out; omega
  have hr2 : Hid ((a.size : Int) + (b.size : Int) + (3 : Int) = (r : Int)) := by show _ = _; have := hr.out; omega
  go_wp2
  rw [hr2.out]
  have hw1 : Bw w (w.alloc (.cells #[.string a, .string b] 42)) := Below.alloc (Below.refl _ _) (Nat.le_refl _) _
  go_loopw [4] (fun m wr => ∃ (k : Nat), 1 ≤ k ∧ Hid (r + k ≤ Px.size r) ∧ Hid (k ≤ Px.dl (r + k)) ∧ m = .int .i64 (k : Int) ∧ Bw w wr) (fun m _ => Px.size r - (intOf m).toNat)
  case atStart => exact ⟨1, Nat.le_refl _, Px.size_ge r, Px.dl_pos _, rfl, hw1⟩
  case round =>
    obtain ⟨k, hk1, hk2, hk3, rfl, hwr⟩ := hrel
    have k0 : (0 : Int) ≤ (k : Int) := Int.natCast_nonneg _
    have kb : k ≤ 562949953421322 := by have := HB.out; have := hk2.out; omega
    obtain ⟨m, hm⟩ : ∃ m, Hid (m = r + k) := ⟨_, rfl⟩
    have hm2 : (r : Int) + (k : Int) = (m : Int) := by have := hm.out; omega
    have mb : m ≤ 9007199254740992 := by have := hm.out; omega
    have hsz : (Nm.S (Px.dec m)).size = Px.dl m := by rw [Nm.size_S, Px.dec_len]
    obtain ⟨X, hX⟩ : ∃ X, Hid (X = Nm.S (Px.dec m)) := ⟨_, rfl⟩
    rw [← hX.out] at hsz
    have hdl : Hid (Px.dl m ≤ m + 1) := Px.dl_le m
    obtain ⟨d, hd⟩ : ∃ d, Hid (d = Px.dl m) := ⟨_, rfl⟩
    rw [← hd.out] at hsz hdl
    have hkd : Hid (k ≤ d) := by show _ ≤ _; have := hk3.out; rw [← hm.out, ← hd.out] at this; exact this
    have KT := HK.out.keep hwr
    have KK : Hid (KAt wr) := KT
    clear KT
    by_cases he : k < d
    · have e1 : (k : Int) < (d : Int) := by omega
      have n1 : Hid (r + (k + 1) ≤ Px.size r) := by
        show _ ≤ _
        rcases Nat.lt_or_ge (r + k) (Px.size r) with h | h
        · omega
        · exfalso
          have h1 : r + k = Px.size r := Nat.le_antisymm hk2.out h
          have h2 := Px.size_says r
          rw [← h1, ← hm.out, ← hd.out, hm.out] at h2
          omega
      have n2 : Hid (k + 1 ≤ Px.dl (r + (k + 1))) := by
        show _ ≤ _
        have h1 := Px.dl_mono (r + (k + 1)) (r + k) (by omega)
        rw [← hm.out, ← hd.out] at h1
        omega
      clear he
      go_wp2_with (go_at_call 77; refine (itoa_any m (by omega) _ KK.out).mono ?_; rintro e w2 ⟨rfl, hw2⟩; rw [← hX.out])
      go_roundw
      case rel => exact ⟨k + 1, by omega, n1, n2, by go_num, hwr.trans hw2⟩
      case measure => have := n1.out; simp [intOf]; omega
    · have e1 : ¬ (k : Int) < (d : Int) := by omega
      have hans : Hid (Px.psize (a.toList, b.toList) = m) := by
        show _ = _
        rw [HP.out]
        refine Nat.le_antisymm (Px.size_least ?_) (by rw [hm.out]; exact hk2.out)
        have := hkd.out
        rw [← hd.out, show d = k by omega]
        exact hm.out
      clear he
      go_wp2_with (go_at_call 77; refine (itoa_any m (by omega) _ KK.out).mono ?_; rintro e w2 ⟨rfl, hw2⟩; rw [← hX.out])
      go_ret
      exact ⟨ret_int (by rw [hans.out]), hwr.trans hw2⟩
end Go.Proofs.YtldkhbkgmiicbabGreatDoor

/- Keys: the library's search for bytes that no key has. -/
namespace Go.Proofs.YtldkhbkgmiicbabGreatDoor
open Go.RowKit Go.Deep
set_option linter.unusedVariables false
set_option linter.unusedSimpArgs false

set_option maxRecDepth 100000 in
set_option maxHeartbeats 1000000 in
theorem rune_err (w : World) : Calls Tryz.prog 108 #[.string ⟨#[0, 10, 61]⟩, .int .i32 65533] w fun e w' => e = .returned (.int .i64 (-1)) ∧ Bw w w' := by
  obtain ⟨C, hC⟩ : ∃ C : ByteArray, Hid (C = ⟨#[0, 10, 61]⟩) := ⟨_, rfl⟩
  have hs : C.size = 3 := by rw [hC.out]; rfl
  have ha : Hid (∀ i (h : i < C.size), (C[i]'h).toNat < 128) := by
    show ∀ i (h : i < C.size), (C[i]'h).toNat < 128
    obtain rfl := hC.out
    intro i h
    rcases i with _ | _ | _ | i
    · show (0 : UInt8).toNat < 128; decide
    · show (10 : UInt8).toNat < 128; decide
    · show (61 : UInt8).toNat < 128; decide
    · exact absurd h (by show ¬ i + 3 < 3; omega)
  rw [← hC.out]
  go_enter Tryz.func108, Tryz.ntmps108
  go_wp2
  go_loopg [5, 6] 3 (fun g _ _ wx => ∃ i : Nat, i + g = 3 ∧ wx = w.iter C i)
  case atStart => exact ⟨0, rfl, rfl⟩
  case round =>
    obtain ⟨i, hig, rfl⟩ := hrel
    cases gk with
    | zero =>
      obtain rfl : i = 3 := by omega
      have hnx := fun ty => run_next_end (P := Tryz.prog) w C 3 ty (by omega)
      go_wp2
      go_ret
      exact ⟨rfl, Below.alloc (Below.refl _ _) (Nat.le_refl _) _⟩
    | succ g =>
      have hi : i < C.size := by omega
      obtain ⟨x, hx⟩ : ∃ x : UInt8, C[i]'hi = x := ⟨_, rfl⟩
      have hx128 : x.toNat < 128 := by rw [← hx]; exact ha.out i hi
      have hnx := fun ty => run_next_ascii (P := Tryz.prog) w C i ty hi (by rw [hx]; exact hx128)
      rw [hx] at hnx
      clear hx
      have e1 : ((x.toNat : Int) == 65533) = false := beq_eq_false_iff_ne.2 (by omega)
      go_wp2
      go_roundg g
      case measure => omega
      case rel => exact ⟨i + 1, by omega, rfl⟩
set_option maxRecDepth 100000 in
set_option maxHeartbeats 1000000 in
theorem valid_any (r : Nat) (h2 : r ≤ 2147483647) (w : World) : Calls Tryz.prog 118 #[.int .i32 (r : Int)] w fun e w' => e = .returned (.bool (decide (r < 55296 ∨ 57343 < r ∧ r ≤ 1114111))) ∧ w' = w := by
  have r0 : (0 : Int) ≤ (r : Int) := Int.natCast_nonneg _
  obtain ⟨R, hR⟩ : ∃ R, Hid (decide (r < 55296 ∨ 57343 < r ∧ r ≤ 1114111) = R) := ⟨_, rfl⟩
  rw [hR.out]
  by_cases c1 : (r : Int) < 55296
  · have hr : Hid (R = true) := by show _ = _; rw [← hR.out]; exact decide_eq_true (by omega)
    go_enter Tryz.func118, Tryz.ntmps118
    go_wp2
    go_ret
    exact ⟨ret_bool hr.out.symm, rfl⟩
  · by_cases c2 : (57343 : Int) < (r : Int)
    · by_cases c3 : (r : Int) ≤ 1114111
      · have hr : Hid (R = true) := by show _ = _; rw [← hR.out]; exact decide_eq_true (by omega)
        go_enter Tryz.func118, Tryz.ntmps118
        go_wp2
        go_ret
        exact ⟨ret_bool hr.out.symm, rfl⟩
      · have hr : Hid (R = false) := by show _ = _; rw [← hR.out]; exact decide_eq_false (by omega)
        go_enter Tryz.func118, Tryz.ntmps118
        go_wp2
        go_ret
        exact ⟨ret_bool hr.out.symm, rfl⟩
    · have hr : Hid (R = false) := by show _ = _; rw [← hR.out]; exact decide_eq_false (by omega)
      go_enter Tryz.func118, Tryz.ntmps118
      go_wp2
      go_ret
      exact ⟨ret_bool hr.out.symm, rfl⟩
/-- the text of a rune that is no ASCII: its bytes are not ASCII -/
theorem enc_high (r : Nat) (h1 : 128 ≤ r) (hv : r < 55296 ∨ 57343 < r ∧ r ≤ 1114111) : ∃ x y z t : UInt8, 128 ≤ x.toNat ∧ 128 ≤ y.toNat ∧ 128 ≤ z.toNat ∧ 128 ≤ t.toNat ∧ (Utf8.encode (r : Int) = ⟨#[x, t]⟩ ∨ Utf8.encode (r : Int) = ⟨#[x, y, t]⟩ ∨ Utf8.encode (r : Int) = ⟨#[x, y, z, t]⟩) := by
  have hva : Utf8.valid (r : Int) = true := by
    unfold Utf8.valid
    simp only [Bool.or_eq_true, Bool.and_eq_true, decide_eq_true_eq]
    omega
  have hb : ∀ k, k < 64 → 128 ≤ (UInt8.ofNat (0x80 + k)).toNat := fun k hk => by rw [UInt8.toNat_ofNat']; omega
  unfold Utf8.encode
  simp only [hva, if_true, Int.toNat_natCast]
  by_cases c1 : r < 0x80
  · omega
  · by_cases c2 : r < 0x800
    · refine ⟨UInt8.ofNat (0xC0 + r / 64), UInt8.ofNat (0x80 + 0), UInt8.ofNat (0x80 + 0), UInt8.ofNat (0x80 + r % 64), by rw [UInt8.toNat_ofNat']; omega, hb _ (by omega), hb _ (by omega), hb _ (by omega), .inl ?_⟩
      rw [if_neg c1, if_pos c2]
    · by_cases c3 : r < 0x10000
      · refine ⟨UInt8.ofNat (0xE0 + r / 4096), UInt8.ofNat (0x80 + r / 64 % 64), UInt8.ofNat (0x80 + 0), UInt8.ofNat (0x80 + r % 64), by rw [UInt8.toNat_ofNat']; omega, hb _ (by omega), hb _ (by omega), hb _ (by omega), .inr (.inl ?_)⟩
        rw [if_neg c1, if_neg c2, if_pos c3]
      · refine ⟨UInt8.ofNat (0xF0 + r / 262144), UInt8.ofNat (0x80 + r / 4096 % 64), UInt8.ofNat (0x80 + r / 64 % 64), UInt8.ofNat (0x80 + r % 64), by rw [UInt8.toNat_ofNat']; omega, hb _ (by omega), hb _ (by omega), hb _ (by omega), .inr (.inr ?_)⟩
        rw [if_neg c1, if_neg c2, if_neg c3]
theorem byte_not (y : UInt8) (c : Int) (hy : 128 ≤ y.toNat) (hc : c < 128) : (c != (y.toNat : Int)) = true := by rw [bne_iff_ne]; omega
theorem ib_none (s : ByteArray) (c : UInt8) (hc : 128 ≤ c.toNat) (hs : ∀ b ∈ s.data.toList, b.toNat < 128) (w : World) : Calls Tryz.prog 66 #[.string s, .int .u8 (c.toNat : Int)] w fun e w' => e = .returned (.int .i64 (-1)) ∧ w' = w :=
  (Any.strings_IndexByte (ρ := sx150_ren) { sx150 with } s (c.toNat : Int) w).mono fun e w' ⟨h1, h2⟩ => ⟨by
    have hb : ((c.toNat : Int)).toNat.toUInt8 = c := by simp
    rw [h1, hb]
    have h3 : s.data.toList.contains c = false := by
      rw [List.contains_eq_mem]
      refine decide_eq_false fun h => ?_
      have := hs c h
      omega
    have h4 := Lib.contains_iff_indexByte s.data.toList c
    rw [h3] at h4
    have h5 := of_decide_eq_false h4.symm
    have h6 := Lib.indexByte_ge s.data.toList c
    congr 2
    omega, h2⟩
set_option maxRecDepth 100000 in
set_option maxHeartbeats 1000000 in
theorem rune_high (r : Nat) (h1 : 128 ≤ r) (h2 : r ≤ 2147483647) (h3 : r ≠ 65533) (w : World) : Calls Tryz.prog 108 #[.string ⟨#[0, 10, 61]⟩, .int .i32 (r : Int)] w fun e w' => e = .returned (.int .i64 (-1)) ∧ Bw w w' := by
  have e1 : ((r : Int) == 65533) = false := beq_eq_false_iff_ne.2 (by omega)
  have r0 : ¬ (r : Int) < 128 := by omega
  have r1 : (0 : Int) ≤ (r : Int) := by omega
  by_cases hv : r < 55296 ∨ 57343 < r ∧ r ≤ 1114111
  · have hd := decide_eq_true hv
    obtain ⟨x, y, z, t, hx, hy, hz, ht, he⟩ := enc_high r h1 hv
    have HV : Hid (decide (r < 55296 ∨ 57343 < r ∧ r ≤ 1114111) = true) := hd
    have hcv : ∀ W : World, (convert 21 9 (.int .i32 (r : Int))).run Tryz.prog W = .ok (.string (Utf8.encode (r : Int))) W := fun W => by kernel_rfl
    clear hv hd
    rcases he with he | he | he
    · rw [he] at hcv
      clear he
      go_enter Tryz.func108, Tryz.ntmps108
      go_wp2_with (go_at_call 118; refine (valid_any r h2 _).mono ?_; rintro e w1 ⟨rfl, hw1⟩; rw [HV.out]; subst w1)
      go_step3
      go_wp2
      go_loop [9, 10] (fun i f => i = .int .i64 1 ∧ f = .int .i64 0) (fun _ _ => 0)
      case atStart => exact ⟨rfl, rfl⟩
      case round =>
        obtain ⟨rfl, rfl⟩ := hrel
        have hb1 : ((((⟨#[0, 10, 61]⟩ : ByteArray)[1]'(by decide)).toNat : Int) != (((⟨#[x, t]⟩ : ByteArray)[1]'(by show 1 < 2; decide)).toNat : Int)) = true := byte_not t 10 ht (by decide)
        go_wp2
        go_step3
        go_wp2
        go_quiet (fail)
        clear hb1
        go_wp2
        generalize hW : w.drewN nq = W
        have hbw : Bw w W := by rw [← hW]; exact Bw.drewN _ _
        clear hW
        go_quiet (first | (go_at_call 66; exact Calls.quiet_of_same (ib_none _ t ht (by decide) _)) | (go_at_call 66; trace_state; fail))
        go_wp2
        simp only [Exit.noGoto_ret]
        go_wp2
        simp only [Exit.noGoto_ret]
        go_wp2
        go_ret
        exact ⟨rfl, hbw.trans (Bw.drewN _ _)⟩
    · rw [he] at hcv
      clear he
      go_enter Tryz.func108, Tryz.ntmps108
      go_wp2_with (go_at_call 118; refine (valid_any r h2 _).mono ?_; rintro e w1 ⟨rfl, hw1⟩; rw [HV.out]; subst w1)
      go_step3
      go_wp2
      go_loop [9, 10] (fun i f => i = .int .i64 2 ∧ f = .int .i64 0) (fun _ _ => 0)
      case atStart => exact ⟨rfl, rfl⟩
      case round =>
        obtain ⟨rfl, rfl⟩ := hrel
        have hb1 : ((((⟨#[0, 10, 61]⟩ : ByteArray)[2]'(by decide)).toNat : Int) != (((⟨#[x, y, t]⟩ : ByteArray)[2]'(by show 2 < 3; decide)).toNat : Int)) = true := byte_not t 61 ht (by decide)
        go_wp2
        go_step3
        go_wp2
        go_quiet (fail)
        clear hb1
        go_wp2
        generalize hW : w.drewN nq = W
        have hbw : Bw w W := by rw [← hW]; exact Bw.drewN _ _
        clear hW
        go_quiet (first | (go_at_call 66; exact Calls.quiet_of_same (ib_none _ t ht (by decide) _)) | (go_at_call 66; trace_state; fail))
        go_wp2
        simp only [Exit.noGoto_ret]
        go_wp2
        simp only [Exit.noGoto_ret]
        go_wp2
        go_ret
        exact ⟨rfl, hbw.trans (Bw.drewN _ _)⟩
    · rw [he] at hcv
      clear he
      go_enter Tryz.func108, Tryz.ntmps108
      go_wp2_with (go_at_call 118; refine (valid_any r h2 _).mono ?_; rintro e w1 ⟨rfl, hw1⟩; rw [HV.out]; subst w1)
      go_step3
      go_wp2
      go_loop [9, 10] (fun i f => i = .int .i64 3 ∧ f = .int .i64 0) (fun _ _ => 0)
      case atStart => exact ⟨rfl, rfl⟩
      case round =>
        obtain ⟨rfl, rfl⟩ := hrel
        go_wp2
        go_ret
        exact ⟨rfl, Bw.refl _⟩
  · have HV : Hid (decide (r < 55296 ∨ 57343 < r ∧ r ≤ 1114111) = false) := decide_eq_false hv
    clear hv
    go_enter Tryz.func108, Tryz.ntmps108
    go_wp2_with (go_at_call 118; refine (valid_any r h2 _).mono ?_; rintro e w1 ⟨rfl, hw1⟩; rw [HV.out]; subst w1)
    go_ret
    exact ⟨rfl, Bw.refl _⟩
end Go.Proofs.YtldkhbkgmiicbabGreatDoor

/- Keys: strings.IndexAny, strings.ContainsAny at the three bytes that no key has; the program's own isKey. -/
namespace Go.Proofs.YtldkhbkgmiicbabGreatDoor
open Go.RowKit Go.Deep
set_option linter.unusedVariables false
set_option linter.unusedSimpArgs false

/-- a rune that is no ASCII takes bytes that are none -/
theorem decode_span (s : ByteArray) (pos : Nat) (h : pos < s.size) (ha : 128 ≤ (s[pos]'h).toNat) : pos + (Utf8.decode s pos).2 ≤ s.size ∧ ∀ j (hj : j < s.size), pos ≤ j → j < pos + (Utf8.decode s pos).2 → 128 ≤ (s[j]'hj).toNat := by
  have g : ∀ k (hk : pos + k < s.size), s.get! (pos + k) = s[pos + k]'hk := fun k hk => by
    show s.get! (pos + k) = _
    simp [ByteArray.get!, getElem!_pos, hk]
    rfl
  have hn : ¬ (s[pos]'h).toNat < 128 := by omega
  have one : pos + 1 ≤ s.size ∧ ∀ j (hj : j < s.size), pos ≤ j → j < pos + 1 → 128 ≤ (s[j]'hj).toNat := ⟨by omega, fun j hj h1 h2 => by
    obtain rfl : j = pos := by omega
    exact ha⟩
  have many : ∀ d, (∀ k, 1 ≤ k → k < d → (decide (pos + k < s.size) && (s.get! (pos + k)).toNat / 64 == 2) = true) → pos + d ≤ s.size + 1 → (1 < d → pos + d ≤ s.size) → ∀ j (hj : j < s.size), pos ≤ j → j < pos + d → 128 ≤ (s[j]'hj).toNat := by
    intro d hd _ _ j hj h1 h2
    obtain ⟨k, rfl⟩ : ∃ k, j = pos + k := ⟨j - pos, by omega⟩
    rcases Nat.eq_zero_or_pos k with rfl | hk
    · exact ha
    · have := hd k hk (by omega)
      rw [Bool.and_eq_true, beq_iff_eq, g k hj] at this
      have := this.2
      omega
  have lt : ∀ k, (decide (pos + k < s.size) && (s.get! (pos + k)).toNat / 64 == 2) = true → pos + k < s.size := fun k hk => by
    rw [Bool.and_eq_true, decide_eq_true_eq] at hk; exact hk.1
  simp only [Utf8.decode, get_at s pos h, hn, if_false]
  split
  · rename_i c
    rw [Bool.and_eq_true] at c
    have l1 := lt 1 c.2
    split
    · exact ⟨by show pos + 2 ≤ _; omega, many 2 (fun k h1 h2 => by
        obtain rfl : k = 1 := by omega
        exact c.2) (by omega) (by omega)⟩
    · exact one
  · split
    · rename_i c
      rw [Bool.and_eq_true, Bool.and_eq_true] at c
      have l1 := lt 1 c.1.2
      have l2 := lt 2 c.2
      split
      · exact ⟨by show pos + 3 ≤ _; omega, many 3 (fun k h1 h2 => by
          rcases (by omega : k = 1 ∨ k = 2) with rfl | rfl
          · exact c.1.2
          · exact c.2) (by omega) (by omega)⟩
      · exact one
    · split
      · rename_i c
        rw [Bool.and_eq_true, Bool.and_eq_true, Bool.and_eq_true] at c
        have l3 := lt 3 c.2
        split
        · exact ⟨by show pos + 4 ≤ _; omega, many 4 (fun k h1 h2 => by
            rcases (by omega : k = 1 ∨ k = 2 ∨ k = 3) with rfl | rfl | rfl
            · exact c.1.1.2
            · exact c.1.2
            · exact c.2) (by omega) (by omega)⟩
        · exact one
      · exact one
/-- the three bytes -/
def Px.nik : Px.B := [0, 10, 61]
theorem Px.nik_lt {b : UInt8} (h : Px.nik.contains b = true) : b.toNat < 128 := by
  rw [List.contains_eq_mem, decide_eq_true_eq] at h
  simp only [Px.nik, List.mem_cons, List.not_mem_nil, or_false] at h
  rcases h with rfl | rfl | rfl <;> decide
theorem rune_any (r : Nat) (h1 : 128 ≤ r) (h2 : r ≤ 2147483647) (w : World) : Calls Tryz.prog 108 #[.string ⟨#[0, 10, 61]⟩, .int .i32 (r : Int)] w fun e w' => e = .returned (.int .i64 (-1)) ∧ Bw w w' := by
  by_cases h : r = 65533
  · subst h; exact rune_err w
  · exact rune_high r h1 h2 h w
theorem rune_low (x : UInt8) (h : x.toNat < 128) (w : World) : Calls Tryz.prog 108 #[.string ⟨#[0, 10, 61]⟩, .int .i32 (x.toNat : Int)] w fun e w' => e = .returned (.int .i64 (Lib.indexByte Px.nik x)) ∧ w' = w :=
  (Any.strings_IndexRune_ascii (ρ := sx150_ren) { sx150 with } ⟨#[0, 10, 61]⟩ (x.toNat : Int) w (by omega) (by omega)).mono fun e w' ⟨h1, h2⟩ => ⟨by
    have hb : ((x.toNat : Int)).toNat.toUInt8 = x := by simp
    rw [h1, hb]; rfl, h2⟩
theorem use_any (n : Int) (w : World) : Calls Tryz.prog 109 #[.int .i64 n] w fun e w' => e = .returned (.bool (decide (8 < n))) ∧ w' = w :=
  Any.strings_shouldUseASCIISet (ρ := sx150_ren) { sx150 with } n w
set_option maxRecDepth 100000 in
set_option maxHeartbeats 1000000 in
theorem idx_short (s : ByteArray) (h8 : s.size ≤ 8) (w : World) :
    Calls Tryz.prog 96 #[.string s, .string ⟨#[0, 10, 61]⟩] w fun e w' => e = .returned (.int .i64 (Lib.indexAny s.data.toList Px.nik)) ∧ Bw w w' := by
  have h8z : decide ((8 : Int) < (s.size : Int)) = false := decide_eq_false (by omega)
  have hw0 : Bw w (w.iter s 0) := Below.alloc (Below.refl _ _) (Nat.le_refl _) _
  go_enter Tryz.func96, Tryz.ntmps96
  go_wp2_with (go_at_call 109; refine (use_any _ _).mono ?_; rintro e w' ⟨rfl, hw⟩; rw [hw, h8z])
  go_loopg [9, 10] s.size (fun g _ _ wx => ∃ i : Nat, i + g = s.size ∧ Hid (wx.heap[w.heap.size]? = some (.stringIter s i)) ∧ Bw w wx ∧ Hid (Lib.NoAny s.data.toList Px.nik i))
  case atStart => exact ⟨0, by omega, World.iter_heap w s 0, hw0, Lib.NoAny.zero _ _⟩
  case round =>
    obtain ⟨i, hig, hit, hbw, hno⟩ := hrel
    cases gk with
    | zero =>
      obtain rfl : i = s.size := by omega
      have hnx := fun ty => Lib.run_next_end_at (P := Tryz.prog) wr w.heap.size s s.size ty hit.out (by omega)
      go_wp2
      go_ret
      exact ⟨by rw [Lib.indexAny_none (by rw [← Lib.size_eq]; exact hno.out)]; rfl, hbw⟩
    | succ g =>
      have hi : i < s.size := by omega
      obtain ⟨x, hx⟩ : ∃ x : UInt8, s[i]'hi = x := ⟨_, rfl⟩
      have Hx : Hid (s.data.toList[i]? = some x) := by show _ = _; rw [← hx]; exact Lib.data_getElem? s i hi
      have hnx := fun ty => Lib.run_next_any_at (P := Tryz.prog) wr w.heap.size s i ty hit.out hi
      have hW : ∀ p, Hid (Bw w (wr.iterAt w.heap.size s p) ∧ (wr.iterAt w.heap.size s p).heap[w.heap.size]? = some (.stringIter s p)) := fun p => ⟨Lib.below_iterAt hbw (Nat.le_refl _) s p, Lib.iterAt_heap wr _ s i p hit.out⟩
      by_cases hlt : x.toNat < 128
      · have hdec := decode_ascii s i hi (by rw [hx]; exact hlt)
        rw [hx] at hdec
        rw [hdec] at hnx
        dsimp only at hnx
        obtain ⟨W, hWW⟩ : ∃ W, Hid (wr.iterAt w.heap.size s (i + 1) = W) := ⟨_, rfl⟩
        have hW1 := (hW (i + 1)).out
        rw [hWW.out] at hnx hW1
        clear hW hdec hx
        have hcon := Lib.contains_iff_indexByte Px.nik x
        cases hin : Px.nik.contains x
        · rw [hin] at hcon
          have hneg : ¬ ((0 : Int) ≤ Lib.indexByte Px.nik x) := of_decide_eq_false hcon.symm
          have hno2 : Hid (Lib.NoAny s.data.toList Px.nik (i + 1)) := hno.out.succ Hx.out hin
          clear hcon hin
          go_wp2_with (go_at_call 108; refine (rune_low x hlt _).mono ?_; rintro e w' ⟨rfl, hw⟩; rw [hw])
          go_roundg g
          case measure => omega
          case rel => exact ⟨i + 1, by omega, hW1.2, hW1.1, hno2⟩
        · rw [hin] at hcon
          have hpos : (0 : Int) ≤ Lib.indexByte Px.nik x := of_decide_eq_true hcon.symm
          have hans : Hid (Lib.indexAny s.data.toList Px.nik = (i : Int)) := Lib.indexAny_hit hno.out Hx.out hin
          clear hcon hin
          go_wp2_with (go_at_call 108; refine (rune_low x hlt _).mono ?_; rintro e w' ⟨rfl, hw⟩; rw [hw])
          go_ret
          exact ⟨by rw [hans.out]; rfl, hW1.1⟩
      · have hhi : 128 ≤ (s[i]'hi).toNat := by rw [hx]; omega
        have d1 := decode_high s i hi hhi
        have d2 := decode_le s i
        have d3 := decode_span s i hi hhi
        have hno2 : Hid (Lib.NoAny s.data.toList Px.nik (i + (Utf8.decode s i).2)) := fun j b hj hb => by
          rcases Nat.lt_or_ge j i with h | h
          · exact hno.out j b h hb
          · have hjs : j < s.size := by have := d3.1; omega
            have h4 := d3.2 j hjs h hj
            have h5 := Lib.data_getElem? s j hjs
            rw [hb, Option.some.injEq] at h5
            rw [← h5] at h4
            cases hin : Px.nik.contains b
            · rfl
            · have := Px.nik_lt hin; omega
        have d4 := d3.1
        clear d3 hx hlt hhi
        generalize (Utf8.decode s i).1 = r at hnx d1 d2
        generalize hd : (Utf8.decode s i).2 = d at hnx d1 hno2 d4
        clear hd
        obtain ⟨W, hWW⟩ : ∃ W, Hid (wr.iterAt w.heap.size s (i + d) = W) := ⟨_, rfl⟩
        have hW1 := (hW (i + d)).out
        rw [hWW.out] at hnx hW1
        clear hW
        go_wp2_with (go_at_call 108; refine (rune_any r d1.1 d2 _).mono ?_; rintro e w2 ⟨rfl, hw2⟩)
        go_roundg (s.size - (i + d))
        case measure => omega
        case rel => exact ⟨i + d, by omega, (hw2.block _ (Array.getElem?_eq_some_iff.1 hW1.2).1).trans hW1.2, hW1.1.trans hw2, hno2⟩
set_option maxRecDepth 100000 in
theorem info256 : (Tryz.prog.info? 145).map (fun i => (i.zero, i.size)) = some (some (.agg (Array.replicate 256 (.bool false))), 256) := by kernel_rfl
set_option maxRecDepth 100000 in
theorem idx_long (s : ByteArray) (h8 : 8 < s.size) (hs : s.size ≤ 32) (w : World) :
    Calls Tryz.prog 96 #[.string s, .string ⟨#[0, 10, 61]⟩] w fun e w' => e = .returned (.int .i64 (Lib.indexAny s.data.toList Px.nik)) ∧ Bw w w' :=
  (Any.strings_IndexAny_long (ρ := sx150_ren) { sx150 with } (zero_of_info info256).1 (zero_of_info info256).2 s ⟨#[0, 10, 61]⟩ w (by decide) h8 (by omega) (by decide) (fun j b hb => Px.nik_lt (by rw [List.contains_eq_mem, decide_eq_true_eq]; exact List.mem_of_getElem? hb))).mono fun e w' ⟨h1, h2⟩ => ⟨h1, by
    rw [h2]
    exact ((Below.refl _ _).alloc (Nat.le_refl _) _).alloc (by simp) _⟩
theorem idx_any (s : ByteArray) (hs : s.size ≤ 32) (w : World) :
    Calls Tryz.prog 96 #[.string s, .string ⟨#[0, 10, 61]⟩] w fun e w' => e = .returned (.int .i64 (Lib.indexAny s.data.toList Px.nik)) ∧ Bw w w' := by
  by_cases h : s.size ≤ 8
  · exact idx_short s h w
  · exact idx_long s (by omega) hs w
set_option maxHeartbeats 1000000 in
theorem cany_any (s : ByteArray) (hs : s.size ≤ 32) (w : World) :
    Calls Tryz.prog 89 #[.string s, .string ⟨#[0, 10, 61]⟩] w fun e w' => e = .returned (.bool (decide (0 ≤ Lib.indexAny s.data.toList Px.nik))) ∧ Bw w w' := by
  go_enter Tryz.func89, Tryz.ntmps89
  go_wp2_with (go_at_call 96; refine (idx_any s hs _).mono ?_; rintro e w1 ⟨rfl, hw1⟩)
  go_ret
  exact ⟨rfl, hw1⟩
theorem Px.none_any : ∀ l : Px.B, decide (0 ≤ Lib.indexAny l Px.nik) = !(l.all (fun c => c != 0 && c != 10 && c != 61)) := by
  intro l
  induction l with
  | nil => rfl
  | cons c l ih =>
    have hge := Lib.indexAny_ge Px.nik l
    rw [List.all_cons, Bool.not_and, ← ih]
    have hc : Px.nik.contains c = !(c != 0 && c != 10 && c != 61) := by
      rw [Bool.not_and, Bool.not_and, bne, bne, bne, Bool.not_not, Bool.not_not, Bool.not_not]
      show (c == 0 || (c == 10 || (c == 61 || false))) = _
      rw [Bool.or_false, Bool.or_assoc]
    rw [← hc]
    have hi : Lib.indexAny (c :: l) Px.nik = if Px.nik.contains c then 0 else if Lib.indexAny l Px.nik == -1 then -1 else Lib.indexAny l Px.nik + 1 := rfl
    rw [hi]
    cases h : Px.nik.contains c
    · rw [Bool.false_or, if_neg Bool.false_ne_true]
      by_cases h1 : Lib.indexAny l Px.nik = -1
      · rw [if_pos (by rw [h1]; rfl), h1]
      · rw [if_neg (by rw [beq_iff_eq]; exact h1), decide_eq_true (by omega), decide_eq_true (by omega)]
    · rw [if_pos rfl]; rfl
set_option maxHeartbeats 1000000 in
theorem iskey_any (s : ByteArray) (hs : s.size ≤ 140737488355328) (w : World) :
    Calls Tryz.prog 76 #[.string s] w fun e w' => e = .returned (.bool (Px.keyF s.toList)) ∧ Bw w w' := by
  obtain ⟨R, hR⟩ : ∃ R, Hid (Px.keyF s.toList = R) := ⟨_, rfl⟩
  rw [hR.out]
  have hl : Hid (s.toList.length = s.size) := Nm.size_toList s
  by_cases h0 : s.size = 0
  · have hr : Hid (R = false) := by
      show _ = _
      rw [← hR.out]
      unfold Px.keyF
      rw [hl.out, decide_eq_false (show ¬ 1 ≤ s.size by omega), Bool.and_false, Bool.false_and]
    have he : s.toList.isEmpty = true := by rw [List.isEmpty_iff, ← List.length_eq_zero_iff, hl.out]; exact h0
    clear h0
    go_enter Tryz.func76, Tryz.ntmps76
    go_wp2
    go_ret
    exact ⟨ret_bool hr.out.symm, Bw.refl _⟩
  · have he : s.toList.isEmpty = false := by
      cases h : s.toList.isEmpty
      · rfl
      · rw [List.isEmpty_iff, ← List.length_eq_zero_iff, hl.out] at h; exact absurd h h0
    by_cases h32 : s.size ≤ 32
    · have i32 : (s.size : Int) ≤ 32 := by omega
      have hr : Hid (R = !(decide (0 ≤ Lib.indexAny s.data.toList Px.nik))) := by
        show _ = _
        rw [← hR.out]
        unfold Px.keyF
        rw [hl.out, decide_eq_true (show 1 ≤ s.size by omega), decide_eq_true h32, Bool.and_true, Bool.and_true, ← Lib.toList_data, Px.none_any, Bool.not_not]
      clear h0
      obtain ⟨b, hb⟩ : ∃ b, Hid (decide (0 ≤ Lib.indexAny s.data.toList Px.nik) = b) := ⟨_, rfl⟩
      rw [hb.out] at hr
      go_enter Tryz.func76, Tryz.ntmps76
      go_wp2_with (go_at_call 89; refine (cany_any s h32 _).mono ?_; rintro e w1 ⟨rfl, hw1⟩; rw [hb.out])
      go_ret
      exact ⟨ret_bool hr.out.symm, hw1⟩
    · have i32 : ¬ (s.size : Int) ≤ 32 := by omega
      have hr : Hid (R = false) := by
        show _ = _
        rw [← hR.out]
        unfold Px.keyF
        rw [hl.out, decide_eq_false h32, Bool.and_false]
      clear h0
      go_enter Tryz.func76, Tryz.ntmps76
      go_wp2
      go_ret
      exact ⟨ret_bool hr.out.symm, Bw.refl _⟩
end Go.Proofs.YtldkhbkgmiicbabGreatDoor

/- What is thrown: must, mustBePair; what is caught. -/
namespace Go.Proofs.YtldkhbkgmiicbabGreatDoor
open Go.RowKit Go.Deep
set_option linter.unusedVariables false
set_option linter.unusedSimpArgs false

/-- how a call ends that throws an error but 0 -/
def thrown (er : Nat) : Ending := .panicked [{ v := .iface 29 (.int .i64 (er : Int)), recovered := false }]
set_option maxHeartbeats 1000000 in
theorem must_yes (t : Bool) (ht : t = true) (er : Int) (w : World) : Calls Tryz.prog 62 #[.bool t, .int .i64 er] w fun e w' => e = .returned (.tuple #[]) ∧ w' = w := by
  subst ht
  go_enter Tryz.func62, Tryz.ntmps62
  go_wp2
  refine bodyPost_end (results_none rfl _ _ _) rfl ?_
  exact ⟨rfl, rfl⟩
set_option maxHeartbeats 1000000 in
theorem must_no (t : Bool) (ht : t = false) (er : Nat) (x : Int) (hx : x = (er : Int)) (w : World) : Calls Tryz.prog 62 #[.bool t, .int .i64 x] w fun e w' => e = thrown er ∧ w' = w := by
  subst hx; subst ht
  go_enter Tryz.func62, Tryz.ntmps62
  go_wp2
  exact ⟨rfl, rfl, rfl⟩
theorem Px.fits_key {a b : Px.B} (h : Px.keyF a = false) : Px.fits (a, b) = 91 := by unfold Px.fits; rw [if_pos h]
theorem Px.fits_long {a b : Px.B} (h : Px.keyF a = true) (hb : 1024 < b.length) : Px.fits (a, b) = 2 := by unfold Px.fits; rw [if_neg (by rw [h]; exact fun h => by cases h), if_pos hb]
theorem Px.fits_good {a b : Px.B} (h : Px.keyF a = true) (hb : ¬ 1024 < b.length) : Px.fits (a, b) = 0 := by unfold Px.fits; rw [if_neg (by rw [h]; exact fun h => by cases h), if_neg hb]
/-- what asks that something hold: it returns, or throws -/
def Asks (er : Nat) (e : Ending) : Prop := er = 0 ∧ e = .returned (.tuple #[]) ∨ er ≠ 0 ∧ e = thrown er
set_option maxHeartbeats 1000000 in
theorem mbp_any (a b : ByteArray) (ha : a.size ≤ 140737488355328) (hb : b.size ≤ 140737488355328) (w : World) :
    Calls Tryz.prog 59 #[.agg #[.string a, .string b]] w fun e w' => Asks (Px.fits (a.toList, b.toList)) e ∧ Bw w w' := by
  have hw0 : Bw w (w.alloc (.cells #[.string a, .string b] 42)) := Below.alloc (Below.refl _ _) (Nat.le_refl _) _
  have HP : Hid (∀ W, Bw (w.alloc (.cells #[.string a, .string b] 42)) W → W.cell? ⟨w.heap.size, 0, none⟩ = some (.string a) ∧ W.cell? ⟨w.heap.size, 1, none⟩ = some (.string b)) := fun W h => by
    have g := (h.block _ (by simp)).trans (World.alloc_heap_new w (.cells #[.string a, .string b] 42))
    exact ⟨cell_of_row W _ 0 _ _ _ g, cell_of_row W _ 1 _ _ _ g⟩
  have hl : Hid (b.toList.length = b.size) := Nm.size_toList b
  by_cases hk : Px.keyF a.toList = true
  · have HK : Hid (Px.keyF a.toList = true) := hk
    have tok0 : Hid (w = w) := rfl
    have tok1 : Hid (w = w) := rfl
    by_cases hb2 : 1024 < b.size
    · have hF : Hid (Px.fits (a.toList, b.toList) = 2) := Px.fits_long hk (by rw [hl.out]; exact hb2)
      have i2 : ¬ (b.size : Int) ≤ 1024 := by omega
      clear hk
      rw [hF.out]
      go_enter Tryz.func59, Tryz.ntmps59
      go_wp2_with (first
        | (go_at_call 76; refine (iskey_any a ha _).mono ?_; rintro e w1 ⟨rfl, hw1⟩; rw [HK.out]; obtain ⟨c1, c2⟩ := HP.out w1 hw1)
        | (go_at_call 62; clear tok0; refine (must_yes _ (by first | rfl | exact decide_eq_true (by omega)) _ _).mono ?_; rintro e w2 ⟨rfl, hw2⟩; subst w2)
        | (go_at_call 62; clear tok1; refine (must_no _ (by first | rfl | exact decide_eq_false (by omega)) 2 2 rfl _).mono ?_; rintro e w3 ⟨rfl, hw3⟩; subst w3; unfold thrown))
      exact ⟨rfl, .inr ⟨by decide, rfl⟩, hw0.trans hw1⟩
    · have hF : Hid (Px.fits (a.toList, b.toList) = 0) := Px.fits_good hk (by rw [hl.out]; exact hb2)
      have i2 : (b.size : Int) ≤ 1024 := by omega
      clear hk
      rw [hF.out]
      go_enter Tryz.func59, Tryz.ntmps59
      go_wp2_with (first
        | (go_at_call 76; refine (iskey_any a ha _).mono ?_; rintro e w1 ⟨rfl, hw1⟩; rw [HK.out]; obtain ⟨c1, c2⟩ := HP.out w1 hw1)
        | (go_at_call 62; clear tok0; refine (must_yes _ (by first | rfl | exact decide_eq_true (by omega)) _ _).mono ?_; rintro e w2 ⟨rfl, hw2⟩; subst w2)
        | (go_at_call 62; clear tok1; refine (must_yes _ (by first | rfl | exact decide_eq_true (by omega)) _ _).mono ?_; rintro e w3 ⟨rfl, hw3⟩; subst w3))
      refine bodyPost_end (results_none rfl _ _ _) rfl ?_
      exact ⟨.inl ⟨rfl, rfl⟩, hw0.trans hw1⟩
  · have HK : Hid (Px.keyF a.toList = false) := by show _ = _; cases h : Px.keyF a.toList <;> simp_all
    have tok0 : Hid (w = w) := rfl
    have hF : Hid (Px.fits (a.toList, b.toList) = 91) := Px.fits_key HK.out
    clear hk
    rw [hF.out]
    go_enter Tryz.func59, Tryz.ntmps59
    go_wp2_with (first
      | (go_at_call 76; refine (iskey_any a ha _).mono ?_; rintro e w1 ⟨rfl, hw1⟩; rw [HK.out]; obtain ⟨c1, c2⟩ := HP.out w1 hw1)
      | (go_at_call 62; clear tok0; refine (must_no _ rfl 91 91 rfl _).mono ?_; rintro e w2 ⟨rfl, hw2⟩; subst w2; unfold thrown))
    exact ⟨rfl, .inr ⟨by decide, rfl⟩, hw0.trans hw1⟩
end Go.Proofs.YtldkhbkgmiicbabGreatDoor
