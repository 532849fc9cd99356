/- Proved: for every matrix of bytes, every whole number and every list of whole numbers the statement CodeBack answers true (the document's P3.5: any k shards of a word, whichever they are, and any k + 1, give its data and each of its shards), with no condition but the reach; arguments may share memory. -/
import Derived.Test.YtbhbdhkifkmkbaaB10
import Derived.ShutString
import Derived.ChangeOld
namespace Go.Proofs.Ytbhbdhkifkmkbaa.codeBack
open Go.ChangeShapes Go.WideShapes Go.ChangeAt Go.RowKit
set_option linter.unusedVariables false

theorem back_great (A B : Option Addr) (k ca l cb : Nat) (R : Nat → Option Addr) (L C : Nat → Nat) (Z : Nat → Nat → Int) (N : Int) (w : World) (ha : InMat w A k ca R L C Z) (h1 : great3 k L = true) :
    Calls Try.prog 5 #[.slice A k ca, .int .i64 N, .slice B l cb] w fun e w' => e = .returned (.bool true) ∧ Bw w w' := by
  have a1 := ha.le
  have a2 := ha.room
  have al : ∀ r, r < k → L r ≤ 140737488355328 := fun r hr => by have := ha.rows r hr; omega
  have AL : Hid (∀ r, r < k → L r ≤ 140737488355328) := al
  clear al
  go_enter Try.func5, Try.ntmps5
  go_wp2_with (first
    | (go_at_call 9; refine (great3_any A k ca R L C Z AL.out (by omega) _ ha.mat).mono ?_; rintro e w' ⟨rfl, hw'⟩; subst w'; rw [h1])
    | (go_at_call 10; refine (wakes3_any _).mono ?_; rintro e w1 ⟨rfl, hw1⟩))
  go_ret
  exact ⟨rfl, hw1⟩

theorem back_err (A B : Option Addr) (k ca l cb : Nat) (R : Nat → Option Addr) (L C : Nat → Nat) (Z : Nat → Nat → Int) (N : Int) (w : World) (ha : InMat w A k ca R L C Z) (h1 : great3 k L = false) (x : Int) (hx : EncSays k L N x 0) (h0 : x ≠ 0) :
    Calls Try.prog 5 #[.slice A k ca, .int .i64 N, .slice B l cb] w fun e w' => e = .returned (.bool true) ∧ Bw w w' := by
  have hk := (great3_no h1).1
  have AL : Hid (∀ r, r < k → L r ≤ 140737488355328) := fun r hr => by have := (great3_no h1).2 r hr; omega
  have e0 : (x != 0) = true := by simpa using h0
  go_enter Try.func5, Try.ntmps5
  go_wp2_with (first
    | (go_at_call 9; refine (great3_any A k ca R L C Z AL.out (by omega) _ ha.mat).mono ?_; rintro e w' ⟨rfl, hw'⟩; subst w'; rw [h1])
    | (go_at_call 14; refine (enc_res A k ca R L C Z N _ ha.mat).mono ?_; rintro e w1 ⟨v, x', kk, rfl, hr1, hs, hw1⟩; obtain ⟨e1, e2⟩ := encsays_unique hx hs; subst x'; subst kk; obtain ⟨X, xc, RX, CX, rfl, hX⟩ := hr1; clear hs)
    | (go_at_call 10; refine (wakes3_any _).mono ?_; rintro e w2 ⟨rfl, hw2⟩))
  go_ret
  exact ⟨rfl, hw1.trans hw2⟩

/-- shards of a word, chosen by numbers that are right, are that word's -/
theorem back_says {k n most q : Nat} {g : Nat → Int} {Z : Nat → Nat → Int} (hkn : KnWrong (k : Int) (n : Int) 0) (hg : Good most (n : Int) g) (hk : k ≤ most) (hq : q ≤ 131072) (hZ : ∀ j, j < k → ∀ c, 0 ≤ Z j c ∧ Z j c < 256) :
    DecSays (k : Int) (n : Int) most most (fun _ => q) g (fun i => wordI k Z (g i).toNat) 0 k Z :=
  Or.inr (Or.inr ⟨Or.inr (Or.inr (Or.inr (Or.inr ⟨hkn, rfl, hg, by omega, Or.inr (Or.inr ⟨rfl, fun _ _ => hq, fun _ _ => rfl⟩)⟩))), rfl, (Int.toNat_natCast k).symm, by rw [Int.toNat_natCast]; exact ⟨hZ, fun i _ c _ => rfl⟩⟩)

attribute [local go_sem] List.getElem?_cons_zero Option.getD_some

set_option maxRecDepth 100000 in
set_option maxHeartbeats 4000000 in
theorem back_main (A B : Option Addr) (k ca l cb : Nat) (R : Nat → Option Addr) (L C : Nat → Nat) (Z : Nat → Nat → Int) (f : Nat → Int) (n : Nat) (w : World) (ha : InMat w A k ca R L C Z) (hb : InInts w B l cb f) (h1 : great3 k L = false) (hx : EncSays k L (n : Int) 0 n) :
    Calls Try.prog 5 #[.slice A k ca, .int .i64 (n : Int), .slice B l cb] w fun e w' => e = .returned (.bool true) ∧ Bw w w' := by
  have hk := (great3_no h1).1
  have AL : Hid (∀ r, r < k → L r ≤ 140737488355328) := fun r hr => by have := (great3_no h1).2 r hr; omega
  obtain ⟨hkn, hra, -⟩ := encsays_ok hx
  obtain ⟨n1, n2, n3⟩ := kn_ok hkn
  have hbl : l ≤ 140737488355328 := by have := hb.le; have := hb.room; omega
  have HF : Hid (∀ i, -9223372036854775808 ≤ f i ∧ f i ≤ 9223372036854775807) := hb.bd
  have bi := hb.row
  have am := ha.mat
  have hq : L 0 ≤ 131072 := (rows_ok hra).1 0 (by omega)
  have HLq : Hid (∀ r, r < k → L r = L 0) := (rows_ok hra).2
  have HZ : Hid (∀ j, j < k → ∀ c, 0 ≤ Z j c ∧ Z j c < 256) := fun j hj => (am.2 j hj).2
  have HK : Hid (KnWrong (k : Int) (n : Int) 0) := hkn
  have HR : Hid (RowsWrong k L 0) := hra
  have c4 : ((n : Int) != (n : Int)) = false := by simp
  have hsd : Hid (SameM k k (fun _ => L 0) L (wordI k Z) Z) := ⟨rfl, fun r hr => ⟨(HLq.out r hr).symm, fun i _ => word_data (by omega) hr (HZ.out r hr i)⟩⟩
  clear hb ha hra
  generalize hq0 : L 0 = q at *
  go_enter Try.func5, Try.ntmps5
  go_wp2_with (first
    | (go_at_call 9; refine (great3_any A k ca R L C Z AL.out (by omega) _ am).mono ?_; rintro e w' ⟨rfl, hw'⟩; subst w'; rw [h1])
    | (go_at_call 14; refine (enc_ok2 A k n ca R L C Z _ am HK.out HR.out).mono ?_; rintro e w1 ⟨bX, RX, CX, rfl, hX0, hw1⟩; rw [hq0] at hX0; have hX := hX0.mat; have am1 := am.keep hw1; have hxc : (k : Int) ≤ (n : Int) := (by omega); clear hX0)
    | (go_at_call 15; refine (rsame_any _ A k k _ ca RX R _ CX L C _ Z (by omega) _ (mat_take hX (by omega)) am1).mono ?_; rintro e w2 ⟨y, rfl, hy, hw2⟩; obtain rfl : y = true := hy.2 hsd.out; have hX2 := hX.keep hw2; have hw12 := hw1.trans hw2; clear hy am1))
  go_loopw [10] (fun i wr => ∃ t : Nat, k ≤ t ∧ t ≤ k + 2 ∧ t ≤ n + 1 ∧ i = .int .i64 t ∧ Bw w2 wr) (fun i _ => k + 2 - (intOf i).toNat)
  case atStart => exact ⟨k, Nat.le_refl _, by omega, by omega, rfl, Bw.refl _⟩
  case round =>
    rename World => wo
    obtain ⟨t, hkt, ht2, htn, rfl, hwo⟩ := hrel
    by_cases hlt : t ≤ n ∧ t ≤ k + 1
    · have t1 : (t : Int) ≤ (n : Int) := by omega
      have t2 : (t : Int) ≤ (k : Int) + 1 := by omega
      have hXo := hX2.keep hwo
      have bio := bi.keep (hw12.trans hwo)
      go_wp2_with (first
        | (go_at_call 22; refine (chosen_any B l cb n t f _ bio HF (by omega) (by omega) (by omega) hbl).mono ?_; rintro e w3 ⟨A3, cap3, g, rfl, hi3, hg3, hw3⟩; have HG : Hid (Good t (n : Int) g) := hg3; have hgb : Hid (∀ i, i < t → 0 ≤ g i ∧ g i < (n : Int)) := (fun i hi => (HG.out i hi).1); clear hg3)
        | (go_at_call 23; refine (taken_any _ A3 n t _ cap3 RX _ CX _ g _ (hXo.keep hw3) hi3 (by omega) hgb).mono ?_; rintro e w4 ⟨A4, cap4, rfl, hm4, hw4⟩; have hi4 := hi3.keep hw4)
        | (go_at_call 18; refine (dec_all (k : Int) (n : Int) A4 A3 t t cap4 cap3 _ _ _ _ g _ hm4 hi4 (by omega) (by omega)).mono ?_; rintro e w5 ⟨v, x', kk, D, rfl, hr5, hs5, hw5⟩; obtain ⟨e1, e2, e3⟩ := decsays_unique (back_says HK.out HG.out hkt hq HZ.out) hs5; subst x'; subst kk; have HD : Hid (∀ j, j < k → ∀ c, c < q → Z j c = D j c) := e3; obtain ⟨A5, cap5, R5, C5, rfl, hn5⟩ := hr5; have m5 := hn5.mat; have am5 := am.keep (hw12.trans (hwo.trans (hw3.trans (hw4.trans hw5)))); clear hs5 e3 hn5)
        | (go_at_call 15; refine (rsame_any A5 A k k cap5 ca R5 R _ C5 L C D Z (by omega) _ m5 am5).mono ?_; rintro e w6 ⟨y, rfl, hy, hw6⟩; obtain rfl : y = true := hy.2 ⟨rfl, fun r hr => ⟨(HLq.out r hr).symm, fun i hi => (HD.out r hr i hi).symm⟩⟩; have hX6 := hXo.keep (hw3.trans (hw4.trans (hw5.trans hw6))); have hm6 := hm4.keep (hw5.trans hw6); have hi6 := hi4.keep (hw5.trans hw6); have hwo6 := hwo.trans (hw3.trans (hw4.trans (hw5.trans hw6))); clear hy m5 am5 hm4 hi4 hi3))
      go_loopw [15] (fun i wr => ∃ u : Nat, u ≤ n ∧ i = .int .i64 u ∧ Bw w6 wr) (fun i _ => n - (intOf i).toNat)
      case atStart => exact ⟨0, Nat.zero_le _, rfl, Bw.refl _⟩
      case round =>
        obtain ⟨u, hu, rfl, hwu⟩ := hrel
        by_cases hun : u < n
        · have hrs : Hid (RebSays (k : Int) (n : Int) t t (fun _ => q) g (fun i => wordI k Z (g i).toNat) (u : Int) 0 q (wordI k Z u)) := show RebSays (k : Int) (n : Int) t t (fun _ => q) g (fun i => wordI k Z (g i).toNat) (u : Int) 0 q (wordI k Z u) from
            ⟨0, k, Z, back_says HK.out HG.out hkt hq HZ.out, Or.inr (Or.inr ⟨rfl, by omega, by omega, rfl, rfl, fun c _ => by rw [Int.toNat_natCast, Int.toNat_natCast]⟩)⟩
          have u0 : (0 : Int) ≤ (u : Int) := Int.natCast_nonneg _
          have u1 : (u : Int) < (n : Int) := by omega
          go_wp2_with (go_at_call 19; refine (reb_all (k : Int) (n : Int) (u : Int) A4 A3 t t cap4 cap3 _ _ _ _ g _ (hm6.keep hwu) (hi6.keep hwu) (by omega) (by omega)).mono ?_; rintro e w7 ⟨A7, cap7, x7, q7, row, rfl, hr7, hs7, hw7⟩; obtain ⟨e1, e2, e3⟩ := rebsays_unique hrs.out hs7; subst x7; subst q7; have HR7 : Hid (∀ c, c < q → wordI k Z u c = row c) := e3; clear e3 hs7)
          have hX7 := hX6.keep (hwu.trans hw7)
          obtain ⟨b3, o3, e3, hc3⟩ := hX7.at hun
          cases e3
          have i3 := hc3 u hun
          rw [Nat.zero_add] at i3
          have r3 := hX7.2 u hun
          have cv3 : ∀ p, (convert 37 9 (.slice A7 q cap7)).run Try.prog (w7.drewN p) = .ok (.string (str row q)) (w7.drewN p) := fun p => conv_row (hr7.row.keep (Bw.drewN _ p))
          have cv4 : ∀ p, (convert 37 9 (.slice (RX u) q (CX u))).run Try.prog (w7.drewN p) = .ok (.string (str (wordI k Z u) q)) (w7.drewN p) := fun p => conv_row (r3.keep (Bw.drewN _ p))
          have he2 : ((str row q).toList == (str (wordI k Z u) q).toList) = true := by
            have := (str_inj (f := row) (g := wordI k Z u) (L := q) (M := q) hr7.row.2 r3.2).2 ⟨rfl, fun c hc => (HR7.out c hc).symm⟩
            simpa using this
          clear hc3 r3
          go_quiet (fail)
          go_wp2
          go_roundw
          case rel => exact ⟨u + 1, by omega, by go_num, hwu.trans (hw7.trans (Bw.drewN _ _))⟩
          case measure => simp [intOf]; omega
        · have ek : n = u := by omega
          subst ek
          go_wp2
          go_roundw
          case rel => exact ⟨t + 1, by omega, by omega, by omega, by go_num, hwo6.trans hwu⟩
          case measure => simp [intOf]; omega
    · rcases (show ¬ (t : Int) ≤ (n : Int) ∨ ((t : Int) ≤ (n : Int) ∧ ¬ (t : Int) ≤ (k : Int) + 1) by omega) with h4 | ⟨h4, h5⟩
      · go_wp2_with (go_at_call 10; refine (wakes3_any _).mono ?_; rintro e w9 ⟨rfl, hw9⟩)
        go_ret
        exact ⟨rfl, hw12.trans (hwo.trans hw9)⟩
      · go_wp2_with (go_at_call 10; refine (wakes3_any _).mono ?_; rintro e w9 ⟨rfl, hw9⟩)
        go_ret
        exact ⟨rfl, hw12.trans (hwo.trans hw9)⟩

theorem walk (a0 : Option Addr) (len0 cap0 : Nat) (R0 : Nat → Option Addr) (L0 C0 : Nat → Nat) (Z0 : Nat → Nat → Int) (a1 : Int) (a2 : Option Addr) (len2 cap2 : Nat) (f2 : Nat → Int) (w : World) (w0 : InMat w a0 len0 cap0 R0 L0 C0 Z0) (w1 : (Lit.int .i64 a1).wf = true) (w2 : InInts w a2 len2 cap2 f2) :
    Calls Try.prog 5 #[.slice a0 len0 cap0, .int .i64 a1, .slice a2 len2 cap2] w fun e w' => e = .returned (.bool true) ∧ Below w.heap.size w w' := by
  cases g1 : great3 len0 L0 with
  | true => exact back_great _ _ _ _ _ _ _ _ _ _ _ w w0 g1
  | false =>
    obtain ⟨x, k1, hx⟩ := enc_some len0 L0 a1
    by_cases hx0 : x = 0
    · subst hx0
      have ex := (encsays_ok hx).2.2
      subst ex
      exact back_main _ _ _ _ _ _ _ _ _ _ _ _ w w0 w2 g1 hx
    · have hk0 : k1 = 0 := by
        rcases hx with ⟨_, _, h⟩ | ⟨_, _, _, h⟩ | ⟨_, _, h, _⟩
        · exact h
        · exact h
        · exact absurd h hx0
      subst hk0
      exact back_err _ _ _ _ _ _ _ _ _ _ _ w w0 g1 x hx hx0

set_option maxRecDepth 100000 in
theorem lifted (os : Os) (started : os.Started) (H : Type) (enc : TypeId × Value → H) :
    ReturnsInHanded {} Try.checked os 5 .any (Rows.codeBackSpec.pre6 enc Try.prog Try.f5 Rows.codeBackRow.domain false) (Rows.codeBackSpec.post enc Try.prog Try.f5 false true false false) := by
  refine returnsInHanded_of_change_sized (C := Try.checked) own started (by kernel_rfl) Try.func5
    (ChangeSpec.witness6 (enc := enc) (C := Try.checked) false ⟨#[], #[.slice none 0 0, .int .i64 0, .slice none 0 0], []⟩ 8 (by kernel_rfl) (by kernel_rfl) (by kernel_rfl) (by kernel_rfl)) ?_
  intro W base args ds gs before hval0 hW hcnd hsz0 _
  have hval : ∀ (j : Nat) t v, Try.f5.params[j]? = some t → args[j]? = some v → Value.okWide Try.prog W .any base t v := hval0
  have hW' := hW
  obtain ⟨p, q, hA0, hV, rfl, hfz, hnd⟩ := hW
  have hA : DataW.TrodAll enc Try.prog W 0 (fun _ => true) true Try.f5.params.toList args.toList ds p := hA0
  have hsz : (DataW.weightsEach Try.prog (Try.f5.params.toList ++ Rows.codeBackSpec.plain.varTypes Try.prog) (ds ++ gs)).all (· ≤ reachBytes) = true := hsz0
  rw [Try.params5] at hA hval hsz
  obtain ⟨v0, vs0, d0, ds0, p0, q0, hargs, rfl, rfl, h0, r0⟩ := trodAll_cons hA
  obtain ⟨v1, vs1, d1, ds1, p1, q1, rfl, rfl, rfl, h1, r1⟩ := trodAll_cons r0
  obtain ⟨v2, vs2, d2, ds2, p2, q2, rfl, rfl, rfl, h2, r2⟩ := trodAll_cons r1
  obtain ⟨rfl, rfl, rfl⟩ := trodAll_nil r2
  obtain rfl : args = #[v0, v1, v2] := by cases args; simp_all
  obtain ⟨rfl, rfl⟩ := trodVars_none hV
  obtain ⟨a0, len0, cap0, rfl⟩ := okWide_slice Try.underlying22 (hval 0 22 v0 rfl rfl)
  have k0 := h0
  have lt0 : ∀ x ∈ p0, x.block < W.heap.size := by obtain ⟨m, hm⟩ := k0; exact DataW.trod_lt m _ _ _ hm
  obtain ⟨R0, L0, C0, Z0, w0⟩ := open_rows h0 (fun x hx => by simpa using List.all_eq_true.1 hsz x (DataW.weights_mem_each (j := 0) (t := 22) rfl rfl x hx))
  obtain ⟨a1, rfl, rfl, rfl, w1⟩ := open_int Try.underlying3 (hval 1 3 v1 rfl rfl) h1
  obtain ⟨a2, len2, cap2, rfl⟩ := okWide_slice Try.underlying33 (hval 2 33 v2 rfl rfl)
  have k2 := h2
  have lt2 : ∀ x ∈ p2, x.block < W.heap.size := by obtain ⟨m, hm⟩ := k2; exact DataW.trod_lt m _ _ _ hm
  obtain ⟨f2, w2⟩ := open_introw h2 (fun x hx => by simpa using List.all_eq_true.1 hsz x (DataW.weights_mem_each (j := 2) (t := 33) rfl rfl x hx))
  clear hA0 hval0
  refine (walk a0 len0 cap0 R0 L0 C0 Z0 a1 a2 len2 cap2 f2 W w0 w1 w2).mono fun e W' ⟨he, bel⟩ => ?_
  subst he
  exact ⟨_, rfl, _, _, _, [], _, [], hW', trodAll_mk1 (shut_bool Try.underlying4 _), (trodAll_cons_mk (Below.trod laidOut (by kernel_rfl) (of_decide_eq_true (by kernel_rfl)) k0 bel lt0) (trodAll_cons_mk (shut_int Try.underlying3 w1) (trodAll_cons_mk (Below.trod laidOut (by kernel_rfl) (of_decide_eq_true (by kernel_rfl)) k2 bel lt2) trodAll_mk0))), rfl, bel.frame _, fun h => by cases h⟩

theorem over : Rows.codeBackRow.holds Try.pinned (OpenSpec.ofChange Rows.codeBackSpec) :=
  OpenClaim.holds_of_wide 5 Try.f5 rfl rfl rfl rfl rfl rfl rfl ⟨rfl, rfl, rfl, rfl, rfl⟩ rfl rfl rfl rfl rfl (by kernel_rfl) Try.func5 (by kernel_rfl)
    (of_decide_eq_true (by kernel_rfl)) (by unfold Func.isWrapper; first | (rw [if_pos (by decide +kernel)]; kernel_rfl) | (rw [if_neg (by decide +kernel)]; exact ⟨rfl, rfl⟩))
    (fun os started H enc _ => lifted os started H enc)

theorem proved : Rows.CodeBackSaid := over
#print axioms proved
end Go.Proofs.Ytbhbdhkifkmkbaa.codeBack
