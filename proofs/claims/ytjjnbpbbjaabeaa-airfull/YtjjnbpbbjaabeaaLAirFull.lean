/- Proved: for every body and either way of filling the statement AirFull answers true (the document's P19.2 and P19.4: just 4096 are under way at most), with no condition but the reach. -/
import Derived.Test.YtjjnbpbbjaabeaaTp
import Derived.Test.YtjjnbpbbjaabeaaFe
import Derived.ShutString
import Derived.ChangeOld
namespace Go.Proofs.Ytjjnbpbbjaabeaa.airFull
open Go.ChangeShapes Go.WideShapes Go.ChangeAt Go.RowKit
set_option linter.unusedVariables false

set_option maxRecDepth 100000 in
set_option maxHeartbeats 8000000 in
theorem walk (a0 : Option Addr) (len0 cap0 : Nat) (f0 : Nat → Int) (a1 : Bool) (w : World) (w0 : InRow w a0 len0 cap0 f0) :
    Calls Try.prog 5 #[.slice a0 len0 cap0, .bool a1] w fun e w' => e = .returned (.bool true) ∧ Below w.heap.size w w' := by
  have HN : Hid (Calls Try.prog 9 #[.int .i64 2] w fun e w' => ∃ g, e = .returned (.tuple #[.pointer (some ⟨g, 0, none⟩), .int .i64 0]) ∧ Hid (AirAt w' (Gr (fun _ => False) w w') g (Ai.new 2)) ∧ Hid (Bw w w')) := new_at 2 (by decide) (by decide) w
  have hrow := rowv_in w0
  by_cases hgt : 16 < len0
  · have d1 : decide (16 < (len0 : Int)) = true := by rw [decide_eq_true_eq]; omega
    clear w0 hrow hgt
    go_enter Try.func5, Try.ntmps5
    go_wp2_with (first
      | (go_at_call 9; refine HN.out.mono ?_; rintro e w1 ⟨g, rfl, h1, hb1⟩)
      | (go_at_call 8; refine (wakes19_any _).mono ?_; rintro e w2 ⟨rfl, hb2⟩))
    go_ret
    exact ⟨rfl, hb1.out.trans hb2⟩
  · have d1 : decide (16 < (len0 : Int)) = false := by rw [decide_eq_false_iff_not]; omega
    have hl : Hid ((datF f0 len0).length ≤ 16) := by show _ ≤ _; rw [datF_len]; omega
    have HR : Hid (∀ W, Bw w W → RowV W (.slice a0 len0 cap0) (datF f0 len0)) := fun W k => hrow.keep k
    clear w0 hrow hgt
    go_enter Try.func5, Try.ntmps5
    go_upto_region 4 with (go_at_call 9; refine HN.out.mono ?_; rintro e w1 ⟨g, rfl, h1, hb1⟩)
    obtain ⟨z, W2, X2, hz2, hW2, hD2, hX2, ho2, hE2, hk2⟩ := dg_box w1 1 0 (v := .slice a0 len0 cap0) rfl
    go_upto_region 5 with (rw [hW2.out, hz2.out]; refine wpList_store_row rfl 35 _ _ rfl z (dcs 1 0 (.slice a0 len0 cap0)) rfl rfl 35 _ hD2.out (dg_info _ _ _) rfl (dg_all _ _ ho2.out).out ?_; rw [hX2.out])
    have hF0 : Hid (FullAt w X2 g z (.slice a0 len0 cap0) 0) := full_new h1.out hb1.out hz2.out hk2.out hE2.out
    clear hW2 hD2 hX2 hE2 hk2 h1 hb1 HN hz2
    go_upto_region 6 with fail
    go_loopw [8] (fun s8 wr => ∃ k : Nat, k ≤ 4096 ∧ s8 = .int .i64 (k : Int) ∧ Hid (FullAt w wr g z (.slice a0 len0 cap0) k)) (fun s8 _ => 4096 - (intOf s8).toNat)
    case atStart => exact ⟨0, by omega, rfl, hF0⟩
    case round =>
      obtain ⟨k, hk, rfl, hI⟩ := hrel
      have k0 : (0 : Int) ≤ (k : Int) := Int.natCast_nonneg _
      by_cases hlt : k < 4096
      · have k1 : (k : Int) < 4096 := by omega
        have b0 := hI.out.box
        have c0 : wr.cell? ⟨z, 0, none⟩ = some (.int .i64 1) := cell_of_row wr z 0 _ _ _ b0
        have c1 : wr.cell? ⟨z, 1, none⟩ = some (.int .i64 0) := cell_of_row wr z 1 _ _ _ b0
        have c2 : wr.cell? ⟨z, 2, none⟩ = some (.slice a0 len0 cap0) := cell_of_row wr z 2 _ _ _ b0
        have HS : Hid (Calls Try.prog 15 #[.pointer (some ⟨g, 0, none⟩), .agg #[.int .i64 1, .int .i64 0, .slice a0 len0 cap0]] wr fun e w' => e = .returned (.int .i64 0) ∧ Hid (FullAt w w' g z (.slice a0 len0 cap0) (k + 1))) := full_send hI.out (HR.out wr hI.out.bw) hl.out hlt
        cases a1
        · clear b0 hlt
          go_wp2_with (go_at_call 15; refine HS.out.mono ?_; rintro e w2 ⟨rfl, hF⟩)
          go_roundw
          case rel => exact ⟨k + 1, by omega, by go_num, hF⟩
          case measure => simp [intOf]; omega
        · rcases Nat.eq_zero_or_pos k with hk0 | hkp
          · have d5 : decide (0 < (k : Int)) = false := by rw [decide_eq_false_iff_not]; omega
            clear b0 hlt
            go_wp2_with (go_at_call 15; refine HS.out.mono ?_; rintro e w2 ⟨rfl, hF⟩)
            go_roundw
            case rel => exact ⟨k + 1, by omega, by go_num, hF⟩
            case measure => simp [intOf]; omega
          · obtain ⟨j, rfl⟩ : ∃ j, k = j + 1 := ⟨k - 1, by omega⟩
            have HD : Hid (Calls Try.prog 19 #[.pointer (some ⟨g, 0, none⟩), .int .i64 (j : Int)] wr fun e w' => e = .returned (.bool true) ∧ Hid (FullAt w w' g z (.slice a0 len0 cap0) (j + 1 + 1))) := full_dbl hI.out (by omega) hlt
            have d5 : decide (0 < ((j + 1 : Nat) : Int)) = true := by rw [decide_eq_true_eq]; omega
            have j0 : (0 : Int) ≤ (j : Int) := by omega
            have j1 : (j : Int) < 4096 := by omega
            clear b0 hlt HS
            go_wp2_with (go_at_call 19; refine HD.out.mono ?_; rintro e w2 ⟨rfl, hF⟩)
            go_roundw
            case rel => exact ⟨j + 1 + 1, by omega, by go_num, hF⟩
            case measure => simp [intOf]; omega
      · obtain rfl : k = 4096 := by omega
        have b0 := hI.out.box
        have c0 : wr.cell? ⟨z, 0, none⟩ = some (.int .i64 1) := cell_of_row wr z 0 _ _ _ b0
        have c1 : wr.cell? ⟨z, 1, none⟩ = some (.int .i64 0) := cell_of_row wr z 1 _ _ _ b0
        have c2 : wr.cell? ⟨z, 2, none⟩ = some (.slice a0 len0 cap0) := cell_of_row wr z 2 _ _ _ b0
        have HS : Hid (Calls Try.prog 15 #[.pointer (some ⟨g, 0, none⟩), .agg #[.int .i64 1, .int .i64 0, .slice a0 len0 cap0]] wr fun e w' => e = .returned (.int .i64 3) ∧ Hid (FullAt w w' g z (.slice a0 len0 cap0) 4096)) := full_send_no hI.out (HR.out wr hI.out.bw) hl.out
        have HC : Hid (∀ W, FullAt w W g z (.slice a0 len0 cap0) 4096 → Calls Try.prog 16 #[.pointer (some ⟨g, 0, none⟩)] W fun e w' => e = .returned (.int .i64 4096) ∧ w' = W) := fun W h => full_count h
        have HL : Hid (∀ W, FullAt w W g z (.slice a0 len0 cap0) 4096 → Calls Try.prog 18 #[.pointer (some ⟨g, 0, none⟩), .int .i64 7] W fun e w' => e = .returned (.bool true) ∧ Hid (FullAt w w' g z (.slice a0 len0 cap0) 4095)) := fun W h => full_lose (k := 4095) (i := 7) h (by omega)
        have HD : Hid (∀ W, FullAt w W g z (.slice a0 len0 cap0) 4095 → Calls Try.prog 19 #[.pointer (some ⟨g, 0, none⟩), .int .i64 0] W fun e w' => e = .returned (.bool true) ∧ Hid (FullAt w w' g z (.slice a0 len0 cap0) 4096)) := fun W h => full_dbl (k := 4095) (i := 0) h (by omega) (by omega)
        clear b0 hlt
        go_upto_region 15 with (first
          | (go_at_call 15; refine HS.out.mono ?_; rintro e w2 ⟨rfl, hF2⟩)
          | (go_at_call 19; refine (full_dbl_no hF2.out).mono ?_; rintro e w3 ⟨rfl, hF3⟩)
          | (go_at_call 16; refine (HC.out _ hF3.out).mono ?_; rintro e w4 ⟨rfl, hw⟩; subst w4))
        go_wp2_with (first
          | (go_at_call 18; refine (HL.out _ hF3.out).mono ?_; rintro e w5 ⟨rfl, hF5⟩)
          | (go_at_call 19; refine (HD.out _ hF5.out).mono ?_; rintro e w6 ⟨rfl, hF6⟩)
          | (go_at_call 16; refine (HC.out _ hF6.out).mono ?_; rintro e w7 ⟨rfl, hw⟩; subst w7)
          | (go_at_call 8; refine (wakes19_any _).mono ?_; rintro e w8 ⟨rfl, hb8⟩))
        go_ret
        exact ⟨rfl, hF6.out.bw.trans hb8⟩

set_option maxRecDepth 100000 in
theorem lifted (os : Os) (started : os.Started) (H : Type) (enc : TypeId × Value → H) :
    ReturnsInHanded {} Try.checked os 5 .any (Rows.airFullSpec.pre6 enc Try.prog Try.f5 Rows.airFullRow.domain false) (Rows.airFullSpec.post enc Try.prog Try.f5 false true false false) := by
  refine returnsInHanded_of_change_sized (C := Try.checked) own started (by kernel_rfl) Try.func5
    (ChangeSpec.witness6 (enc := enc) (C := Try.checked) false ⟨#[], #[.slice none 0 0, .bool false], []⟩ 8 (by kernel_rfl) (by kernel_rfl) (by kernel_rfl) (by kernel_rfl)) ?_
  intro W base args ds gs before hval0 hW hcnd hsz0 _
  have hval : ∀ (j : Nat) t v, Try.f5.params[j]? = some t → args[j]? = some v → Value.okWide Try.prog W .any base t v := hval0
  have hW' := hW
  obtain ⟨p, q, hA0, hV, rfl, hfz, hnd⟩ := hW
  have hA : DataW.TrodAll enc Try.prog W 0 (fun _ => true) true Try.f5.params.toList args.toList ds p := hA0
  have hsz : (DataW.weightsEach Try.prog (Try.f5.params.toList ++ Rows.airFullSpec.plain.varTypes Try.prog) (ds ++ gs)).all (· ≤ reachBytes) = true := hsz0
  rw [Try.params5] at hA hval hsz
  obtain ⟨v0, vs0, d0, ds0, p0, q0, hargs, rfl, rfl, h0, r0⟩ := trodAll_cons hA
  obtain ⟨v1, vs1, d1, ds1, p1, q1, rfl, rfl, rfl, h1, r1⟩ := trodAll_cons r0
  obtain ⟨rfl, rfl, rfl⟩ := trodAll_nil r1
  obtain rfl : args = #[v0, v1] := by cases args; simp_all
  obtain ⟨rfl, rfl⟩ := trodVars_none hV
  obtain ⟨a0, len0, cap0, rfl⟩ := okWide_slice Try.underlying33 (hval 0 33 v0 rfl rfl)
  have k0 := h0
  have lt0 : ∀ x ∈ p0, x.block < W.heap.size := by obtain ⟨m, hm⟩ := k0; exact DataW.trod_lt m _ _ _ hm
  obtain ⟨f0, w0⟩ := open_bytes h0 (fun x hx => by simpa using List.all_eq_true.1 hsz x (DataW.weights_mem_each (j := 0) (t := 33) rfl rfl x hx))
  obtain ⟨a1, rfl, rfl, rfl⟩ := open_bool Try.underlying4 (hval 1 4 v1 rfl rfl) h1
  clear hA0 hval0
  refine (walk a0 len0 cap0 f0 a1 W w0).mono fun e W' ⟨he, bel⟩ => ?_
  subst he
  exact ⟨_, rfl, _, _, _, [], _, [], hW', trodAll_mk1 (shut_bool Try.underlying4 _), (trodAll_cons_mk (Below.trod laidOut (by kernel_rfl) (of_decide_eq_true (by kernel_rfl)) k0 bel lt0) (trodAll_cons_mk (shut_bool Try.underlying4 a1) trodAll_mk0)), rfl, bel.frame _, fun h => by cases h⟩

theorem over : Rows.airFullRow.holds Try.pinned (OpenSpec.ofChange Rows.airFullSpec) :=
  OpenClaim.holds_of_wide 5 Try.f5 rfl rfl rfl rfl rfl rfl rfl ⟨rfl, rfl, rfl, rfl, rfl⟩ rfl rfl rfl rfl rfl (by kernel_rfl) Try.func5 (by kernel_rfl)
    (of_decide_eq_true (by kernel_rfl)) (by unfold Func.isWrapper; first | (rw [if_pos (by decide +kernel)]; kernel_rfl) | (rw [if_neg (by decide +kernel)]; exact ⟨rfl, rfl⟩))
    (fun os started H enc _ => lifted os started H enc)

theorem proved : Rows.AirFullSaid := over
#print axioms proved
end Go.Proofs.Ytjjnbpbbjaabeaa.airFull
