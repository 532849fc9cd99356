/- Proved: for every number of parties and every list of acts the statement AirPlays answers true (the document's P19.1 to P19.5: what is sent, carried, lost, doubled and held up, over ways that are cut and healed, is under way as the document says), with no condition but the reach. -/
import Derived.Test.YtjjnbpbbjaabeaaVf2
import Derived.Test.YtjjnbpbbjaabeaaFe
import Derived.ShutString
import Derived.ChangeOld
namespace Go.Proofs.Ytjjnbpbbjaabeaa.airPlays
open Go.ChangeShapes Go.WideShapes Go.ChangeAt Go.RowKit
set_option linter.unusedVariables false

set_option linter.unusedSimpArgs false
set_option maxRecDepth 100000 in
set_option maxHeartbeats 40000000 in
theorem walk (a0 : Int) (a1 : Option Addr) (len1 cap1 : Nat) (X1 : Nat → Ac19) (w : World) (w0 : (Lit.int .i64 a0).wf = true) (w1 : InActs19 w a1 len1 cap1 X1) :
    Calls Try.prog 3 #[.int .i64 a0, .slice a1 len1 cap1] w fun e w' => e = .returned (.bool true) ∧ Below w.heap.size w w' := by
  have HX : Hid (InActs19 w a1 len1 cap1 X1) := w1
  have HG0 := great19_any w1
  by_cases hr : greatB len1 X1 = true
  · rw [hr] at HG0
    have HG : Hid (Calls Try.prog 7 #[.slice a1 len1 cap1] w fun e w' => e = .returned (.bool true) ∧ w' = w) := HG0
    clear HG0 HX hr w1
    go_enter Try.func3, Try.ntmps3
    go_wp2_with (first
      | (go_at_call 7; refine HG.out.mono ?_; rintro e w1 ⟨rfl, hw⟩; subst w1)
      | (go_at_call 8; refine (wakes19_any _).mono ?_; rintro e w2 ⟨rfl, hb2⟩))
    go_ret
    exact ⟨rfl, hb2⟩
  · have hrf : greatB len1 X1 = false := by cases e : greatB len1 X1; rfl; exact absurd e hr
    rw [hrf] at HG0
    have HG : Hid (Calls Try.prog 7 #[.slice a1 len1 cap1] w fun e w' => e = .returned (.bool false) ∧ w' = w) := HG0
    have hlen := greatB_no hrf
    clear HG0 hr hrf w1
    by_cases hbad : a0 < 1 ∨ 64 < a0
    · obtain ⟨c, hc⟩ := new_bad a0 hbad
      have HNA : Hid (∀ w, Calls Try.prog 9 #[.int .i64 a0] w fun e w' => e = .returned (.tuple #[.pointer none, .int .i64 c]) ∧ w' = w) := fun w => (hc w).1
      have HNB : Hid (∀ w, Calls Try.prog 10 #[.int .i64 a0] w fun e w' => e = .returned (.tuple #[.pointer none, .int .i64 c]) ∧ w' = w) := fun w => (hc w).2
      clear hc hbad HX hlen
      go_enter Try.func3, Try.ntmps3
      go_wp2_with (first
        | (go_at_call 7; refine HG.out.mono ?_; rintro e w1 ⟨rfl, hw⟩; subst w1)
        | (go_at_call 9; refine (HNA.out _).mono ?_; rintro e w1 ⟨rfl, hw⟩; subst w1)
        | (go_at_call 10; refine (HNB.out _).mono ?_; rintro e w1 ⟨rfl, hw⟩; subst w1)
        | (go_at_call 8; refine (wakes19_any _).mono ?_; rintro e w2 ⟨rfl, hb2⟩))
      go_ret
      exact ⟨by first | rfl | simp, hb2⟩
    · obtain ⟨m, rfl⟩ : ∃ m : Nat, a0 = (m : Int) := ⟨a0.toNat, by omega⟩
      obtain ⟨W0, hW0⟩ : ∃ x, Hid (w = x) := ⟨_, rfl⟩
      have HN : Hid (Calls Try.prog 9 #[.int .i64 (m : Int)] w fun e w' => ∃ ga, e = .returned (.tuple #[.pointer (some ⟨ga, 0, none⟩), .int .i64 0]) ∧ Hid (Calls Try.prog 10 #[.int .i64 (m : Int)] w' fun e2 w2 => ∃ gb, e2 = .returned (.tuple #[.pointer (some ⟨gb, 0, none⟩), .int .i64 0]) ∧ Hid (PlaysI w w2 ga gb (Ai.new m)))) := plays_new m (by omega) (by omega) w
      clear hbad w0 hW0
      go_enter Try.func3, Try.ntmps3
      go_wp2_with (first
        | (go_at_call 7; refine HG.out.mono ?_; rintro e w1 ⟨rfl, hw⟩; subst w1)
        | (go_at_call 9; refine HN.out.mono ?_; rintro e w1 ⟨ga, rfl, HN2⟩)
        | (go_at_call 10; refine HN2.out.mono ?_; rintro e w2 ⟨gb, rfl, hI0⟩))
      go_loopw [9] (fun s9 wr => ∃ (k : Nat) (S : Ai.St), k ≤ len1 ∧ s9 = .int .i64 (k : Int) ∧ Hid (PlaysI w wr ga gb S) ∧ Hid (S.m ≤ k)) (fun s9 _ => len1 - (intOf s9).toNat)
      case atStart => exact ⟨0, _, Nat.zero_le _, rfl, hI0, (show (Ai.new m).m ≤ 0 from Nat.le_refl _)⟩
      case round =>
        clear HN2 hI0 HN HG
        obtain ⟨k, S, hk, rfl, hI, hM⟩ := hrel
        have k0 : (0 : Int) ≤ (k : Int) := Int.natCast_nonneg _
        by_cases hlt : k < len1
        · have k1 : (k : Int) < (len1 : Int) := by omega
          have p4 : IntKind.i64.wrap ((k : Int) + 1) = (k : Int) + 1 := by rw [IntKind.wrap_i64]; omega
          obtain ⟨b, off, rfl, hcell⟩ := HX.out.cell hlt
          have hin := HX.out.acts k hlt
          obtain ⟨x, hx⟩ : ∃ x, X1 k = x := ⟨_, rfl⟩
          rw [hx] at hcell hin
          have hrow := hin.rowv
          obtain ⟨dd, nn, src, dst, A, L, C, f⟩ := x
          have hsb := hin.sb
          have htb := hin.tb
          obtain ⟨dl, hdl⟩ : ∃ dl, datF f L = dl := ⟨_, rfl⟩
          have hrow2 : RowV w (.slice A L C) (datF f L) := hrow
          rw [hdl] at hrow2
          dsimp only at hcell hsb htb
          have HRng : Hid (wr.rangeAt b (off + k * 5) [.int .i64 dd, .int .i64 nn, .int .i64 src, .int .i64 dst, .slice A L C]) := by
            obtain ⟨q0, q1, q2, q3, q4⟩ := hcell wr hI.out.bw
            show World.rangeAt _ _ _ _
            intro j v hv
            match j with
            | 0 => cases hv; exact q0
            | 1 => cases hv; exact q1
            | 2 => cases hv; exact q2
            | 3 => cases hv; exact q3
            | 4 => cases hv; exact q4
            | j + 5 => simp at hv
          have HB : Hid (Calls Try.prog 11 #[.pointer (some ⟨ga, 0, none⟩), .pointer (some ⟨gb, 0, none⟩), .agg #[.int .i64 dd, .int .i64 nn, .int .i64 src, .int .i64 dst, .slice A L C]] wr fun e w' => e = .returned (.bool true) ∧ ∃ S', Hid (PlaysI w w' ga gb S') ∧ Hid (S'.m ≤ k + 1)) := plays_both hI.out hrow2 hsb htb hM.out (by omega)
          have HS : Hid (∀ W S', PlaysI w W ga gb S' → S'.m ≤ k + 1 → Calls Try.prog 12 #[.pointer (some ⟨ga, 0, none⟩), .pointer (some ⟨gb, 0, none⟩)] W fun e w' => e = .returned (.bool true) ∧ Hid (PlaysI w w' ga gb S')) := fun W S' h1 h2 => plays_same h1 h2 (by omega)
          clear hrow hrow2 hin hx hdl hcell hsb htb HX
          go_wp2_with (first
            | refine wpList_load_mid rfl 37 _ rfl b (off + k * 5) (by rfl) [.int .i64 dd, .int .i64 nn, .int .i64 src, .int .i64 dst, .slice A L C] _ HRng.out Try.underlying37 rfl (act_info _ _ _ _ (.slice A L C)) ?_
            | (go_at_call 11; refine HB.out.mono ?_; rintro e w3 ⟨rfl, S', hI3, hm3⟩)
            | (go_at_call 12; refine (HS.out _ _ hI3.out hm3.out).mono ?_; rintro e w4 ⟨rfl, hI4⟩))
          · exact ⟨⟨k + 1, S', by omega, rfl, hI4, hm3⟩, by simp only [intOf]; omega⟩
          · exact ⟨⟨k + 1, S', by omega, rfl, hI3, hm3⟩, by simp only [intOf]; omega⟩
        · have k1 : ¬ (k : Int) < (len1 : Int) := by omega
          have HS : Hid (Calls Try.prog 12 #[.pointer (some ⟨ga, 0, none⟩), .pointer (some ⟨gb, 0, none⟩)] wr fun e w' => e = .returned (.bool true) ∧ Hid (PlaysI w w' ga gb S)) := plays_same hI.out hM.out (by omega)
          clear HX
          go_wp2_with (first
            | (go_at_call 12; refine HS.out.mono ?_; rintro e w4 ⟨rfl, hI4⟩)
            | (go_at_call 8; refine (wakes19_any _).mono ?_; rintro e w9 ⟨rfl, hb9⟩))
          go_ret
          exact ⟨by first | rfl | simp, hI4.out.bw.trans hb9⟩

set_option maxRecDepth 100000 in
theorem lifted (os : Os) (started : os.Started) (H : Type) (enc : TypeId × Value → H) :
    ReturnsInHanded {} Try.checked os 3 .any (Rows.airPlaysSpec.pre6 enc Try.prog Try.f3 Rows.airPlaysRow.domain false) (Rows.airPlaysSpec.post enc Try.prog Try.f3 false true false false) := by
  refine returnsInHanded_of_change_sized (C := Try.checked) own started (by kernel_rfl) Try.func3
    (ChangeSpec.witness6 (enc := enc) (C := Try.checked) false ⟨#[], #[.int .i64 0, .slice none 0 0], []⟩ 8 (by kernel_rfl) (by kernel_rfl) (by kernel_rfl) (by kernel_rfl)) ?_
  intro W base args ds gs before hval0 hW hcnd hsz0 _
  have hval : ∀ (j : Nat) t v, Try.f3.params[j]? = some t → args[j]? = some v → Value.okWide Try.prog W .any base t v := hval0
  have hW' := hW
  obtain ⟨p, q, hA0, hV, rfl, hfz, hnd⟩ := hW
  have hA : DataW.TrodAll enc Try.prog W 0 (fun _ => true) true Try.f3.params.toList args.toList ds p := hA0
  have hsz : (DataW.weightsEach Try.prog (Try.f3.params.toList ++ Rows.airPlaysSpec.plain.varTypes Try.prog) (ds ++ gs)).all (· ≤ reachBytes) = true := hsz0
  rw [Try.params3] at hA hval hsz
  obtain ⟨v0, vs0, d0, ds0, p0, q0, hargs, rfl, rfl, h0, r0⟩ := trodAll_cons hA
  obtain ⟨v1, vs1, d1, ds1, p1, q1, rfl, rfl, rfl, h1, r1⟩ := trodAll_cons r0
  obtain ⟨rfl, rfl, rfl⟩ := trodAll_nil r1
  obtain rfl : args = #[v0, v1] := by cases args; simp_all
  obtain ⟨rfl, rfl⟩ := trodVars_none hV
  obtain ⟨a0, rfl, rfl, rfl, w0⟩ := open_int Try.underlying3 (hval 0 3 v0 rfl rfl) h0
  obtain ⟨a1, len1, cap1, rfl⟩ := okWide_slice Try.underlying22 (hval 1 22 v1 rfl rfl)
  have k1 := h1
  have lt1 : ∀ x ∈ p1, x.block < W.heap.size := by obtain ⟨m, hm⟩ := k1; exact DataW.trod_lt m _ _ _ hm
  obtain ⟨X1, w1⟩ := open_acts19 h1 (fun x hx => by simpa using List.all_eq_true.1 hsz x (DataW.weights_mem_each (j := 1) (t := 22) rfl rfl x hx))
  clear hA0 hval0
  refine (walk a0 a1 len1 cap1 X1 W w0 w1).mono fun e W' ⟨he, bel⟩ => ?_
  subst he
  exact ⟨_, rfl, _, _, _, [], _, [], hW', trodAll_mk1 (shut_bool Try.underlying4 _), (trodAll_cons_mk (shut_int Try.underlying3 w0) (trodAll_cons_mk (Below.trod laidOut (by kernel_rfl) (of_decide_eq_true (by kernel_rfl)) k1 bel lt1) trodAll_mk0)), rfl, bel.frame _, fun h => by cases h⟩

theorem over : Rows.airPlaysRow.holds Try.pinned (OpenSpec.ofChange Rows.airPlaysSpec) :=
  OpenClaim.holds_of_wide 3 Try.f3 rfl rfl rfl rfl rfl rfl rfl ⟨rfl, rfl, rfl, rfl, rfl⟩ rfl rfl rfl rfl rfl (by kernel_rfl) Try.func3 (by kernel_rfl)
    (of_decide_eq_true (by kernel_rfl)) (by unfold Func.isWrapper; first | (rw [if_pos (by decide +kernel)]; kernel_rfl) | (rw [if_neg (by decide +kernel)]; exact ⟨rfl, rfl⟩))
    (fun os started H enc _ => lifted os started H enc)

theorem proved : Rows.AirPlaysSaid := over
#print axioms proved
end Go.Proofs.Ytjjnbpbbjaabeaa.airPlays
