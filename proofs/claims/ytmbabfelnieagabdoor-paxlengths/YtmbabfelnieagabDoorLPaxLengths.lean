/- Proved: for every pair and every byte the statement PaxLengths answers true (the document's P9.8: a record says its own length, the least that could be, and a byte more makes it longer by one or two). -/
import Derived.Test.YtmbabfelnieagabDoorAI
import Derived.Test.YtmbabfelnieagabDoorFx
import Derived.Test.YtmbabfelnieagabDoorCards
import Derived.Test.YtmbabfelnieagabDoorTie
import Derived.ShutString
import Derived.ChangeOld
import Derived.SevenTiedAt
namespace Go.Proofs.YtmbabfelnieagabDoor.paxLengths
open Go.ChangeShapes Go.WideShapes Go.ChangeAt Go.RowKit Go.Deep
set_option linter.unusedVariables false

set_option linter.unusedSimpArgs false
attribute [local go_sem] List.getElem?_cons_zero Option.getD_some
open Go.Deep
theorem conv_byte (W : World) (m : Nat) (hm : m < 256) : (convert 27 9 (.slice (some ⟨W.heap.size, 0, none⟩) 1 1)).run Tryd.prog (W.alloc (.cells #[.int .u8 (m : Int)] 5)) = .ok (.string (Nm.S [UInt8.ofNat m])) (W.alloc (.cells #[.int .u8 (m : Int)] 5)) := by
  refine run_convert_bytes_back _ 27 9 5 ⟨W.heap.size, 0, none⟩ 1 [UInt8.ofNat m] Tryd.underlying27 Tryd.underlying5 Tryd.underlying9 ?_
  intro j hj
  obtain rfl : j = 0 := by simpa using hj
  have h1 : ((UInt8.ofNat m).toNat : Int) = (m : Int) := by rw [UInt8.toNat_ofNat']; congr 1; omega
  show _ = some (Value.int .u8 ((UInt8.ofNat m).toNat : Int))
  rw [h1]
  simp [go_sem, Addr.add]
set_option maxRecDepth 100000 in
set_option maxHeartbeats 4000000 in
set_option maxRecDepth 100000 in
set_option maxHeartbeats 4000000 in
theorem walk (s0 t0 : ByteArray) (a1 : Int) (w : World) (hk : KAt w) (w0 : s0.size ≤ 140737488351232 ∧ t0.size ≤ 140737488351232) (w1 : (Lit.int .u8 a1).wf = true) :
    Calls Tryd.prog 3 #[.agg #[.string s0, .string t0], .int .u8 a1] w fun e w' => e = .returned (.bool true) ∧ Below w.heap.size w w' := by
  obtain ⟨ha, hb⟩ := w0
  have HK : Hid (KAt w) := hk
  clear hk
  have hm := bounds_u8 w1
  obtain ⟨m, rfl⟩ := Int.eq_ofNat_of_zero_le hm.1
  have hm2 : m < 256 := by have := hm.2; omega
  obtain ⟨r, hr⟩ : ∃ r, Hid (3 + s0.size + t0.size = r) := ⟨_, rfl⟩
  have hrb : r ≤ 281474976702467 := by have := hr.out; omega
  have hr3 : 3 ≤ r := by have := hr.out; omega
  have hrI : Hid ((3 : Int) + (s0.size : Int) + (t0.size : Int) = (r : Int)) := by show _ = _; have := hr.out; omega
  obtain ⟨z, hz⟩ : ∃ z, Hid (Px.size r = z) := ⟨_, rfl⟩
  have HZ : Hid (Px.psize (s0.toList, t0.toList) = z) := by show _ = _; unfold Px.psize; rw [Nm.size_toList, Nm.size_toList, hr.out, hz.out]
  have hzs : Hid (z = r + Px.dl z) := by show _ = _; rw [← hz.out]; exact Px.size_says r
  have hzb : z ≤ r + r + 2 := by
    rw [← hz.out]
    have := Px.dl_le r
    unfold Px.size
    split <;> omega
  have hzr : r + 1 ≤ z := by rw [← hz.out]; exact Px.size_ge r
  obtain ⟨z2, hz2⟩ : ∃ z, Hid (Px.size (r + 1) = z) := ⟨_, rfl⟩
  have hz2a : z < z2 := by rw [← hz.out, ← hz2.out]; exact Px.size_mono (by omega)
  have hz2b : z2 ≤ z + 2 := by rw [← hz.out, ← hz2.out]; exact Px.size_step r
  obtain ⟨X, hX⟩ : ∃ X, Hid (X = t0 ++ Nm.S [UInt8.ofNat m]) := ⟨_, rfl⟩
  have hXs : Hid (X.size = t0.size + 1) := by show _ = _; rw [hX.out, ByteArray.size_append, Nm.size_S]; rfl
  have HZ2 : Hid (Px.psize (s0.toList, X.toList) = z2) := by
    show _ = _
    unfold Px.psize
    rw [Nm.size_toList, Nm.size_toList, hXs.out, ← hz2.out]
    congr 1
    have := hr.out; omega
  obtain ⟨d, hd⟩ : ∃ d, Hid (Px.dl z = d) := ⟨_, rfl⟩
  have hzd : Hid (z = r + d) := by have := hzs.out; rw [hd.out] at this; exact this
  have e1 : ((z : Int) != (r : Int) + (d : Int)) = false := by rw [bne_eq_false_iff_eq]; have := hzd.out; omega
  have hdb : d ≤ 562949953404936 := by have := hzd.out; omega
  obtain ⟨rb, er, hR⟩ : ∃ r er, Hid (Px.recF (s0.toList, t0.toList) = (r, er)) := ⟨_, _, show Px.recF (s0.toList, t0.toList) = _ from rfl⟩
  have heb : er ≤ 100 := by have := Px.recF_er (s0.toList, t0.toList); rw [hR.out] at this; exact this
  obtain ⟨lr, hlr⟩ : ∃ l, Hid (rb.length = l) := ⟨_, rfl⟩
  have hlr2 : Hid (er ≠ 0 ∨ lr = z) := by
    show _ ∨ _
    by_cases h : Px.fits (s0.toList, t0.toList) = 0
    · right
      have e : Px.recF (s0.toList, t0.toList) = (Px.rcd (s0.toList, t0.toList), 0) := by unfold Px.recF; rw [if_neg (fun h' => h' h)]
      rw [hR.out, Prod.mk.injEq] at e
      rw [← hlr.out, e.1, Px.rcd_len, HZ.out]
    · left
      have e : Px.recF (s0.toList, t0.toList) = ([], Px.fits (s0.toList, t0.toList)) := by unfold Px.recF; rw [if_pos h]
      rw [hR.out, Prod.mk.injEq] at e
      rw [e.2]; exact h
  have hlrb : lr ≤ 1064 := by
    have : (Px.recF (s0.toList, t0.toList)).1.length ≤ 1064 := by
      unfold Px.recF
      split
      · exact Nat.zero_le _
      · rename_i h; exact Px.rcd_bd (Classical.not_not.1 h)
    rw [hR.out] at this; rw [← hlr.out]; exact this
  have hw0 : Bw w (w.alloc (.cells #[.string s0, .string t0] 23)) := Below.alloc (Below.refl _ _) (Nat.le_refl _) _
  have HP : Hid (∀ W, Bw (w.alloc (.cells #[.string s0, .string t0] 23)) W → W.cell? ⟨w.heap.size, 0, none⟩ = some (.string s0) ∧ W.cell? ⟨w.heap.size, 1, none⟩ = some (.string t0)) := fun W h => by
    have g := (h.block _ (by simp)).trans (World.alloc_heap_new w (.cells #[.string s0, .string t0] 23))
    exact ⟨cell_of_row W _ 0 _ _ _ g, cell_of_row W _ 1 _ _ _ g⟩
  have tok1 : Hid (w = w) := rfl
  go_enter Tryd.func3, Tryd.ntmps3
  go_wp2_with (go_at_call 7; refine (awake9_any _ (HK.out.keep hw0)).mono ?_; rintro e x0 ⟨rfl, hx0⟩; obtain ⟨c1, c2⟩ := HP.out x0 hx0)
  go_wp2_with (first
    | (go_at_call 8; clear tok1; refine (psize_any s0 t0 (by omega) (by omega) _ (HK.out.keep (hw0.trans hx0))).mono ?_; rintro e x1 ⟨rfl, hx1⟩; rw [HZ.out]; clear c1 c2; obtain ⟨c1, c2⟩ := HP.out x1 (hx0.trans hx1))
    | (go_at_call 9; rw [hrI.out]; refine (said9_any z (by omega) (by omega) _).mono ?_; rintro e x2 ⟨rfl, hx2⟩; subst x2; rw [hd.out]))
  have hb1 : Hid (Bw w x1) := hw0.trans (hx0.trans hx1)
  go_loop [7] (fun i => ∃ k : Nat, r + 1 ≤ k ∧ k ≤ z ∧ i = .int .i64 (k : Int)) (fun i => z - (intOf i).toNat)
  case atStart => exact ⟨r + 1, Nat.le_refl _, hzr, by go_num⟩
  case round =>
    obtain ⟨k, hk1, hk2, rfl⟩ := hrel
    have k0 : (0 : Int) ≤ (k : Int) := Int.natCast_nonneg _
    by_cases hlt : k < z
    · have t1 : (k : Int) < (z : Int) := by omega
      obtain ⟨j, hj⟩ : ∃ j, Hid (Px.dl k = j) := ⟨_, rfl⟩
      have hjb : j ≤ k + 1 := by rw [← hj.out]; exact Px.dl_le k
      have e2 : ((k : Int) == (r : Int) + (j : Int)) = false := by
        rw [beq_eq_false_iff_ne]
        intro h
        have h2 : Px.size r ≤ k := Px.size_least (by rw [hj.out]; omega)
        rw [hz.out] at h2
        omega
      go_wp2_with (go_at_call 9; refine (said9_any k (by omega) (by omega) _).mono ?_; rintro e x2 ⟨rfl, hx2⟩; subst x2; rw [hj.out])
      go_round
      case rel => exact ⟨k + 1, by omega, by omega, by go_num⟩
      case measure => simp [intOf]; omega
    · have ek : k = z := by omega
      subst ek
      have hcv := conv_byte x1 m hm2
      obtain ⟨Y, hY⟩ : ∃ Y, Hid (Y = Nm.S [UInt8.ofNat m]) := ⟨_, rfl⟩
      rw [← hY.out] at hcv
      have hrun : ∀ u : World, (Op.stringOp .add t0 Y).run Tryd.prog u = .ok (.string X) u := fun u => by
        rw [run_string_add_sum _ _ _ (by rw [hY.out, Nm.size_S]; simp; omega), hX.out, hY.out]
      have hXb : X.size ≤ 140737488355328 := by have := hXs.out; omega
      go_wp2_with (go_at_call 8; refine (psize_any s0 X (by omega) hXb _ (HK.out.keep (hw0.trans (hx0.trans (hx1.trans (Below.alloc (Bw.refl _) (Nat.le_refl _) _)))))).mono ?_; rintro e x3 ⟨rfl, hx3⟩; rw [HZ2.out]; have hb3 : Bw x1 x3 := Bw.trans (Below.alloc (Bw.refl _) (Nat.le_refl _) _) hx3; clear c1 c2; obtain ⟨c1, c2⟩ := HP.out x3 (hx0.trans (hx1.trans hb3)))
      have t2 : (k : Int) < (z2 : Int) := by omega
      have t3 : (z2 : Int) ≤ (k : Int) + 2 := by omega
      rcases hlr2.out with h0 | h0
      · have e4 : ((er : Int) != 0) = true := by rw [bne_iff_ne]; omega
        go_wp2_with (go_at_call 10; refine (precord_any s0 t0 (by omega) (by omega) _ (HK.out.keep (hw0.trans (hx0.trans (hx1.trans hb3))))).mono ?_; rintro e x4 ⟨⟨v, rfl, hv⟩, hx4⟩; rw [hR.out] at hv ⊢; (try dsimp only at hv); obtain ⟨A, ca, rfl, hca, hra⟩ := hv; rw [hlr.out])
        go_ret
        exact ⟨rfl, hb1.out.trans (hb3.trans hx4)⟩
      · have e4 : ((lr : Int) == (k : Int)) = true := by rw [beq_iff_eq]; omega
        clear h0
        go_wp2_with (go_at_call 10; refine (precord_any s0 t0 (by omega) (by omega) _ (HK.out.keep (hw0.trans (hx0.trans (hx1.trans hb3))))).mono ?_; rintro e x4 ⟨⟨v, rfl, hv⟩, hx4⟩; rw [hR.out] at hv ⊢; (try dsimp only at hv); obtain ⟨A, ca, rfl, hca, hra⟩ := hv; rw [hlr.out])
        all_goals (go_ret; exact ⟨rfl, hb1.out.trans (hb3.trans hx4)⟩)

set_option maxRecDepth 100000 in
theorem lifted (os : Os) (started : os.Started) (H : Type) (enc : TypeId × Value → H) :
    ReturnsInHanded {} Tryd.checked os 3 .any (fun w args => (Rows.paxLengthsSpec.pre enc Tryd.prog Tryd.f3 [] false w args ∧ laidMetH Tryd.prog laidK w) ∧ sizedMet enc Tryd.prog Tryd.f3 (OpenSpec.ofChange Rows.paxLengthsSpec) false w args)
      (Rows.paxLengthsSpec.post enc Tryd.prog Tryd.f3 false true false false) := by
  refine returnsInHanded_of_change_and (C := Tryd.checked) (X := fun w _ => laidMetH Tryd.prog laidK w) (fun _ _ _ hh h => h.of_heap hh) own started (by kernel_rfl) Tryd.func3
    (ChangeSpec.witness_shaped (enc := enc) (C := Tryd.checked) (os := os) (X := fun w _ => laidMetH Tryd.prog laidK w) false (World.doorLaid Tryd.prog 400 os) #[.agg #[.string .empty, .string .empty], .int .u8 0] 8 rfl (World.shaped_of_RefB (by kernel_rfl) (by kernel_rfl)) (by kernel_rfl) (by kernel_rfl) (by kernel_rfl) (door_met os _)) ?_
  intro W base args ds gs before hval0 hW hcnd hsz0 hL _
  have hval : ∀ (j : Nat) t v, Tryd.f3.params[j]? = some t → args[j]? = some v → Value.okWide Tryd.prog W .any base t v := hval0
  have hW' := hW
  obtain ⟨p, q, hA0, hV, rfl, hfz, hnd⟩ := hW
  have hA : DataW.TrodAll enc Tryd.prog W 0 (fun _ => true) true Tryd.f3.params.toList args.toList ds p := hA0
  have hsz : (DataW.weightsEach Tryd.prog (Tryd.f3.params.toList ++ Rows.paxLengthsSpec.plain.varTypes Tryd.prog) (ds ++ gs)).all (· ≤ reachBytes) = true := hsz0
  have hkat := kat_of_laid hL
  rw [Tryd.params3] at hA hval hsz
  obtain ⟨v0, vs0, d0, ds0, p0, q0, hargs, rfl, rfl, h0, r0⟩ := trodAll_cons hA
  obtain ⟨v1, vs1, d1, ds1, p1, q1, rfl, rfl, rfl, h1, r1⟩ := trodAll_cons r0
  obtain ⟨rfl, rfl, rfl⟩ := trodAll_nil r1
  obtain rfl : args = #[v0, v1] := by cases args; simp_all
  obtain ⟨rfl, rfl⟩ := trodVars_none hV
  have k0 := h0
  have lt0 : ∀ x ∈ p0, x.block < W.heap.size := by obtain ⟨m, hm⟩ := k0; exact DataW.trod_lt m _ _ _ hm
  obtain ⟨s0, t0, rfl, w0⟩ := open_pair (hval 0 23 v0 rfl rfl) h0 (fun x hx => by simpa using List.all_eq_true.1 hsz x (DataW.weights_mem_each (j := 0) (t := 23) rfl rfl x hx))
  obtain ⟨a1, rfl, rfl, rfl, w1⟩ := open_int Tryd.underlying5 (hval 1 5 v1 rfl rfl) h1
  clear hA0 hval0
  refine (walk s0 t0 a1 W hkat w0 w1).mono fun e W' ⟨he, bel⟩ => ?_
  subst he
  exact ⟨_, rfl, _, _, _, [], _, [], hW', trodAll_mk1 (shut_bool Tryd.underlying4 _), (trodAll_cons_mk (Below.trod laidOut (by kernel_rfl) (of_decide_eq_true (by kernel_rfl)) k0 bel lt0) (trodAll_cons_mk (shut_int Tryd.underlying5 w1) trodAll_mk0)), rfl, bel.frame _, fun h => by cases h⟩

theorem over : Rows.paxLengthsRow.holds Tryd.pinned (OpenSpec.ofChange Rows.paxLengthsSpec) :=
  OpenClaim.holds_of_wide 3 Tryd.f3 rfl rfl rfl rfl rfl rfl rfl ⟨rfl, rfl, rfl, rfl, rfl⟩ rfl rfl rfl rfl rfl (by kernel_rfl) Tryd.func3 (by kernel_rfl)
    (of_decide_eq_true (by kernel_rfl)) (by unfold Func.isWrapper; first | (rw [if_pos (by decide +kernel)]; kernel_rfl) | (rw [if_neg (by decide +kernel)]; exact ⟨rfl, rfl⟩))
    (fun os started H enc _ => lifted os started H enc)

theorem proved : Rows.PaxLengthsCardSaid :=
  Claim7.holds_tied_plain_at .later [] [.data, .data, .data] true (true, "8b76b5f6fb7e1ef1fb9d7b5d44a7d62024e4498942da5fd639422ba9fed3a870") true
    over (fun _ h => by cases h) (by kernel_rfl) (fun _ h => by cases h) paxLengths_row_tie rfl ⟨rfl, rfl⟩ (by kernel_rfl) rfl
    (fun f fn hf hfn => by
      obtain rfl : f = 3 := Option.some.inj ((show Tryd.prog.funcNamed "tabulary/tabularylaw09.PaxLengths" = some 3 by kernel_rfl).symm.trans hf) |>.symm
      obtain rfl : fn = Tryd.f3 := (Option.some.inj (Tryd.func3.symm.trans hfn)).symm
      exact ⟨by kernel_rfl, fun j t ht => by
        rw [Tryd.params3] at ht
        have hm : t ∈ [23, 5] := by simpa using Array.mem_of_getElem? ht
        have hall : ([23, 5].all fun u => !Tryd.prog.wantsStandIn u) = true := by kernel_rfl
        exact (show Tryd.prog.wantsStandIn t = false by simpa using List.all_eq_true.1 hall t hm)⟩)
    (by kernel_rfl)
#print axioms proved
end Go.Proofs.YtmbabfelnieagabDoor.paxLengths
