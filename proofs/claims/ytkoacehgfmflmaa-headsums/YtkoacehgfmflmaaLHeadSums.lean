/- Proved: for every row of bytes, every head and every list of turns the statement HeadSums answers true (the document's P10.3, P10.4 and P10.9: every Sum, Seal and Blank; what is handed in stays), with no condition but the reach. -/
import Derived.Test.YtkoacehgfmflmaaX4
import Derived.Test.YtkoacehgfmflmaaFh
import Derived.ShutString
import Derived.ChangeOld
namespace Go.Proofs.Ytkoacehgfmflmaa.headSums
open Go.ChangeShapes Go.WideShapes Go.ChangeAt Go.RowKit
set_option linter.unusedVariables false

set_option linter.unusedSimpArgs false
attribute [local go_sem] List.getElem?_cons_zero Option.getD_some
set_option maxRecDepth 100000 in
set_option maxHeartbeats 16000000 in
theorem sums_any (h : Hd.Hdr) (hsm : Hd.Small h) (A2 : Option Addr) (n2 ca2 : Nat) (T : Nat → Int) (C : Nat → UInt8) (B : Option Addr) (m cb : Nat) (l0 : Hd.B) (hl0 : l0.length = m) (hmc : m ≤ cb) (hm : m ≤ 140737488351232) (hnil : B = none → cb = 0) (w : World) (hr : RowAt w B m (Hd.rowF l0)) (ht : InTurns w A2 n2 ca2 T C) :
    Calls Try.prog 5 #[.slice B m cb, .agg (Hd.hv h), .slice A2 n2 ca2] w fun e w' => e = .returned (.bool true) ∧ Below w.heap.size w w' := by
  obtain ⟨W1, hW1⟩ : ∃ V, V = w.alloc (.cells (Hd.hv h) 23) := ⟨_, rfl⟩
  have hH1 : HeadAt W1 w.heap.size h := by rw [hW1]; exact headat_new _ _
  have hb1 : Bw w W1 := by rw [hW1]; exact bw_alloc7 (Bw.refl _) _
  have HTU : Hid (Calls Try.prog 14 #[.agg (Hd.hv h), .slice A2 n2 ca2, .bool false, .slice B m cb] W1 fun e w' => TurnedSays W1 e w') := turned_any h hsm A2 n2 ca2 T C false B m cb l0 hl0 hmc hm hnil W1 (hr.keep hb1) (ht.keep hb1)
  obtain ⟨M, hM1, hM2, hM3⟩ := made_bytes 512 (by omega)
  have hMr : ∀ w, (Instr.makeSlice 24 (.int .i64 512) (.int .i64 512)).run Try.prog w = .ok (.slice (some ⟨w.heap.size, 0, none⟩) 512 512) (w.alloc (.cells M 5)) := hM3
  have HMZ : Hid (∀ W : World, RowAt (W.alloc (.cells M 5)) (some ⟨W.heap.size, 0, none⟩) 512 (Hd.rowF Hd.zeros)) := made_zero hM1 hM2
  clear hM1 hM2 hM3 hr ht hl0 hmc hm hnil
  go_enter Try.func5, Try.ntmps5
  go_wp2_with (first
    | (rw [← hW1]; clear hW1; refine wpList_load_row rfl 23 _ rfl w.heap.size rfl 23 (Hd.hv h) (0, 0) _ hH1 Try.underlying23 rfl (info_head h) ?_)
    | (go_at_call 14; refine HTU.out.mono ?_; rintro e w2 ⟨A, n, ca, l, rfl, hl, hnc, hn, hr2, hnil, hw2⟩; refine Hid.out ?_))
  show Hid _
  have hb2 := hb1.trans hw2
  have HL : Hid (l.length = n) := hl
  obtain ⟨Z, hZ⟩ : ∃ Z : Bool, Hid (Z = (l == Hd.zeros)) := ⟨_, rfl⟩
  have HR2 : Hid (RowAt w2 A n (Hd.rowF l)) := hr2
  clear HTU hl hH1 hr2
  have tok : Hid (w = w) := rfl
  by_cases h5 : n = 512
  · subst h5
    have HSL : Hid ((Hd.sealB l).length = 512) := by show _ = _; rw [Hd.seal_len (by rw [HL.out]; omega), HL.out]
    obtain ⟨S, hS⟩ : ∃ S : Nat, Hid (S = Hd.sumB l) := ⟨_, rfl⟩
    unfold Hid
    go_wp2_with (first
      | (go_at_call 15; refine (lent10_any A 512 ca (Hd.rowF l) hn _ HR2.out hnil).mono ?_; rintro e w3 ⟨g, cap, rfl, hown, hg, hcap, hcm, hw3⟩; obtain ⟨hin, hlo⟩ := lent_list hown; have hb3 := hb2.trans hw3; clear hown)
      | (go_at_call 19; refine (hSum_any _ 512 cap l HL.out _ hlo).mono ?_; rintro e w4 ⟨-, h4, hw4⟩; obtain rfl := h4 rfl; rw [← hS.out]; have hb4 := hb3.trans hw4)
      | (go_at_call 20; refine (hSeal_any _ 512 cap l HL.out _ (hlo.keep hw4)).mono ?_; rintro e w5 ⟨-, h5, hw5⟩; obtain ⟨bs, rfl, hn5⟩ := h5 rfl; have hA5 := hn5.arr; have hb35 := hw4.trans hw5)
      | (go_at_call_of 21 cap; refine (hBlank_any _ 512 cap l HL.out _ (hlo.keep hb35)).mono ?_; rintro e w6 ⟨rfl, hw6⟩; rw [← hZ.out])
      | (go_at_call 22; refine (rBlank_any A 512 ca l HL.out (by omega) _ (HR2.out.keep (hw3.trans (hb35.trans hw6)))).mono ?_; rintro e w' ⟨rfl, hw'⟩; subst w'; rw [← hZ.out])
      | (go_at_call 21; refine (hBlank_any _ 512 512 Hd.zeros zeros_len _ (HMZ.out _)).mono ?_; rintro e w7 ⟨rfl, hw7⟩; rw [beq_self_eq_true]; have hb57 : Bw w5 w7 := hw6.trans ((bw_alloc7 (Bw.refl _) _).trans hw7))
      | (go_at_call 18; refine (kept10_yes g 512 cap A ca (Hd.rowF l) hn hcap _ (hin.keep (hb35.trans hb57)) (HR2.out.keep (hw3.trans (hb35.trans hb57)))).mono ?_; rintro e w8 ⟨rfl, hw8⟩; have hb58 := hb57.trans hw8)
      | (go_at_call 23; refine (rSum_any A ca l HL.out _ (HR2.out.keep (hw3.trans (hb35.trans hb58)))).mono ?_; rintro e w' ⟨rfl, hw'⟩; subst w'; rw [← hS.out])
      | (go_at_call 24; refine (rSeal_any A ca l HL.out hnc _ (HR2.out.keep (hw3.trans (hb35.trans hb58)))).mono ?_; rintro e w9 ⟨v9, rfl, g9, hw9⟩; obtain ⟨g8, cap8, rfl, hcap8, hgb8, ho8⟩ := own_gb g9 HSL.out)
      | (go_at_call 11; refine (same10_any _ _ 512 512 512 cap8 (Hd.rowF (Hd.sealB l)) (Hd.rowF (Hd.sealB l)) (by omega) (by omega) _ (arr_row512 (hA5.keep (hb58.trans hw9)) HSL.out) (ho8.row (Hd.rowF_bd _))).mono ?_; rintro e w10 ⟨⟨x, rfl, hx⟩, q, hq⟩; obtain rfl : x = true := hx.2 ⟨rfl, fun _ _ => rfl⟩; have hb10 : Bw w9 w10 := (by rw [hq]; exact Bw.drewN _ q); clear hq hx))
    go_ret
    exact ⟨rfl, hb3.trans (hb35.trans (hb58.trans (hw9.trans hb10)))⟩
  · have HN : Hid (n ≠ 512) := h5
    have e5 : ((n : Int) != 512) = true := by rw [bne_iff_ne]; omega
    clear h5
    unfold Hid
    go_wp2_with (first
      | (go_at_call 15; refine (lent10_any A n ca (Hd.rowF l) hn _ HR2.out hnil).mono ?_; rintro e w3 ⟨g, cap, rfl, hown, hg, hcap, hcm, hw3⟩; obtain ⟨hin, hlo⟩ := lent_list hown; have hb3 := hb2.trans hw3; clear hown)
      | (go_at_call 19; refine (hSum_any _ n cap l HL.out _ hlo).mono ?_; rintro e w4 ⟨h4, -, hw4⟩; obtain rfl := h4 HN.out; have hb4 := hb3.trans hw4)
      | (go_at_call 20; refine (hSeal_any _ n cap l HL.out _ (hlo.keep hw4)).mono ?_; rintro e w5 ⟨h5, -, hw5⟩; obtain rfl := h5 HN.out; have hb35 := hw4.trans hw5)
      | (go_at_call_of 21 cap; refine (hBlank_any _ n cap l HL.out _ (hlo.keep hb35)).mono ?_; rintro e w6 ⟨rfl, hw6⟩; rw [← hZ.out])
      | (go_at_call 22; refine (rBlank_any A n ca l HL.out (by omega) _ (HR2.out.keep (hw3.trans (hb35.trans hw6)))).mono ?_; rintro e w' ⟨rfl, hw'⟩; subst w'; rw [← hZ.out])
      | (go_at_call 21; refine (hBlank_any _ 512 512 Hd.zeros zeros_len _ (HMZ.out _)).mono ?_; rintro e w7 ⟨rfl, hw7⟩; rw [beq_self_eq_true]; have hb57 : Bw w5 w7 := hw6.trans ((bw_alloc7 (Bw.refl _) _).trans hw7))
      | (go_at_call 18; refine (kept10_yes g n cap A ca (Hd.rowF l) hn hcap _ (hin.keep (hb35.trans hb57)) (HR2.out.keep (hw3.trans (hb35.trans hb57)))).mono ?_; rintro e w8 ⟨rfl, hw8⟩; have hb58 := hb57.trans hw8))
    go_ret
    exact ⟨rfl, hb3.trans (hb35.trans hb58)⟩
theorem walk (a0 : Option Addr) (len0 cap0 : Nat) (f0 : Nat → Int) (y1 : Hd.Hdr) (a2 : Option Addr) (len2 cap2 : Nat) (T2 : Nat → Int) (C2 : Nat → UInt8) (w : World) (w0 : InRow w a0 len0 cap0 f0) (w1 : InHead y1) (w2 : InTurns w a2 len2 cap2 T2 C2) :
    Calls Try.prog 5 #[.slice a0 len0 cap0, .agg (Hd.hv y1), .slice a2 len2 cap2] w fun e w' => e = .returned (.bool true) ∧ Below w.heap.size w w' := by
  obtain ⟨l, hl, hr, -⟩ := row_list w0.row
  have hsm : Hd.Small y1 := ⟨by have := w1.name; omega, by have := w1.link; omega, by have := w1.pre; omega⟩
  exact sums_any y1 hsm a2 len2 cap2 T2 C2 a0 len0 cap0 l hl w0.le (by have := w0.le; have := w0.room; omega) w0.nil w hr w2

set_option maxRecDepth 100000 in
theorem lifted (os : Os) (started : os.Started) (H : Type) (enc : TypeId × Value → H) :
    ReturnsInHanded {} Try.checked os 5 .any (Rows.headSumsSpec.pre6 enc Try.prog Try.f5 Rows.headSumsRow.domain false) (Rows.headSumsSpec.post enc Try.prog Try.f5 false true false false) := by
  refine returnsInHanded_of_change_sized (C := Try.checked) own started (by kernel_rfl) Try.func5
    (ChangeSpec.witness6 (enc := enc) (C := Try.checked) false ⟨#[], #[.slice none 0 0, .agg #[.string .empty, .string .empty, .int .i64 0, .int .i64 0, .int .i64 0, .int .u8 0, .string .empty], .slice none 0 0], []⟩ 8 (by kernel_rfl) (by kernel_rfl) (by kernel_rfl) (by kernel_rfl)) ?_
  intro W base args ds gs before hval0 hW hcnd hsz0 _
  have hval : ∀ (j : Nat) t v, Try.f5.params[j]? = some t → args[j]? = some v → Value.okWide Try.prog W .any base t v := hval0
  have hW' := hW
  obtain ⟨p, q, hA0, hV, rfl, hfz, hnd⟩ := hW
  have hA : DataW.TrodAll enc Try.prog W 0 (fun _ => true) true Try.f5.params.toList args.toList ds p := hA0
  have hsz : (DataW.weightsEach Try.prog (Try.f5.params.toList ++ Rows.headSumsSpec.plain.varTypes Try.prog) (ds ++ gs)).all (· ≤ reachBytes) = true := hsz0
  rw [Try.params5] at hA hval hsz
  obtain ⟨v0, vs0, d0, ds0, p0, q0, hargs, rfl, rfl, h0, r0⟩ := trodAll_cons hA
  obtain ⟨v1, vs1, d1, ds1, p1, q1, rfl, rfl, rfl, h1, r1⟩ := trodAll_cons r0
  obtain ⟨v2, vs2, d2, ds2, p2, q2, rfl, rfl, rfl, h2, r2⟩ := trodAll_cons r1
  obtain ⟨rfl, rfl, rfl⟩ := trodAll_nil r2
  obtain rfl : args = #[v0, v1, v2] := by cases args; simp_all
  obtain ⟨rfl, rfl⟩ := trodVars_none hV
  obtain ⟨a0, len0, cap0, rfl⟩ := okWide_slice Try.underlying24 (hval 0 24 v0 rfl rfl)
  have k0 := h0
  have lt0 : ∀ x ∈ p0, x.block < W.heap.size := by obtain ⟨m, hm⟩ := k0; exact DataW.trod_lt m _ _ _ hm
  obtain ⟨f0, w0⟩ := open_bytes h0 (fun x hx => by simpa using List.all_eq_true.1 hsz x (DataW.weights_mem_each (j := 0) (t := 24) rfl rfl x hx))
  have k1 := h1
  have lt1 : ∀ x ∈ p1, x.block < W.heap.size := by obtain ⟨m, hm⟩ := k1; exact DataW.trod_lt m _ _ _ hm
  obtain ⟨y1, rfl, w1⟩ := open_head (hval 1 23 v1 rfl rfl) h1 (fun x hx => by simpa using List.all_eq_true.1 hsz x (DataW.weights_mem_each (j := 1) (t := 23) rfl rfl x hx))
  obtain ⟨a2, len2, cap2, rfl⟩ := okWide_slice Try.underlying33 (hval 2 33 v2 rfl rfl)
  have k2 := h2
  have lt2 : ∀ x ∈ p2, x.block < W.heap.size := by obtain ⟨m, hm⟩ := k2; exact DataW.trod_lt m _ _ _ hm
  obtain ⟨T2, C2, w2⟩ := open_turns h2 (fun x hx => by simpa using List.all_eq_true.1 hsz x (DataW.weights_mem_each (j := 2) (t := 33) rfl rfl x hx))
  clear hA0 hval0
  refine (walk a0 len0 cap0 f0 y1 a2 len2 cap2 T2 C2 W w0 w1 w2).mono fun e W' ⟨he, bel⟩ => ?_
  subst he
  exact ⟨_, rfl, _, _, _, [], _, [], hW', trodAll_mk1 (shut_bool Try.underlying4 _), (trodAll_cons_mk (Below.trod laidOut (by kernel_rfl) (of_decide_eq_true (by kernel_rfl)) k0 bel lt0) (trodAll_cons_mk (Below.trod laidOut (by kernel_rfl) (of_decide_eq_true (by kernel_rfl)) k1 bel lt1) (trodAll_cons_mk (Below.trod laidOut (by kernel_rfl) (of_decide_eq_true (by kernel_rfl)) k2 bel lt2) trodAll_mk0))), rfl, bel.frame _, fun h => by cases h⟩

theorem over : Rows.headSumsRow.holds Try.pinned (OpenSpec.ofChange Rows.headSumsSpec) :=
  OpenClaim.holds_of_wide 5 Try.f5 rfl rfl rfl rfl rfl rfl rfl ⟨rfl, rfl, rfl, rfl, rfl⟩ rfl rfl rfl rfl rfl (by kernel_rfl) Try.func5 (by kernel_rfl)
    (of_decide_eq_true (by kernel_rfl)) (by unfold Func.isWrapper; first | (rw [if_pos (by decide +kernel)]; kernel_rfl) | (rw [if_neg (by decide +kernel)]; exact ⟨rfl, rfl⟩))
    (fun os started H enc _ => lifted os started H enc)

theorem proved : Rows.HeadSumsSaid := over
#print axioms proved
end Go.Proofs.Ytkoacehgfmflmaa.headSums
