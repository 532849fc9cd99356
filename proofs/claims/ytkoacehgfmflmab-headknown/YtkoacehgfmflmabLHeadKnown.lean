/- Proved: the closed statement HeadKnown answers true (the document's P10.1 to P10.5: limits, types and errors have their numbers; the document's examples), with no condition. -/
import Derived.Test.YtkoacehgfmflmabX5
import Derived.Test.YtkoacehgfmflmabFh
import Derived.ShutString
import Derived.ChangeOld
namespace Go.Proofs.Ytkoacehgfmflmab.headKnown
open Go.ChangeShapes Go.WideShapes Go.ChangeAt Go.RowKit
set_option linter.unusedVariables false

set_option linter.unusedSimpArgs false
attribute [local go_sem] List.getElem?_cons_zero Option.getD_some
set_option maxRecDepth 100000 in
set_option maxHeartbeats 16000000 in
theorem known10 (w : World) : Calls Try.prog 4 #[] w fun e w' => e = .returned (.bool true) ∧ Bw w w' := by
  have hz7 := zero_head
  have hgr := guard_head
  obtain ⟨N, hN⟩ : ∃ N, Hid (N = Hd.none7) := ⟨_, rfl⟩
  rw [← hN.out] at hz7
  have HNS : Hid (N.size = 7) := by show _ = _; rw [hN.out]; rfl
  obtain ⟨D, hD⟩ : ∃ D, Hid (D = Hd.small) := ⟨_, rfl⟩
  have hgd : Hid (Hd.Good D) := by rw [hD.out]; exact Hd.small_good
  have HSM : Hid (∀ W, Calls Try.prog 9 #[] W fun e w' => e = .returned (.agg (Hd.hv D)) ∧ Bw W w') := fun W => by rw [hD.out]; exact small_any W
  obtain ⟨C1, hC1⟩ : ∃ C, Hid (C = Hd.c1) := ⟨_, rfl⟩
  obtain ⟨C3, hC3⟩ : ∃ C, Hid (C = Hd.c3) := ⟨_, rfl⟩
  have HL0 : Hid ((Hd.layB D).length = 512) := Hd.lay_len hgd.out
  have HE1 : Hid ((Hd.layB D).set 0 98 = C1) := by show _ = _; rw [hC1.out, hD.out]; rfl
  have HE3 : Hid ((C1.set 0 97).set 100 32 = C3) := by show _ = _; rw [hC1.out, hC3.out]; rfl
  have HL1 : Hid (C1.length = 512) := by rw [hC1.out]; exact Hd.c1_len
  have HL3 : Hid (C3.length = 512) := by rw [hC3.out]; exact Hd.c3_len
  have HR1 : Hid (Hd.Reads C1 Hd.none 101) := by rw [hC1.out]; exact Hd.c1_reads
  obtain ⟨DB, hDB⟩ : ∃ D, Hid (D = Hd.smallb) := ⟨_, rfl⟩
  have HS1 : Hid (Hd.sealB C1 = Hd.layB DB) := by rw [hC1.out, hDB.out]; exact Hd.c1_seal
  have hgb : Hid (Hd.Good DB) := by rw [hDB.out]; exact Hd.smallb_good
  have HN6 : Hid ((Hd.hv DB)[0]? = some (.string ⟨#[98]⟩)) := by rw [hDB.out]; rfl
  have HR3 : Hid (Hd.Reads (Hd.sealB C3) Hd.none 100) := by rw [hC3.out]; exact Hd.c3_reads
  have HLS : Hid ((Hd.sealB C3).length = 512) := by show _ = _; rw [Hd.seal_len (by rw [HL3.out]; omega), HL3.out]
  have tok1 : Hid (w = w) := rfl
  have tok2 : Hid (w = w) := rfl
  have tok3 : Hid (w = w) := rfl
  have tok4 : Hid (w = w) := rfl
  go_enter Try.func4, Try.ntmps4
  go_wp2_with (first
    | (go_at_call 5; refine (awake10_any _).mono ?_; rintro e w1 ⟨rfl, hw1⟩)
    | (go_at_call 9; clear tok1; refine (HSM.out _).mono ?_; rintro e w2 ⟨rfl, hw2⟩; have hb2 := hw1.trans hw2)
    | (go_at_call 6; refine (hPut_good D hgd.out _).mono ?_; rintro e w3 ⟨ga, rfl, hn3, hw3⟩; have hb3 := hb2.trans hw3; have hA3 := hn3.arr; obtain ⟨e1, e2⟩ := hA3.cell (c := 0) (by rw [HL0.out]; omega); have hga : w.heap.size ≤ ga := Nat.le_trans hb2.size hn3.new; clear hn3 hw3)
    | (go_at_call 10; clear tok2; obtain ⟨w4, hw4⟩ : ∃ V, V = w3.setCell ⟨ga, 0, none⟩ (.int .u8 98) := ⟨_, rfl⟩; have hb4 : Bw w w4 := (by rw [hw4]; exact bw_put hb3 _ _ _ hga); have hA4 : ArrAt w4 ga C1 := (by rw [hw4, ← HE1.out]; exact arr_set10 hA3 0 98 98 rfl (by rw [HL0.out]; omega)); rw [← hw4]; clear hw4 e1 e2 hA3 hb3; refine (refused_any _ 512 512 C1 101 101 HL1.out HR1.out rfl _ (arr_row512 hA4 HL1.out)).mono ?_; rintro e w5 ⟨rfl, hw5⟩; have hA5 := hA4.keep hw5; have hb5 := hb4.trans hw5; clear hw5 hb4 hA4)
    | (go_at_call 7; clear tok3; refine (hSeal_any _ 512 512 C1 HL1.out _ (arr_row512 hA5 HL1.out)).mono ?_; rintro e w6 ⟨-, h6, hw6⟩; obtain ⟨gs, rfl, hn6⟩ := h6 rfl; rw [HS1.out] at hn6; have hA6 := hA5.keep hw6; have hb6 := hb5.trans hw6; have hB6 := hn6.arr; clear h6 hw6 hA5 hn6)
    | (go_at_call 8; clear tok4; refine (hGet_lay DB hgb.out gs 512 _ hB6).mono ?_; rintro e w7 ⟨rfl, hw7⟩; have hA7 := hA6.keep hw7; have hb7 := hb6.trans hw7; clear hw7 hA6 hB6)
    | (refine wpList_store_row rfl 23 _ _ rfl w7.heap.size (Hd.hv DB) rfl rfl 23 N (heap_alloc_new _ _) (info_head DB) HNS.out (Hd.hv_one DB) ?_; rw [setRow_alloc_new]; obtain ⟨W8, hW8⟩ : ∃ V, V = w7.alloc (.cells (Hd.hv DB) 23) := ⟨_, rfl⟩; have hH8 : HeadAt W8 w7.heap.size DB := (by rw [hW8]; exact headat_new _ _); have bb8 : Bw w7 W8 := (by rw [hW8]; exact bw_alloc7 (Bw.refl _) _); rw [← hW8]; clear hW8; have hb8 := hb7.trans bb8; have hA8 := hA7.keep bb8; have hgne : w7.heap.size ≠ ga := (fun e => by have := hA7.lt; omega); obtain ⟨e1, e2⟩ := hA8.cell (c := 0) (by rw [HL1.out]; omega); obtain ⟨e3, e4⟩ := (arr_set10 hA8 0 97 97 rfl (by rw [HL1.out]; omega)).cell (c := 100) (by rw [List.length_set, HL1.out]; omega); clear hA7 bb8)
    | (go_at_call 7; obtain ⟨w9, hw9⟩ : ∃ V, V = (W8.setCell ⟨ga, 0, none⟩ (.int .u8 97)).setCell ⟨ga, 100, none⟩ (.int .u8 32) := ⟨_, rfl⟩; have hb9 : Bw w w9 := (by rw [hw9]; exact bw_put (bw_put hb8 _ _ _ hga) _ _ _ hga); have hA9 : ArrAt w9 ga C3 := (by rw [hw9, ← HE3.out]; exact arr_set10 (arr_set10 hA8 0 97 97 rfl (by rw [HL1.out]; omega)) 100 32 32 rfl (by rw [List.length_set, HL1.out]; omega)); have hH9 : HeadAt w9 w7.heap.size DB := (by rw [hw9]; exact (hH8.keepx (bx_one _ _ _ _) (fun e => hgne e)).keepx (bx_one _ _ _ _) (fun e => hgne e)); rw [← hw9]; clear hw9 e1 e2 e3 e4 hA8 hb8; refine (hSeal_any _ 512 512 C3 HL3.out _ (arr_row512 hA9 HL3.out)).mono ?_; rintro e wA ⟨-, hA, hwA⟩; obtain ⟨gt, rfl, hnA⟩ := hA rfl; have hAA := hA9.keep hwA; have hbA := hb9.trans hwA; have hBA := hnA.arr; obtain ⟨n1, n2⟩ := (hH9.keep hwA).cell 0 _ HN6.out; clear hA hwA hA9 hnA hH9)
    | (go_at_call 10; refine (refused_any _ 512 512 _ 100 100 HLS.out HR3.out rfl _ (arr_row512 hBA HLS.out)).mono ?_; rintro e wB ⟨rfl, hwB⟩; have hAB := hAA.keep hwB; have hbB := hbA.trans hwB; refine Hid.out ?_))
  show Hid _
  have lan := hAB.lt
  clear hBA hAA hbA hwB n1 n2 HR1 HR3 HLS HS1 hgb HN6 HL1 HE1 HE3 HL0 hDB
  obtain ⟨M, hM3, hMA, hMB⟩ := made512
  obtain ⟨ZA, hZA⟩ : ∃ Z, Hid (Z = Hd.zeros) := ⟨_, rfl⟩
  obtain ⟨ZB, hZB⟩ : ∃ Z, Hid (Z = Hd.zero1) := ⟨_, rfl⟩
  have HMA : Hid (∀ w : World, RowAt (w.alloc (.cells M 5)) (some ⟨w.heap.size, 0, none⟩) 512 (Hd.rowF ZA)) := by rw [hZA.out]; exact hMA
  have HMB : Hid (∀ w : World, RowAt (w.alloc (.cells M 5)) (some ⟨w.heap.size, 0, none⟩) 511 (Hd.rowF ZB)) := by rw [hZB.out]; exact hMB
  have HZL : Hid (ZA.length = 512) := by rw [hZA.out]; exact zeros_len
  have HBL : Hid (ZB.length = 511) := by rw [hZB.out]; exact Hd.zero1_len
  have HZS : Hid (Hd.sumB ZA = 256) := by rw [hZA.out]; exact Hd.zeros_sum
  clear hMA hMB
  have tok5 : Hid (w = w) := rfl
  have tok6 : Hid (w = w) := rfl
  have tok7 : Hid (w = w) := rfl
  unfold Hid
  go_wp2_with (first
    | (go_at_call 11; clear tok5; obtain ⟨wC, hwC⟩ : ∃ V, V = wB.alloc (.cells M 5) := ⟨_, rfl⟩; have hRC : RowAt wC (some ⟨wB.heap.size, 0, none⟩) 512 (Hd.rowF ZA) := (by rw [hwC]; exact HMA.out _); have hQC : RowAt wC (some ⟨wB.heap.size, 0, none⟩) 511 (Hd.rowF ZB) := (by rw [hwC]; exact HMB.out _); have bC : Bw wB wC := (by rw [hwC]; exact bw_alloc7 (Bw.refl _) _); have lC : wB.heap.size < wC.heap.size := (by rw [hwC, size_alloc]; omega); rw [← hwC]; clear hwC hM3; refine (hSum_any _ 512 512 ZA HZL.out _ hRC).mono ?_; rintro e wD ⟨-, h, hwD⟩; obtain rfl := h rfl; rw [HZS.out]; have hRD := hRC.keep hwD; have hQD := hQC.keep hwD; have hAD := hAB.keep (bC.trans hwD); have hbD := hbB.trans (bC.trans hwD); have lD := Nat.lt_of_lt_of_le lC hwD.size; clear h hwD hRC hQC hAB bC lC)
    | (go_at_call 11; refine (hSum_any _ 511 512 ZB HBL.out _ hQD).mono ?_; rintro e wE ⟨h, -, hwE⟩; obtain rfl := h (by decide); have hRE := hRD.keep hwE; have hQE := hQD.keep hwE; have hAE := hAD.keep hwE; have hbE := hbD.trans hwE; have lE := Nat.lt_of_lt_of_le lD hwE.size; clear h hwE hRD hQD hAD lD hbD)
    | (go_at_call 9; clear tok6; refine (HSM.out _).mono ?_; rintro e wF ⟨rfl, hwF⟩; have hRF := hRE.keep hwF; have hQF := hQE.keep hwF; have hAF := hAE.keep hwF; have hbF := hbE.trans hwF; have lF := Nat.lt_of_lt_of_le lE hwF.size; clear hwF hRE hQE hAE hbE lE)
    | (go_at_call 9; clear tok7; refine (HSM.out _).mono ?_; rintro e wG ⟨rfl, hwG⟩; have hRG := hRF.keep hwG; have hQG := hQF.keep hwG; have hAG := hAF.keep hwG; have hbG := hbF.trans hwG; have lG := Nat.lt_of_lt_of_le lF hwG.size; clear hwG hRF hQF hAF hbF lF)
    | (go_at_call 9; refine (HSM.out _).mono ?_; rintro e wH ⟨rfl, hwH⟩; have hRH := hRG.keep hwH; have hQH := hQG.keep hwH; have hAH := hAG.keep hwH; have hbH := hbG.trans hwH; have lH := Nat.lt_of_lt_of_le lG hwH.size; clear hwH hRG hQG hAG hbG lG; refine Hid.out ?_))
  show Hid _
  clear HMA HMB HZS hgd HL3
  have lA := hAH.lt
  obtain ⟨gx, hgx⟩ : ∃ g, Hid (g = wH.heap.size) := ⟨_, rfl⟩
  obtain ⟨gn, hgn⟩ : ∃ g, Hid (g = wB.heap.size) := ⟨_, rfl⟩
  have hbn : w.heap.size ≤ gn := by rw [hgn.out]; exact hbB.size
  rw [← hgx.out] at lA lH
  rw [← hgn.out] at lH hRH hQH lan
  have HN7 : Hid (∀ a : Hd.Hdr, N.size = (Hd.hv a).size) := fun a => HNS.out
  have tok8 : Hid (w = w) := rfl
  have tok9 : Hid (w = w) := rfl
  rw [← hgn.out]
  unfold Hid
  go_wp2_with (first
    | (clear tok8; obtain ⟨WT, hWT⟩ : ∃ V, V = ((wH.alloc (.cells N 23)).alloc (.cells N 23)).alloc (.cells N 23) := ⟨_, rfl⟩; have q := alloc3 wH (.cells N 23); rw [← hWT, ← hgx.out] at q; rw [← hWT, ← hgx.out]; obtain ⟨q1, q2, q3, q4, q5⟩ := q; obtain ⟨r2, r3, hX, hY, hZ, hbx⟩ := heads3 D q1 q2 q3 HNS.out; refine wpList_store_row rfl 23 _ _ rfl gx (Hd.hv D) rfl rfl 23 N q1 (info_head D) (HN7.out D) (Hd.hv_one D) ?_; clear hWT)
    | (clear tok9; refine wpList_store_row rfl 23 _ _ rfl (gx + 1) (Hd.hv D) rfl rfl 23 N r2 (info_head D) (HN7.out D) (Hd.hv_one D) ?_)
    | (refine wpList_store_row rfl 23 _ _ rfl (gx + 1 + 1) (Hd.hv D) rfl rfl 23 N r3 (info_head D) (HN7.out D) (Hd.hv_one D) ?_; refine Hid.out ?_))
  show Hid _
  have LU : Hid (∀ b, b < gx → ¬ (gx ≤ b ∧ b ≤ gx + 1 + 1)) := fun b h k => by omega
  have ux : w.heap.size ≤ gx := by rw [hgx.out]; exact hbH.size
  have hAU := (hAH.keep q5).keepx hbx (LU.out _ lA)
  have hRU := (hRH.keep q5).keepx hbx (fun b o e _ => by cases e; exact LU.out _ lH)
  have hQU := (hQH.keep q5).keepx hbx (fun b o e _ => by cases e; exact LU.out _ lH)
  have hbU := bw_of_bx (hbH.trans q5) hbx (fun g h => by omega)
  generalize ((WT.setRow gx (Hd.hv D)).setRow (gx + 1) (Hd.hv D)).setRow (gx + 1 + 1) (Hd.hv D) = WU at *
  clear hAH hRH hQH q1 q2 q3 q4 q5 r2 r3 hbx hbH
  obtain ⟨x1, x2⟩ := hX.cell 5 (.int .u8 48) (by rw [hD.out]; rfl)
  have hXL : HeadAt (WU.setCell ⟨gx, 5, none⟩ (.int .u8 51)) gx Hd.kx := hX.store 5 _ Hd.kx (by rw [hD.out]; rfl)
  have hYL : HeadAt (WU.setCell ⟨gx, 5, none⟩ (.int .u8 51)) (gx + 1) D := hY.keepx (bx_one _ _ _ _) (by omega)
  have hZL : HeadAt (WU.setCell ⟨gx, 5, none⟩ (.int .u8 51)) (gx + 1 + 1) D := hZ.keepx (bx_one _ _ _ _) (by omega)
  have hAL := hAU.keepx (bx_one WU gx 5 (.int .u8 51)) (by omega)
  have hRL := hRU.keepx (bx_one WU gx 5 (.int .u8 51)) (fun b o e _ => by cases e; omega)
  have hQL := hQU.keepx (bx_one WU gx 5 (.int .u8 51)) (fun b o e _ => by cases e; omega)
  have hbL := bw_put hbU gx 5 (.int .u8 51) ux
  have HFL : Hid (HeadAt (WU.setCell ⟨gx, 5, none⟩ (.int .u8 51)) gx Hd.kx ∧ HeadAt (WU.setCell ⟨gx, 5, none⟩ (.int .u8 51)) (gx + 1) D ∧ HeadAt (WU.setCell ⟨gx, 5, none⟩ (.int .u8 51)) (gx + 1 + 1) D ∧ ArrAt (WU.setCell ⟨gx, 5, none⟩ (.int .u8 51)) ga C3 ∧ RowAt (WU.setCell ⟨gx, 5, none⟩ (.int .u8 51)) (some ⟨gn, 0, none⟩) 512 (Hd.rowF ZA) ∧ RowAt (WU.setCell ⟨gx, 5, none⟩ (.int .u8 51)) (some ⟨gn, 0, none⟩) 511 (Hd.rowF ZB) ∧ Bw w (WU.setCell ⟨gx, 5, none⟩ (.int .u8 51))) := ⟨hXL, hYL, hZL, hAL, hRL, hQL, hbL⟩
  clear hXL hYL hZL hAL hRL hQL hbL hX hY hZ hAU hRU hQU hbU
  unfold Hid
  go_wp2
  generalize WU.setCell ⟨gx, 5, none⟩ (.int .u8 51) = wL at *
  clear x1 x2
  go_loopw [18] (fun i wr => ∃ k : Nat, k ≤ 101 ∧ i = .int .i64 (k : Int) ∧ HeadAt wr (gx + 1) (Hd.kyk k) ∧ Bx (fun b => b = gx + 1) wL wr) (fun i _ => 101 - (intOf i).toNat)
  case atStart => exact ⟨0, by omega, rfl, by have := HFL.out.2.1; rw [hD.out] at this; exact this, Bx.refl _ _⟩
  case round =>
    obtain ⟨k, hk, rfl, hy, hbx⟩ := hrel
    have k0 : (0 : Int) ≤ (k : Int) := Int.natCast_nonneg _
    by_cases hk3 : k < 101
    · have t3 : (k : Int) < 101 := by omega
      obtain ⟨c1, c2⟩ := hy.cell 0 (.string (Ys k)) rfl
      have r1 := Ys_add k (by omega)
      have hset : HeadAt (wr.setCell ⟨gx + 1, 0, none⟩ (.string (Ys (k + 1)))) (gx + 1) (Hd.kyk (k + 1)) := hy.store 0 _ _ rfl
      clear hy
      go_wp2
      go_roundw
      case rel => exact ⟨k + 1, by omega, by go_num, hset, hbx.put rfl⟩
      case measure => simp [intOf]; omega
    · obtain rfl : k = 101 := by omega
      obtain ⟨fX, -, fZ, fA, fR, fQ, fB⟩ := HFL.out
      have gX := fX.keepx hbx (by omega)
      have gZ := fZ.keepx hbx (by omega)
      have gA := fA.keepx hbx (by omega)
      have gR := fR.keepx hbx (fun b o e _ => by cases e; omega)
      have gQ := fQ.keepx hbx (fun b o e _ => by cases e; omega)
      have gB := bw_of_bx fB hbx (fun g h => by omega)
      obtain ⟨c1, c2⟩ := hy.cell 0 (.string (Ys 101)) rfl
      clear HFL fX fZ fA fR fQ fB hk hk3 k0 hbx
      obtain ⟨z1, z2⟩ := (gZ.keepx (bx_one wr (gx + 1) 0 (.string (Ys 100))) (by omega)).cell 2 (.int .i64 420) (by rw [hD.out]; rfl)
      have e1 : (Ys 101).extract 0 101 = Ys 100 := Ys_cut 101 100 (by omega)
      have e2 : (Ys 101).size = 102 := Ys_size 101
      obtain ⟨wM, hwM⟩ : ∃ V, Hid (V = (wr.setCell ⟨gx + 1, 0, none⟩ (.string (Ys 100))).setCell ⟨gx + 1 + 1, 2, none⟩ (.int .i64 4096)) := ⟨_, rfl⟩
      have HFM : Hid (HeadAt wM gx Hd.kx ∧ HeadAt wM (gx + 1) (Hd.kyk 100) ∧ HeadAt wM (gx + 1 + 1) Hd.kz ∧ ArrAt wM ga C3 ∧ RowAt wM (some ⟨gn, 0, none⟩) 512 (Hd.rowF ZA) ∧ RowAt wM (some ⟨gn, 0, none⟩) 511 (Hd.rowF ZB) ∧ Bw w wM) := by
        rw [hwM.out]
        have y1 := bx_one wr (gx + 1) 0 (.string (Ys 100))
        refine ⟨(gX.keepx y1 (by omega)).keepx (bx_one _ _ _ _) (by omega), (hy.store 0 _ (Hd.kyk 100) rfl).keepx (bx_one _ _ _ _) (by omega), (gZ.keepx y1 (by omega)).store 2 _ Hd.kz (by rw [hD.out]; rfl), (gA.keepx y1 (by omega)).keepx (bx_one _ _ _ _) (by omega), (gR.keepx y1 (fun b o e _ => by cases e; omega)).keepx (bx_one _ _ _ _) (fun b o e _ => by cases e; omega), (gQ.keepx y1 (fun b o e _ => by cases e; omega)).keepx (bx_one _ _ _ _) (fun b o e _ => by cases e; omega), bw_put (bw_put gB _ _ _ (by omega)) _ _ _ (by omega)⟩
      clear hy gX gZ gA gR gQ gB
      obtain ⟨Y1, hY1⟩ : ∃ Y, Hid (Y = Ys 101) := ⟨_, rfl⟩
      obtain ⟨Y0, hY0⟩ : ∃ Y, Hid (Y = Ys 100) := ⟨_, rfl⟩
      rw [← hY1.out] at c1 e1 e2
      rw [← hY0.out] at e1 z1 z2 hwM
      have tokA : Hid (w = w) := rfl
      have tokB : Hid (w = w) := rfl
      have hkf := info_head Hd.kf
      go_wp2_with (first
        | (rw [← hwM.out]; refine wpList_load_row rfl 23 _ rfl gx rfl 23 (Hd.hv Hd.kx) (0, 0) _ HFM.out.1 Try.underlying23 rfl (info_head Hd.kx) ?_; clear hwM z1 z2 c1 c2 e1 e2)
        | (go_at_call 6; clear tokA; refine (hPut_any Hd.kx _).mono ?_; rintro e wN ⟨h, -, bN⟩; obtain rfl := h (by rw [Hd.may_kx]; decide); rw [Hd.may_kx]; clear h)
        | (refine wpList_load_row rfl 23 _ rfl (gx + 1) rfl 23 (Hd.hv (Hd.kyk 100)) (0, 0) _ (HFM.out.2.1.keep bN) Try.underlying23 rfl (info_head (Hd.kyk 100)) ?_)
        | (go_at_call 6; clear tokB; refine (hPut_any Hd.ky _).mono ?_; rintro e wO ⟨h, -, hwO⟩; obtain rfl := h (by rw [Hd.may_ky]; decide); rw [Hd.may_ky]; have bO := bN.trans hwO; clear h hwO)
        | (refine wpList_load_row rfl 23 _ rfl (gx + 1 + 1) rfl 23 (Hd.hv Hd.kz) (0, 0) _ (HFM.out.2.2.1.keep bO) Try.underlying23 rfl (info_head Hd.kz) ?_)
        | (go_at_call 6; refine (hPut_any Hd.kz _).mono ?_; rintro e wP ⟨h, -, hwP⟩; obtain rfl := h (by rw [Hd.may_kz]; decide); rw [Hd.may_kz]; have bP := bO.trans hwP; clear h hwP bN bO)
        | (refine wpList_built10 rfl 23 _ rfl (Hd.hv Hd.kf) (by kernel_rfl) ?_)
        | (refine wpList_store_row rfl 23 _ _ rfl wP.heap.size (Hd.hv Hd.kf) rfl rfl 23 N (heap_alloc_new _ _) hkf (HN7.out Hd.kf) (Hd.hv_one Hd.kf) ?_; rw [setRow_alloc_new]; obtain ⟨wQ, hwQ⟩ : ∃ V, V = wP.alloc (.cells (Hd.hv Hd.kf) 23) := ⟨_, rfl⟩; have hfQ : HeadAt wQ wP.heap.size Hd.kf := (by rw [hwQ]; exact headat_new _ _); have bQ : Bw wM wQ := (by rw [hwQ]; exact bw_alloc7 bP _); have lfm := bP.size; rw [← hwQ]; clear hwQ bP; refine Hid.out ?_))
      show Hid _
      obtain ⟨y1, -⟩ := (HFM.out.2.1.keep bQ).cell 0 (.string Y0) (by rw [hY0.out]; rfl)
      obtain ⟨Y5, hY5⟩ : ∃ Y, Hid (Y = Ys 53) := ⟨_, rfl⟩
      obtain ⟨Y9, hY9⟩ : ∃ Y, Hid (Y = Ys 99) := ⟨_, rfl⟩
      obtain ⟨LG, hLG⟩ : ∃ Y, Hid (Y = Hd.S Hd.lng) := ⟨_, rfl⟩
      have s0 : Y0.size = 101 := by rw [hY0.out]; exact Ys_size 100
      have f5 : Y0.extract 0 54 = Y5 := by rw [hY0.out, hY5.out]; exact Ys_cut 100 53 (by omega)
      have f9 : Y0.extract 0 100 = Y9 := by rw [hY0.out, hY9.out]; exact Ys_cut 100 99 (by omega)
      have rL : ∀ u : World, (Op.stringOp .add Y0 Y5).run Try.prog u = .ok (.string LG) u := fun u => by
        rw [run_string_add_sum _ _ _ (by rw [hY0.out, hY5.out, Ys_size, Ys_size]; omega), hY0.out, hY5.out, hLG.out]
        unfold Ys
        rw [Hd.append_S]; rfl
      unfold Hid
      go_wp2
      go_region_held3 (fun w' => w'.cell? ⟨gx + 1, 0, none⟩ = some (.string Y0) ∧ Bw wQ w') (first | exact ⟨y1, Below.drew (Bw.refl _)⟩ | assumption) (fail)
      rename_i hSe
      have bR := bQ.trans hSe.2
      have hfR := hfQ.keep hSe.2
      have HY : Hid (∀ W, Bw wM W → W.cell? ⟨gx + 1, 0, none⟩ = some (.string Y0)) := fun W b => ((HFM.out.2.1.keep b).cell 0 (.string Y0) (by rw [hY0.out]; rfl)).1
      clear y1 hSe bQ hfQ rL f5
      generalize wQ.drew = wR at *
      obtain ⟨WD, hWD⟩ : ∃ D, Hid (D = Hd.wide) := ⟨_, rfl⟩
      have HWD : Hid (Hd.hv WD = #[.string Y9, .string LG, .int .i64 0, .int .i64 0, .int .i64 1099511627776, .int .u8 50, .string Y9]) := by show _ = _; rw [hWD.out, hY9.out, hLG.out]; rfl
      have hbuild : ∀ w, (Instr.build 23 #[(0, .string Y9), (6, .string Y9), (1, .string LG), (5, .int .u8 50), (4, .int .i64 1099511627776)]).run Try.prog w = .ok (.agg (Hd.hv WD)) w := fun w => run_build w 23 _ _ (by rw [HWD.out]; kernel_rfl)
      have hdr : Bw wM wR.drew := bR.trans ((Below.refl _ _).drew)
      have hdr2 : Bw wR wR.drew := (Below.refl _ _).drew
      go_wp2
      refine wp_region_held_drew (S := fun w' => w'.cell? ⟨gx + 1, 0, none⟩ = some (.string Y0)) (by kernel_rfl) (HY.out _ hdr) (fun hHeld => ?_)
      generalize wR.drew = wV at *
      refine wpAnyH_take (i := 0) (v := ?_) rfl (by kernel_rfl) (by kernel_rfl) (by kernel_rfl) (fun _ _ _ h => h) (Or.inl ⟨by rfl, ?_⟩) (by assumption) ?_
      rotate_left
      · intro w hSw; (try dsimp only at hSw); go_simp; all_goals (with_reducible rfl)
      try simp only [Act.put, List.setIfInBounds_toArray, List.set_cons_zero, List.set_cons_succ, List.getElem_toArray, List.getElem_cons_succ, List.getElem_cons_zero]
      refine wpAnyH_take (i := 1) (v := ?_) rfl (by kernel_rfl) (by kernel_rfl) (by kernel_rfl) (fun _ _ _ h => h) (Or.inl ⟨by rfl, ?_⟩) (by assumption) ?_
      rotate_left
      · intro w hSw; (try dsimp only at hSw); go_simp; all_goals (with_reducible rfl)
      try simp only [Act.put, List.setIfInBounds_toArray, List.set_cons_zero, List.set_cons_succ, List.getElem_toArray, List.getElem_cons_succ, List.getElem_cons_zero]
      refine wpAnyH_take (i := 2) (v := ?_) rfl (by kernel_rfl) (by kernel_rfl) (by kernel_rfl) (fun _ _ _ h => h) (Or.inl ⟨by rfl, ?_⟩) (by assumption) ?_
      rotate_left
      · intro w hSw; (try dsimp only at hSw); go_simp; all_goals (with_reducible rfl)
      try simp only [Act.put, List.setIfInBounds_toArray, List.set_cons_zero, List.set_cons_succ, List.getElem_toArray, List.getElem_cons_succ, List.getElem_cons_zero]
      refine wpAnyH_take (i := 3) (v := ?_) rfl (by kernel_rfl) (by kernel_rfl) (by kernel_rfl) (fun _ _ _ h => h) (Or.inl ⟨by rfl, ?_⟩) (by assumption) ?_
      rotate_left
      · intro w hSw; (try dsimp only at hSw); go_simp; all_goals (with_reducible rfl)
      try simp only [Act.put, List.setIfInBounds_toArray, List.set_cons_zero, List.set_cons_succ, List.getElem_toArray, List.getElem_cons_succ, List.getElem_cons_zero]
      refine wpAnyH_take (i := 4) (v := ?_) rfl (by kernel_rfl) (by kernel_rfl) (by kernel_rfl) (fun _ _ _ h => h) (Or.inl ⟨by rfl, ?_⟩) (by assumption) ?_
      rotate_left
      · intro w hSw; (try dsimp only at hSw); go_simp; all_goals (with_reducible rfl)
      try simp only [Act.put, List.setIfInBounds_toArray, List.set_cons_zero, List.set_cons_succ, List.getElem_toArray, List.getElem_cons_succ, List.getElem_cons_zero]
      refine wpAnyH_take (i := 5) (v := ?_) rfl (by kernel_rfl) (by kernel_rfl) (by kernel_rfl) (fun _ _ _ h => h) (Or.inl ⟨by rfl, ?_⟩) (by assumption) ?_
      rotate_left
      · intro w hSw; (try dsimp only at hSw); go_simp; all_goals (with_reducible rfl)
      try simp only [Act.put, List.setIfInBounds_toArray, List.set_cons_zero, List.set_cons_succ, List.getElem_toArray, List.getElem_cons_succ, List.getElem_cons_zero]
      refine wpAnyH_take (i := 6) (v := ?_) rfl (by kernel_rfl) (by kernel_rfl) (by kernel_rfl) (fun _ _ _ h => h) (Or.inl ⟨by rfl, ?_⟩) (by assumption) ?_
      rotate_left
      · intro w hSw; (try dsimp only at hSw); go_simp; all_goals (with_reducible rfl)
      try simp only [Act.put, List.setIfInBounds_toArray, List.set_cons_zero, List.set_cons_succ, List.getElem_toArray, List.getElem_cons_succ, List.getElem_cons_zero]
      refine wpAnyH_take (i := 7) rfl (by kernel_rfl) (by kernel_rfl) (by kernel_rfl) (fun _ _ _ h => h) (yieldsIf_built10 (by rfl) 23 _ (by rfl) (Hd.hv WD) (by rw [HWD.out]; kernel_rfl)) (by assumption) ?_
      try simp only [Act.put, List.setIfInBounds_toArray, List.set_cons_zero, List.set_cons_succ, List.getElem_toArray, List.getElem_cons_succ, List.getElem_cons_zero]
      refine wpAnyH_ready (rs := [8]) (by kernel_rfl) (by simp) ?_
      refine AllReadyH.cons rfl (fun K hK => ?_) AllReadyH.nil
      go_simp
      refine hK.out _ _ (HY.out _ (bw_alloc7 hdr _)) (fun hHeld => ?_)
      clear hK K
      try simp only [Act.put, List.setIfInBounds_toArray, List.set_cons_zero, List.set_cons_succ, List.getElem_toArray, List.getElem_cons_succ, List.getElem_cons_zero]
      refine wpAnyH_ready (rs := [9]) (by kernel_rfl) (by simp) ?_
      refine AllReadyH.cons rfl (fun K hK => ?_) AllReadyH.nil
      refine step_store_row (by rfl) 23 _ _ (by rfl) wV.heap.size (Hd.hv WD) (by rfl) (by rfl) 23 N (heap_alloc_new _ _) (info_head WD) (HN7.out WD) (Hd.hv_one WD) ?_
      rw [setRow_alloc_new]
      refine hK.out _ _ (HY.out _ (bw_alloc7 hdr _)) (fun hHeld => ?_)
      clear hK K
      try simp only [Act.put, List.setIfInBounds_toArray, List.set_cons_zero, List.set_cons_succ, List.getElem_toArray, List.getElem_cons_succ, List.getElem_cons_zero]
      refine wpAnyH_done (by kernel_rfl) ?_ _
      obtain ⟨wS, hwS⟩ : ∃ V, V = wV.alloc (.cells (Hd.hv WD) 23) := ⟨_, rfl⟩
      have hWS : HeadAt wS wV.heap.size WD := by rw [hwS]; exact headat_new _ _
      have bS : Bw wM wS := by rw [hwS]; exact bw_alloc7 hdr _
      have hfS := hfR.keep (show Bw wR wS by rw [hwS]; exact bw_alloc7 hdr2 _)
      have lw := hdr.size
      have lf := Nat.lt_of_lt_of_le hfR.lt hdr2.size
      rw [← hwS]
      clear hwS hbuild hdr hdr2 hfR bR HY s0 f9
      obtain ⟨WX, hWX⟩ : ∃ D, Hid (D = Hd.wider) := ⟨_, rfl⟩
      obtain ⟨LX, hLX⟩ : ∃ Y : ByteArray, Hid (Y = Hd.S (Hd.lng ++ [120])) := by refine ⟨Hd.S (Hd.lng ++ [120]), ?_⟩; show _ = _; rfl
      have sL : LG.size = 155 := by rw [hLG.out, Hd.size_S]; exact Hd.lng_len
      have rX : ∀ u : World, (Op.stringOp .add LG ⟨#[120]⟩).run Try.prog u = .ok (.string LX) u := fun u => by
        rw [run_string_add_sum _ _ _ (by rw [sL, show (⟨#[120]⟩ : ByteArray).size = 1 from rfl]; omega), hLG.out, hLX.out, show (⟨#[120]⟩ : ByteArray) = Hd.S [120] from rfl, Hd.append_S]
      have HWX : Hid ((Hd.hv WD).setIfInBounds 1 (.string LX) = Hd.hv WX) := by show _ = _; rw [hWD.out, hWX.out, hLX.out]; rfl
      have HMX : Hid (Hd.may WX = 2) := by rw [hWX.out]; exact Hd.may_wider
      have hgw : Hid (Hd.Good WD) := by rw [hWD.out]; exact Hd.wide_good
      have HW1 : Hid ((Hd.hv WD)[1]? = some (.string LG)) := by rw [HWD.out]; rfl
      have HW4 : Hid ((Hd.hv WD)[4]? = some (.int .i64 1099511627776)) := by rw [HWD.out]; rfl
      obtain ⟨C5, hC5⟩ : ∃ C, Hid (C = Hd.c5) := ⟨_, rfl⟩
      have HE5 : Hid ((C3.set 100 48).set 500 1 = C5) := by show _ = _; rw [hC3.out, hC5.out]; rfl
      have HL3 : Hid (C3.length = 512) := by rw [hC3.out]; exact Hd.c3_len
      have HL5 : Hid (C5.length = 512) := by rw [hC5.out]; exact Hd.c5_len
      have HR5 : Hid (Hd.Reads (Hd.sealB C5) Hd.none 100) := by rw [hC5.out]; exact Hd.c5_reads
      have HLS : Hid ((Hd.sealB C5).length = 512) := by show _ = _; rw [Hd.seal_len (by rw [HL5.out]; omega), HL5.out]
      have tokC : Hid (w = w) := rfl
      have tokD : Hid (w = w) := rfl
      have tLL : (LG.toList == LG.toList) = true := by simp
      have lm := HFM.out.2.2.2.1.lt
      have hHF := HFM.out.2.2.2
      have HF : Hid (ArrAt wM ga C3 ∧ RowAt wM (some ⟨gn, 0, none⟩) 512 (Hd.rowF ZA) ∧ RowAt wM (some ⟨gn, 0, none⟩) 511 (Hd.rowF ZB) ∧ Bw w wM) := hHF
      clear hHF HFM HWD
      go_wp2_with (first
        | (refine wpList_load_row rfl 23 _ rfl wV.heap.size rfl 23 (Hd.hv WD) (0, 0) _ hWS Try.underlying23 rfl (info_head WD) ?_)
        | (go_at_call 6; clear tokC; refine (hPut_good WD hgw.out _).mono ?_; rintro e wT ⟨gc, rfl, hnT, hwT⟩; have hAT := hnT.arr; have bT := bS.trans hwT; have hWT := hWS.keep hwT; have hfT := hfS.keep hwT; clear hnT bS hWS hfS hwT)
        | (go_at_call 8; refine (hGet_lay WD hgw.out gc 512 _ hAT).mono ?_; rintro e wU ⟨rfl, hwU⟩; have bU := bT.trans hwU; have hWU := hWT.keep hwU; have hfU := hfT.keep hwU; clear hAT bT hWT hfT hwU)
        | (refine wpList_store_row rfl 23 _ _ rfl wU.heap.size (Hd.hv WD) rfl rfl 23 N (heap_alloc_new _ _) (info_head WD) (HN7.out WD) (Hd.hv_one WD) ?_; rw [setRow_alloc_new]; obtain ⟨wW, hwW⟩ : ∃ V, V = wU.alloc (.cells (Hd.hv WD) 23) := ⟨_, rfl⟩; have hqW : HeadAt wW wU.heap.size WD := (by rw [hwW]; exact headat_new _ _); have b1W : Bw wU wW := (by rw [hwW]; exact bw_alloc7 (Bw.refl _) _); have lq := hWU.lt; have hWW := hWU.keep b1W; have hfW := hfU.keep b1W; have bW := bU.trans b1W; obtain ⟨d1, d2⟩ := hWW.cell 1 _ HW1.out; rw [← hwW]; clear hwW b1W bU hWU hfU)
        | (clear tokD; obtain ⟨wX, hwX⟩ : ∃ V, V = wW.setCell ⟨wV.heap.size, 1, none⟩ (.string LX) := ⟨_, rfl⟩; have hWX' : HeadAt wX wV.heap.size WX := (by rw [hwX]; exact hWW.store 1 _ _ HWX.out); have hqX : HeadAt wX wU.heap.size WD := (by rw [hwX]; exact hqW.keepx (bx_one _ _ _ _) (by omega)); have hfX : HeadAt wX wP.heap.size Hd.kf := (by rw [hwX]; exact hfW.keepx (bx_one _ _ _ _) (by omega)); have bX : Bw wM wX := (by rw [hwX]; exact bw_put bW _ _ _ lw); rw [← hwX]; clear hwX d1 d2 hWW hqW hfW bW; refine wpList_load_row rfl 23 _ rfl wV.heap.size rfl 23 (Hd.hv WX) (0, 0) _ hWX' Try.underlying23 rfl (info_head WX) ?_)
        | (go_at_call 6; refine (hPut_any WX _).mono ?_; rintro e wY ⟨h, -, hwY⟩; obtain rfl := h (by rw [HMX.out]; decide); rw [HMX.out]; have bY := bX.trans hwY; have hqY := hqX.keep hwY; have hfY := hfX.keep hwY; have hAY := HF.out.1.keep bY; obtain ⟨e1, e2⟩ := hAY.cell (c := 100) (by rw [HL3.out]; omega); obtain ⟨e3, e4⟩ := (arr_set10 hAY 100 48 48 rfl (by rw [HL3.out]; omega)).cell (c := 500) (by rw [List.length_set, HL3.out]; omega); clear h hwY bX hqX hfX hWX')
        | (go_at_call 7; refine Hid.out ?_))
      show Hid _
      obtain ⟨wZ, hwZ⟩ : ∃ V, V = (wY.setCell ⟨ga, 100, none⟩ (.int .u8 48)).setCell ⟨ga, 500, none⟩ (.int .u8 1) := ⟨_, rfl⟩
      have x5 : Bx (fun b => b = ga) wY wZ := by rw [hwZ]; exact (bx_one _ _ _ _).trans (bx_one _ _ _ _)
      have hAZ : ArrAt wZ ga C5 := by rw [hwZ, ← HE5.out]; exact arr_set10 (arr_set10 hAY 100 48 48 rfl (by rw [HL3.out]; omega)) 500 1 1 rfl (by rw [List.length_set, HL3.out]; omega)
      have hqZ := hqY.keepx x5 (by omega)
      have hfZ := hfY.keepx x5 (by omega)
      have hRZ := (HF.out.2.1.keep bY).keepx x5 (fun b o e _ => by cases e; omega)
      have hQZ := (HF.out.2.2.1.keep bY).keepx x5 (fun b o e _ => by cases e; omega)
      have bZ : Bw w wZ := bw_of_bx (HF.out.2.2.2.trans bY) x5 (fun g h => by omega)
      rw [← hwZ]
      clear hwZ x5 hAY hqY hfY bY e1 e2 e3 e4 HF rX
      have HRZ : Hid (Hd.Reads ZA Hd.none 100) := by rw [hZA.out]; exact Hd.zeros_reads
      have HZ1 : Hid ((ZA == Hd.zeros) = true) := by rw [hZA.out]; exact Hd.zeros_is
      have HZ2 : Hid ((ZB == Hd.zeros) = false) := by rw [hZB.out]; exact Hd.zero1_not
      have HFS : Hid (∀ W, Calls Try.prog 13 #[.agg (Hd.hv D)] W fun e w' => e = .returned (.string ⟨#[97]⟩) ∧ Bw W w') := fun W => by rw [hD.out]; exact full_small W
      have tokE : Hid (w = w) := rfl
      have tokF : Hid (w = w) := rfl
      have tokG : Hid (w = w) := rfl
      unfold Hid
      refine (hSeal_any _ 512 512 C5 HL5.out _ (arr_row512 hAZ HL5.out)).mono ?_
      rintro e v0 ⟨-, h, hv0⟩
      obtain ⟨gu, rfl, hn⟩ := h rfl
      have hB0 := hn.arr
      obtain ⟨p1, -⟩ := (hqZ.keep hv0).cell 1 _ HW1.out
      obtain ⟨p4, -⟩ := (hqZ.keep hv0).cell 4 _ HW4.out
      have hf0 := hfZ.keep hv0
      have hR0 := hRZ.keep hv0
      have hQ0 := hQZ.keep hv0
      have b0 := bZ.trans hv0
      clear h hn hAZ hqZ hfZ hRZ hQZ bZ hv0
      go_wp2_with (first
        | (go_at_call 10; clear tokE; refine (refused_any _ 512 512 _ 100 100 HLS.out HR5.out rfl _ (arr_row512 hB0 HLS.out)).mono ?_; rintro e v1 ⟨rfl, hv1⟩; have hf1 := hf0.keep hv1; have hR1 := hR0.keep hv1; have hQ1 := hQ0.keep hv1; have b1 := b0.trans hv1; clear hv1 hf0 hR0 hQ0 b0 hB0 p1 p4; refine Hid.out ?_))
      show Hid _
      unfold Hid
      go_wp2_with (first
        | (go_at_call 10; refine (refused_any _ 512 512 ZA 100 100 HZL.out HRZ.out rfl _ hR1).mono ?_; rintro e v2 ⟨rfl, hv2⟩; have hf2 := hf1.keep hv2; have hR2 := hR1.keep hv2; have hQ2 := hQ1.keep hv2; have b2 := b1.trans hv2; clear hv2 hf1 hR1 hQ1 b1)
        | (go_at_call 12; clear tokF; refine (hBlank_any _ 512 512 ZA HZL.out _ hR2).mono ?_; rintro e v3 ⟨rfl, hv3⟩; rw [HZ1.out]; have hf3 := hf2.keep hv3; have hQ3 := hQ2.keep hv3; have b3 := b2.trans hv3; clear hv3 hf2 hR2 hQ2 b2)
        | (go_at_call 12; refine (hBlank_any _ 511 512 ZB HBL.out _ hQ3).mono ?_; rintro e v4 ⟨rfl, hv4⟩; rw [HZ2.out]; have hf4 := hf3.keep hv4; have b4 := b3.trans hv4; clear hv4 hf3 hQ3 b3)
        | (go_at_call 9; refine (HSM.out _).mono ?_; rintro e v5 ⟨rfl, hv5⟩; have hf5 := hf4.keep hv5; have b5 := b4.trans hv5; clear hv5 hf4 b4)
        | (go_at_call 13; clear tokG; refine (HFS.out _).mono ?_; rintro e v6 ⟨rfl, hv6⟩; have hf6 := hf5.keep hv6; have b6 := b5.trans hv6; clear hv6 hf5 b5)
        | (refine wpList_load_g10 (by rfl) 23 _ rfl wP.heap.size rfl 23 (Hd.hv Hd.kf) (0, 0) _ hf6 Try.underlying23 rfl hkf ?_)
        | (go_at_call 13; refine (full_kf _).mono ?_; rintro e v7 ⟨rfl, hv7⟩; have b7 := b6.trans hv7))
      go_ret
      exact ⟨rfl, b7⟩
theorem walk  (w : World)  :
    Calls Try.prog 4 #[] w fun e w' => e = .returned (.bool true) ∧ Below w.heap.size w w' := by
  exact known10 w

set_option maxRecDepth 100000 in
theorem lifted (os : Os) (started : os.Started) (H : Type) (enc : TypeId × Value → H) :
    ReturnsInHanded {} Try.checked os 4 .any (Rows.headKnownSpec.pre6 enc Try.prog Try.f4 Rows.headKnownRow.domain false) (Rows.headKnownSpec.post enc Try.prog Try.f4 false true false false) := by
  refine returnsInHanded_of_change_sized (C := Try.checked) own started (by kernel_rfl) Try.func4
    (ChangeSpec.witness6 (enc := enc) (C := Try.checked) false ⟨#[], #[], []⟩ 8 (by kernel_rfl) (by kernel_rfl) (by kernel_rfl) (by kernel_rfl)) ?_
  intro W base args ds gs before hval0 hW hcnd hsz0 _
  have hval : ∀ (j : Nat) t v, Try.f4.params[j]? = some t → args[j]? = some v → Value.okWide Try.prog W .any base t v := hval0
  have hW' := hW
  obtain ⟨p, q, hA0, hV, rfl, hfz, hnd⟩ := hW
  have hA : DataW.TrodAll enc Try.prog W 0 (fun _ => true) true Try.f4.params.toList args.toList ds p := hA0
  have hsz : (DataW.weightsEach Try.prog (Try.f4.params.toList ++ Rows.headKnownSpec.plain.varTypes Try.prog) (ds ++ gs)).all (· ≤ reachBytes) = true := hsz0
  rw [Try.params4] at hA hval hsz
  obtain ⟨rfl, rfl, rfl⟩ := trodAll_none hA
  obtain ⟨rfl, rfl⟩ := trodVars_none hV
  clear hA0 hval0
  refine (walk  W ).mono fun e W' ⟨he, bel⟩ => ?_
  subst he
  exact ⟨_, rfl, _, _, _, [], _, [], hW', trodAll_mk1 (shut_bool Try.underlying4 _), trodAll_mk0, rfl, bel.frame _, fun h => by cases h⟩

theorem over : Rows.headKnownRow.holds Try.pinned (OpenSpec.ofChange Rows.headKnownSpec) :=
  OpenClaim.holds_of_wide 4 Try.f4 rfl rfl rfl rfl rfl rfl rfl ⟨rfl, rfl, rfl, rfl, rfl⟩ rfl rfl rfl rfl rfl (by kernel_rfl) Try.func4 (by kernel_rfl)
    (of_decide_eq_true (by kernel_rfl)) (by unfold Func.isWrapper; first | (rw [if_pos (by decide +kernel)]; kernel_rfl) | (rw [if_neg (by decide +kernel)]; exact ⟨rfl, rfl⟩))
    (fun os started H enc _ => lifted os started H enc)

theorem proved : Rows.HeadKnownSaid := over
#print axioms proved
end Go.Proofs.Ytkoacehgfmflmab.headKnown
