/- Proved: for every block and every row of bytes the statement BlockBack answers true (the document's P6.4: a block's bytes are read as it, and what is read is written as the same bytes), with no condition but the reach. -/
import Derived.Test.YtcnafcoifhdigaaGE
import Derived.Test.YtcnafcoifhdigaaFk
import Derived.ShutString
import Derived.ChangeOld
namespace Go.Proofs.Ytcnafcoifhdigaa.blockBack
open Go.ChangeShapes Go.WideShapes Go.ChangeAt Go.RowKit
set_option linter.unusedVariables false

set_option linter.unusedSimpArgs false
set_option maxRecDepth 100000 in
set_option maxHeartbeats 4000000 in
theorem back_great (kk ss hh : Nat) (A : Option Addr) (L ca : Nat) (d : Nat → Int) (B : Option Addr) (M cb : Nat) (f : Nat → Int) (w : World) (hi : InBlk w kk ss hh A L ca d) (hb : InRow w B M cb f) (h : 4096 < L ∨ 4096 < M) :
    Calls Try.prog 5 #[.agg #[.int .u64 (kk : Int), .int .u32 (ss : Int), .int .u8 (hh : Int), .slice A L ca], .slice B M cb] w fun e w' => e = .returned (.bool true) ∧ Bw w w' := by
  have hal : Bw w (w.alloc (.cells #[.int .u64 (kk : Int), .int .u32 (ss : Int), .int .u8 (hh : Int), .slice A L ca] 26)) := Below.alloc (Bw.refl _) (Nat.le_refl _) _
  by_cases h1 : 4096 < L
  · have h1' : (4096 : Int) < (L : Int) := by omega
    go_enter Try.func5, Try.ntmps5
    go_wp2_with (go_at_call 8; refine (wakes6_any _).mono ?_; rintro e w99 ⟨rfl, hw99⟩)
    go_ret
    exact ⟨rfl, hal.trans hw99⟩
  · have h1' : ¬ (4096 : Int) < (L : Int) := by omega
    have h2' : (4096 : Int) < (M : Int) := by omega
    go_enter Try.func5, Try.ntmps5
    go_wp2_with (go_at_call 8; refine (wakes6_any _).mono ?_; rintro e w99 ⟨rfl, hw99⟩)
    go_ret
    exact ⟨rfl, hal.trans hw99⟩

set_option maxRecDepth 100000 in
set_option maxHeartbeats 4000000 in
theorem back_long (kk ss hh : Nat) (A : Option Addr) (L ca : Nat) (d : Nat → Int) (B : Option Addr) (M cb : Nat) (f : Nat → Int) (w : World) (hi : InBlk w kk ss hh A L ca d) (hb : InRow w B M cb f) (h1 : L ≤ 4096) (h2 : M ≤ 4096) (h3 : 96 < L) :
    Calls Try.prog 5 #[.agg #[.int .u64 (kk : Int), .int .u32 (ss : Int), .int .u8 (hh : Int), .slice A L ca], .slice B M cb] w fun e w' => e = .returned (.bool true) ∧ Bw w w' := by
  obtain ⟨W0, hW0⟩ : ∃ W0, W0 = w.alloc (.cells #[.int .u64 (kk : Int), .int .u32 (ss : Int), .int .u8 (hh : Int), .slice A L ca] 26) := ⟨_, rfl⟩
  have hal : Bw w W0 := by rw [hW0]; exact Below.alloc (Bw.refl _) (Nat.le_refl _) _
  have hB0 : BlkAt W0 w.heap.size (kk : Int) (ss : Int) (hh : Int) A L ca := by rw [hW0]; exact heap_alloc_new _ _
  have hrow0 := hi.data.row.keep hal
  have hrowb := hb.row.keep hal
  have h1' : ¬ (4096 : Int) < (L : Int) := by omega
  have h2' : ¬ (4096 : Int) < (M : Int) := by omega
  have h3' : (96 : Int) < (L : Int) := by omega
  go_enter Try.func5, Try.ntmps5
  go_wp2_with (first | (go_at_call 9; rw [← hW0]; clear hW0; refine (pack_long _ _ _ A L ca _ h3).mono ?_; rintro e w1 ⟨rfl, hw1⟩; obtain ⟨c0, c1, c2, c3⟩ := BlkAt.cells (hB0.keep hw1)) | (go_at_call 8; refine (wakes6_any _).mono ?_; rintro e w99 ⟨rfl, hw99⟩))
  go_ret
  exact ⟨rfl, hal.trans (hw1.trans hw99)⟩

set_option maxRecDepth 100000 in
set_option maxHeartbeats 4000000 in
theorem back_short (kk ss hh : Nat) (A : Option Addr) (L ca : Nat) (d : Nat → Int) (B : Option Addr) (M cb : Nat) (f : Nat → Int) (w : World) (hi : InBlk w kk ss hh A L ca d) (hb : InRow w B M cb f) (h1 : L ≤ 4096) (h2 : M ≤ 4096) (h3 : L ≤ 96) (h4 : ¬ M = 128) :
    Calls Try.prog 5 #[.agg #[.int .u64 (kk : Int), .int .u32 (ss : Int), .int .u8 (hh : Int), .slice A L ca], .slice B M cb] w fun e w' => e = .returned (.bool true) ∧ Bw w w' := by
  obtain ⟨W0, hW0⟩ : ∃ W0, W0 = w.alloc (.cells #[.int .u64 (kk : Int), .int .u32 (ss : Int), .int .u8 (hh : Int), .slice A L ca] 26) := ⟨_, rfl⟩
  have hal : Bw w W0 := by rw [hW0]; exact Below.alloc (Bw.refl _) (Nat.le_refl _) _
  have hB0 : BlkAt W0 w.heap.size (kk : Int) (ss : Int) (hh : Int) A L ca := by rw [hW0]; exact heap_alloc_new _ _
  have hrow0 := hi.data.row.keep hal
  have hrowb := hb.row.keep hal
  have h1' : ¬ (4096 : Int) < (L : Int) := by omega
  have h2' : ¬ (4096 : Int) < (M : Int) := by omega
  have h3' : ¬ (96 : Int) < (L : Int) := by omega
  obtain ⟨F, hF⟩ : ∃ F, Hid (F = sealF (Blk.body kk ss hh L d) 124) := ⟨_, rfl⟩
  have hFb : ∀ i, 0 ≤ F i ∧ F i < 256 := by rw [hF.out]; exact sealF_bd (Blk.body_bd hi.shard (by omega) hi.data.row.2) 124
  have hgd : Hid (Blk.Good 128 F ∧ Blk.keyOf F = kk ∧ Blk.stripeOf F = ss ∧ Blk.shardOf F = hh ∧ Blk.lenOf F = L ∧ ∀ i, i < L → F (28 + i) = d i) := by show _ ∧ _; rw [hF.out]; exact pack_good hi.key hi.stripe (by omega)
  have h4' : ((M : Int) == 128) = false := by rw [beq_eq_false_iff_ne]; omega
  have hG : ¬ Blk.Good M f := fun h => h4 h.1
  go_enter Try.func5, Try.ntmps5
  go_wp2_with (first | (go_at_call 9; rw [← hW0]; clear hW0; refine (pack_ok kk ss hh hi.key hi.stripe hi.shard A L ca d _ hrow0 h3).mono ?_; rintro e w1 ⟨g1, c1, rfl, hown1, hg1, hcap1, hcm1, hw1⟩; rw [← hF.out] at hown1; obtain ⟨-, -, -, cl3⟩ := BlkAt.cells (hB0.keep hw1)) | (go_at_call 12; refine (parse_any _ 128 c1 F _ (hown1.row hFb) hcap1).mono ?_; rintro e w2 ⟨er, k, s, h, A2, n2, c2, rfl, hs2, hrow2, -, -, hw2⟩; obtain rfl : er = 0 := (Blk.errs_zero hs2.errs).2 hgd.out.1; obtain ⟨ek, es, eh, en⟩ := hs2.yes rfl; obtain rfl : k = kk := ek.trans hgd.out.2.1; obtain rfl : s = ss := es.trans hgd.out.2.2.1; obtain rfl : h = hh := eh.trans hgd.out.2.2.2.1; obtain rfl : n2 = L := en.trans hgd.out.2.2.2.2.1; clear ek es eh en hs2 cl3) | (refine wpList_store_row rfl 26 _ _ rfl w2.heap.size (blkCells (k : Int) (s : Int) (h : Int) A2 n2 c2) rfl rfl 26 _ (heap_alloc_new _ _) (blk_info _ _ _ _ _ _) rfl (blk_all _ _ _ _ _ _) ?_; rw [setRow_alloc_new]; have hB3 := blk_new w2 (k : Int) (s : Int) (h : Int) A2 n2 c2; have hw3 := bw_alloc (Bw.refl w2) (.cells (blkCells (k : Int) (s : Int) (h : Int) A2 n2 c2) 26); generalize w2.alloc (.cells (blkCells (k : Int) (s : Int) (h : Int) A2 n2 c2) 26) = w3 at hB3 hw3 ⊢; have hb3 := hw1.trans (hw2.trans hw3)) | refine wpList_load_blk (by rfl) _ rfl w.heap.size rfl (hB0.keep hb3) ?_ | refine wpList_load_blk (by rfl) _ rfl w2.heap.size rfl hB3 ?_ | (go_at_call_of 15 A2; refine (same_any k s h k s h A A2 n2 n2 ca c2 d (fun i => F (28 + i)) _ (hrow0.keep hb3) (hrow2.row.keep hw3)).mono ?_; rintro e w4 ⟨⟨x, rfl, hx⟩, hw4⟩; obtain rfl : x = true := hx.2 ⟨rfl, rfl, rfl, rfl, fun i hi => (hgd.out.2.2.2.2.2 i hi).symm⟩; clear hx; have hb4 := hb3.trans hw4; obtain ⟨cl0, cl1, cl2, cl3⟩ := BlkAt.cells (hB0.keep hb4); have hr4 := ((hown1.keep hw2).keep hw3).keep hw4) | (go_at_call 13; refine (is_any _ 128 c1 F k s h _ (hr4.row hFb) hcap1).mono ?_; rintro e w5 ⟨⟨x, rfl, hx⟩, hw5⟩; obtain rfl : x = true := hx.2 ⟨hgd.out.1, hgd.out.2.1, hgd.out.2.2.1, hgd.out.2.2.2.1⟩; clear hx cl0 cl1 cl2 cl3 hr4 hown1 hB3; have hb5 := hb4.trans hw5; have hrb5 := hrowb.keep hb5) | (go_at_call 12; refine (parse_any _ M cb f _ hrb5 hb.le).mono ?_; rintro e w7 ⟨er, k7, s7, h7, A7, n7, c7, rfl, hs7, hrow7, -, -, hw7⟩; have t7 : (er != 0) = true := (by rw [bne_iff_ne]; intro e; exact hG ((Blk.errs_zero hs7.errs).1 e)); have hz : Hid (k7 = 0 ∧ s7 = 0 ∧ h7 = 0 ∧ n7 = 0) := hs7.no (by rw [bne_iff_ne] at t7; exact t7); clear hs7) | (refine wpList_store_row rfl 26 _ _ rfl w7.heap.size (blkCells (k7 : Int) (s7 : Int) (h7 : Int) A7 n7 c7) rfl rfl 26 _ (heap_alloc_new _ _) (blk_info _ _ _ _ _ _) rfl (blk_all _ _ _ _ _ _) ?_; rw [setRow_alloc_new]; have hB8 := blk_new w7 (k7 : Int) (s7 : Int) (h7 : Int) A7 n7 c7; have hw8 := bw_alloc (Bw.refl w7) (.cells (blkCells (k7 : Int) (s7 : Int) (h7 : Int) A7 n7 c7) 26); generalize w7.alloc (.cells (blkCells (k7 : Int) (s7 : Int) (h7 : Int) A7 n7 c7) 26) = w8 at hB8 hw8 ⊢) | refine wpList_load_blk (by rfl) _ rfl w7.heap.size rfl hB8 ?_ | refine wpList_builtB rfl 26 _ rfl #[.int .u64 0, .int .u32 0, .int .u8 0, .slice none 0 0] (by kernel_rfl) ?_ | (go_at_call_of 15 A7; refine (same_at k7 s7 h7 0 0 0 A7 none n7 0 c7 0 _ (fun _ => 0) _ (hrow7.row.keep hw8) (row_none _)).mono ?_; rintro e w9 ⟨⟨x, rfl, hx⟩, hw9⟩; obtain rfl : x = true := hx.2 ⟨hz.out.1, hz.out.2.1, hz.out.2.2.1, hz.out.2.2.2, fun i hi => absurd hi (by have := hz.out.2.2.2; omega)⟩; clear hx) | (go_at_call 8; refine (wakes6_any _).mono ?_; rintro e w99 ⟨rfl, hw99⟩))
  go_ret
  exact ⟨rfl, hal.trans (hb5.trans (hw7.trans (hw8.trans (hw9.trans hw99))))⟩

set_option maxRecDepth 100000 in
set_option maxHeartbeats 4000000 in
theorem back_no (kk ss hh : Nat) (A : Option Addr) (L ca : Nat) (d : Nat → Int) (b o cb : Nat) (f : Nat → Int) (w : World) (hi : InBlk w kk ss hh A L ca d) (hb : InRow w (some ⟨b, o, none⟩) 128 cb f) (h1 : L ≤ 4096) (h3 : L ≤ 96) (hG : ¬ Blk.Good 128 (sealF f 124)) :
    Calls Try.prog 5 #[.agg #[.int .u64 (kk : Int), .int .u32 (ss : Int), .int .u8 (hh : Int), .slice A L ca], .slice (some ⟨b, o, none⟩) 128 cb] w fun e w' => e = .returned (.bool true) ∧ Bw w w' := by
  obtain ⟨W0, hW0⟩ : ∃ W0, W0 = w.alloc (.cells #[.int .u64 (kk : Int), .int .u32 (ss : Int), .int .u8 (hh : Int), .slice A L ca] 26) := ⟨_, rfl⟩
  have hal : Bw w W0 := by rw [hW0]; exact Below.alloc (Bw.refl _) (Nat.le_refl _) _
  have hB0 : BlkAt W0 w.heap.size (kk : Int) (ss : Int) (hh : Int) A L ca := by rw [hW0]; exact heap_alloc_new _ _
  have hrow0 := hi.data.row.keep hal
  have hrowb := hb.row.keep hal
  have h1' : ¬ (4096 : Int) < (L : Int) := by omega
  have h3' : ¬ (96 : Int) < (L : Int) := by omega
  obtain ⟨F, hF⟩ : ∃ F, Hid (F = sealF (Blk.body kk ss hh L d) 124) := ⟨_, rfl⟩
  have hFb : ∀ i, 0 ≤ F i ∧ F i < 256 := by rw [hF.out]; exact sealF_bd (Blk.body_bd hi.shard (by omega) hi.data.row.2) 124
  have hgd : Hid (Blk.Good 128 F ∧ Blk.keyOf F = kk ∧ Blk.stripeOf F = ss ∧ Blk.shardOf F = hh ∧ Blk.lenOf F = L ∧ ∀ i, i < L → F (28 + i) = d i) := by show _ ∧ _; rw [hF.out]; exact pack_good hi.key hi.stripe (by omega)
  have hcb : 128 ≤ cb := hb.le
  have hcb' : (124 : Int) ≤ (cb : Int) := by omega
  obtain ⟨R, hR⟩ : ∃ R, Hid (R = sealF f 124) := ⟨_, rfl⟩
  have hRb : ∀ i, 0 ≤ R i ∧ R i < 256 := by rw [hR.out]; exact sealF_bd hb.row.2 124
  rw [← hR.out] at hG
  go_enter Try.func5, Try.ntmps5
  go_wp2_with (first | (go_at_call 9; rw [← hW0]; clear hW0; refine (pack_ok kk ss hh hi.key hi.stripe hi.shard A L ca d _ hrow0 h3).mono ?_; rintro e w1 ⟨g1, c1, rfl, hown1, hg1, hcap1, hcm1, hw1⟩; rw [← hF.out] at hown1; obtain ⟨-, -, -, cl3⟩ := BlkAt.cells (hB0.keep hw1)) | (go_at_call 12; refine (parse_any _ 128 c1 F _ (hown1.row hFb) hcap1).mono ?_; rintro e w2 ⟨er, k, s, h, A2, n2, c2, rfl, hs2, hrow2, -, -, hw2⟩; obtain rfl : er = 0 := (Blk.errs_zero hs2.errs).2 hgd.out.1; obtain ⟨ek, es, eh, en⟩ := hs2.yes rfl; obtain rfl : k = kk := ek.trans hgd.out.2.1; obtain rfl : s = ss := es.trans hgd.out.2.2.1; obtain rfl : h = hh := eh.trans hgd.out.2.2.2.1; obtain rfl : n2 = L := en.trans hgd.out.2.2.2.2.1; clear ek es eh en hs2 cl3) | (refine wpList_store_row rfl 26 _ _ rfl w2.heap.size (blkCells (k : Int) (s : Int) (h : Int) A2 n2 c2) rfl rfl 26 _ (heap_alloc_new _ _) (blk_info _ _ _ _ _ _) rfl (blk_all _ _ _ _ _ _) ?_; rw [setRow_alloc_new]; have hB3 := blk_new w2 (k : Int) (s : Int) (h : Int) A2 n2 c2; have hw3 := bw_alloc (Bw.refl w2) (.cells (blkCells (k : Int) (s : Int) (h : Int) A2 n2 c2) 26); generalize w2.alloc (.cells (blkCells (k : Int) (s : Int) (h : Int) A2 n2 c2) 26) = w3 at hB3 hw3 ⊢; have hb3 := hw1.trans (hw2.trans hw3)) | refine wpList_load_blk (by rfl) _ rfl w.heap.size rfl (hB0.keep hb3) ?_ | refine wpList_load_blk (by rfl) _ rfl w2.heap.size rfl hB3 ?_ | (go_at_call_of 15 A2; refine (same_any k s h k s h A A2 n2 n2 ca c2 d (fun i => F (28 + i)) _ (hrow0.keep hb3) (hrow2.row.keep hw3)).mono ?_; rintro e w4 ⟨⟨x, rfl, hx⟩, hw4⟩; obtain rfl : x = true := hx.2 ⟨rfl, rfl, rfl, rfl, fun i hi => (hgd.out.2.2.2.2.2 i hi).symm⟩; clear hx; have hb4 := hb3.trans hw4; obtain ⟨cl0, cl1, cl2, cl3⟩ := BlkAt.cells (hB0.keep hb4); have hr4 := ((hown1.keep hw2).keep hw3).keep hw4) | (go_at_call 13; refine (is_any _ 128 c1 F k s h _ (hr4.row hFb) hcap1).mono ?_; rintro e w5 ⟨⟨x, rfl, hx⟩, hw5⟩; obtain rfl : x = true := hx.2 ⟨hgd.out.1, hgd.out.2.1, hgd.out.2.2.1, hgd.out.2.2.2.1⟩; clear hx cl0 cl1 cl2 cl3 hr4 hown1 hB3; have hb5 := hb4.trans hw5; have hrb5 := hrowb.keep hb5) | (go_at_call 11; refine (rseal_cap _ 124 cb f (by omega) _ (hrb5.less (by omega)) (fun e => by cases e)).mono ?_; rintro e w6 ⟨g6, c6, rfl, hrow6, hcap6, hw6⟩; rw [← hR.out] at hrow6) | (go_at_call 12; refine (parse_any _ 128 c6 R _ hrow6 hcap6).mono ?_; rintro e w7 ⟨er, k7, s7, h7, A7, n7, c7, rfl, hs7, hrow7, -, -, hw7⟩; have t7 : (er != 0) = true := (by rw [bne_iff_ne]; intro e; exact hG ((Blk.errs_zero hs7.errs).1 e)); have hz : Hid (k7 = 0 ∧ s7 = 0 ∧ h7 = 0 ∧ n7 = 0) := hs7.no (by rw [bne_iff_ne] at t7; exact t7); clear hs7) | (refine wpList_store_row rfl 26 _ _ rfl w7.heap.size (blkCells (k7 : Int) (s7 : Int) (h7 : Int) A7 n7 c7) rfl rfl 26 _ (heap_alloc_new _ _) (blk_info _ _ _ _ _ _) rfl (blk_all _ _ _ _ _ _) ?_; rw [setRow_alloc_new]; have hB8 := blk_new w7 (k7 : Int) (s7 : Int) (h7 : Int) A7 n7 c7; have hw8 := bw_alloc (Bw.refl w7) (.cells (blkCells (k7 : Int) (s7 : Int) (h7 : Int) A7 n7 c7) 26); generalize w7.alloc (.cells (blkCells (k7 : Int) (s7 : Int) (h7 : Int) A7 n7 c7) 26) = w8 at hB8 hw8 ⊢) | refine wpList_load_blk (by rfl) _ rfl w7.heap.size rfl hB8 ?_ | refine wpList_builtB rfl 26 _ rfl #[.int .u64 0, .int .u32 0, .int .u8 0, .slice none 0 0] (by kernel_rfl) ?_ | (go_at_call_of 15 A7; refine (same_at k7 s7 h7 0 0 0 A7 none n7 0 c7 0 _ (fun _ => 0) _ (hrow7.row.keep hw8) (row_none _)).mono ?_; rintro e w9 ⟨⟨x, rfl, hx⟩, hw9⟩; obtain rfl : x = true := hx.2 ⟨hz.out.1, hz.out.2.1, hz.out.2.2.1, hz.out.2.2.2, fun i hi => absurd hi (by have := hz.out.2.2.2; omega)⟩; clear hx) | (go_at_call 8; refine (wakes6_any _).mono ?_; rintro e w99 ⟨rfl, hw99⟩))
  go_ret
  exact ⟨rfl, hal.trans (hb5.trans (hw6.trans (hw7.trans (hw8.trans (hw9.trans hw99)))))⟩

set_option maxRecDepth 100000 in
set_option maxHeartbeats 4000000 in
theorem back_yes (kk ss hh : Nat) (A : Option Addr) (L ca : Nat) (d : Nat → Int) (b o cb : Nat) (f : Nat → Int) (w : World) (hi : InBlk w kk ss hh A L ca d) (hb : InRow w (some ⟨b, o, none⟩) 128 cb f) (h1 : L ≤ 4096) (h3 : L ≤ 96) (hG : Blk.Good 128 (sealF f 124)) :
    Calls Try.prog 5 #[.agg #[.int .u64 (kk : Int), .int .u32 (ss : Int), .int .u8 (hh : Int), .slice A L ca], .slice (some ⟨b, o, none⟩) 128 cb] w fun e w' => e = .returned (.bool true) ∧ Bw w w' := by
  obtain ⟨W0, hW0⟩ : ∃ W0, W0 = w.alloc (.cells #[.int .u64 (kk : Int), .int .u32 (ss : Int), .int .u8 (hh : Int), .slice A L ca] 26) := ⟨_, rfl⟩
  have hal : Bw w W0 := by rw [hW0]; exact Below.alloc (Bw.refl _) (Nat.le_refl _) _
  have hB0 : BlkAt W0 w.heap.size (kk : Int) (ss : Int) (hh : Int) A L ca := by rw [hW0]; exact heap_alloc_new _ _
  have hrow0 := hi.data.row.keep hal
  have hrowb := hb.row.keep hal
  have h1' : ¬ (4096 : Int) < (L : Int) := by omega
  have h3' : ¬ (96 : Int) < (L : Int) := by omega
  obtain ⟨F, hF⟩ : ∃ F, Hid (F = sealF (Blk.body kk ss hh L d) 124) := ⟨_, rfl⟩
  have hFb : ∀ i, 0 ≤ F i ∧ F i < 256 := by rw [hF.out]; exact sealF_bd (Blk.body_bd hi.shard (by omega) hi.data.row.2) 124
  have hgd : Hid (Blk.Good 128 F ∧ Blk.keyOf F = kk ∧ Blk.stripeOf F = ss ∧ Blk.shardOf F = hh ∧ Blk.lenOf F = L ∧ ∀ i, i < L → F (28 + i) = d i) := by show _ ∧ _; rw [hF.out]; exact pack_good hi.key hi.stripe (by omega)
  have hcb : 128 ≤ cb := hb.le
  have hcb' : (124 : Int) ≤ (cb : Int) := by omega
  obtain ⟨R, hR⟩ : ∃ R, Hid (R = sealF f 124) := ⟨_, rfl⟩
  have hRb : ∀ i, 0 ≤ R i ∧ R i < 256 := by rw [hR.out]; exact sealF_bd hb.row.2 124
  rw [← hR.out] at hG
  go_enter Try.func5, Try.ntmps5
  go_wp2_with (first | (go_at_call 9; rw [← hW0]; clear hW0; refine (pack_ok kk ss hh hi.key hi.stripe hi.shard A L ca d _ hrow0 h3).mono ?_; rintro e w1 ⟨g1, c1, rfl, hown1, hg1, hcap1, hcm1, hw1⟩; rw [← hF.out] at hown1; obtain ⟨-, -, -, cl3⟩ := BlkAt.cells (hB0.keep hw1)) | (go_at_call 12; refine (parse_any _ 128 c1 F _ (hown1.row hFb) hcap1).mono ?_; rintro e w2 ⟨er, k, s, h, A2, n2, c2, rfl, hs2, hrow2, -, -, hw2⟩; obtain rfl : er = 0 := (Blk.errs_zero hs2.errs).2 hgd.out.1; obtain ⟨ek, es, eh, en⟩ := hs2.yes rfl; obtain rfl : k = kk := ek.trans hgd.out.2.1; obtain rfl : s = ss := es.trans hgd.out.2.2.1; obtain rfl : h = hh := eh.trans hgd.out.2.2.2.1; obtain rfl : n2 = L := en.trans hgd.out.2.2.2.2.1; clear ek es eh en hs2 cl3) | (refine wpList_store_row rfl 26 _ _ rfl w2.heap.size (blkCells (k : Int) (s : Int) (h : Int) A2 n2 c2) rfl rfl 26 _ (heap_alloc_new _ _) (blk_info _ _ _ _ _ _) rfl (blk_all _ _ _ _ _ _) ?_; rw [setRow_alloc_new]; have hB3 := blk_new w2 (k : Int) (s : Int) (h : Int) A2 n2 c2; have hw3 := bw_alloc (Bw.refl w2) (.cells (blkCells (k : Int) (s : Int) (h : Int) A2 n2 c2) 26); generalize w2.alloc (.cells (blkCells (k : Int) (s : Int) (h : Int) A2 n2 c2) 26) = w3 at hB3 hw3 ⊢; have hb3 := hw1.trans (hw2.trans hw3)) | refine wpList_load_blk (by rfl) _ rfl w.heap.size rfl (hB0.keep hb3) ?_ | refine wpList_load_blk (by rfl) _ rfl w2.heap.size rfl hB3 ?_ | (go_at_call_of 15 A2; refine (same_any k s h k s h A A2 n2 n2 ca c2 d (fun i => F (28 + i)) _ (hrow0.keep hb3) (hrow2.row.keep hw3)).mono ?_; rintro e w4 ⟨⟨x, rfl, hx⟩, hw4⟩; obtain rfl : x = true := hx.2 ⟨rfl, rfl, rfl, rfl, fun i hi => (hgd.out.2.2.2.2.2 i hi).symm⟩; clear hx; have hb4 := hb3.trans hw4; obtain ⟨cl0, cl1, cl2, cl3⟩ := BlkAt.cells (hB0.keep hb4); have hr4 := ((hown1.keep hw2).keep hw3).keep hw4) | (go_at_call 13; refine (is_any _ 128 c1 F k s h _ (hr4.row hFb) hcap1).mono ?_; rintro e w5 ⟨⟨x, rfl, hx⟩, hw5⟩; obtain rfl : x = true := hx.2 ⟨hgd.out.1, hgd.out.2.1, hgd.out.2.2.1, hgd.out.2.2.2.1⟩; clear hx cl0 cl1 cl2 cl3 hr4 hown1 hB3; have hb5 := hb4.trans hw5; have hrb5 := hrowb.keep hb5) | (go_at_call 11; refine (rseal_cap _ 124 cb f (by omega) _ (hrb5.less (by omega)) (fun e => by cases e)).mono ?_; rintro e w6 ⟨g6, c6, rfl, hrow6, hcap6, hw6⟩; rw [← hR.out] at hrow6) | (go_at_call 12; refine (parse_any _ 128 c6 R _ hrow6 hcap6).mono ?_; rintro e w7 ⟨er, k7, s7, h7, A7, n7, c7, rfl, hs7, hrow7, -, -, hw7⟩; obtain rfl : er = 0 := (Blk.errs_zero hs7.errs).2 hG; have hy : Hid (k7 = Blk.keyOf R ∧ s7 = Blk.stripeOf R ∧ h7 = Blk.shardOf R ∧ n7 = Blk.lenOf R) := hs7.yes rfl; clear hs7; have hq : k7 < 18446744073709551616 ∧ s7 < 4294967296 ∧ h7 < 256 ∧ n7 ≤ 96 := (by obtain ⟨e1, e2, e3, e4⟩ := hy.out; rw [e1, e2, e3, e4]; exact ⟨Blk.num_lt64 (fun i => nb_lt hRb _) (by omega), Blk.num_lt (fun i => nb_lt hRb _) 4, nb_lt hRb 16, good_len hRb hG⟩); have hst : Hid (str (sealF (Blk.body k7 s7 h7 n7 (fun i => R (28 + i))) 124) 128 = str R 128) := (by obtain ⟨e1, e2, e3, e4⟩ := hy.out; show _ = _; rw [e1, e2, e3, e4]; exact str_congr6 (fun i hi => good_seal hRb hG hi))) | (refine wpList_store_row rfl 26 _ _ rfl w7.heap.size (blkCells (k7 : Int) (s7 : Int) (h7 : Int) A7 n7 c7) rfl rfl 26 _ (heap_alloc_new _ _) (blk_info _ _ _ _ _ _) rfl (blk_all _ _ _ _ _ _) ?_; rw [setRow_alloc_new]; have hB8 := blk_new w7 (k7 : Int) (s7 : Int) (h7 : Int) A7 n7 c7; have hw8 := bw_alloc (Bw.refl w7) (.cells (blkCells (k7 : Int) (s7 : Int) (h7 : Int) A7 n7 c7) 26); generalize w7.alloc (.cells (blkCells (k7 : Int) (s7 : Int) (h7 : Int) A7 n7 c7) 26) = w8 at hB8 hw8 ⊢) | refine wpList_load_blk (by rfl) _ rfl w7.heap.size rfl hB8 ?_ | (go_at_call 9; refine (pack_ok k7 s7 h7 hq.1 hq.2.1 hq.2.2.1 A7 n7 c7 (fun i => R (28 + i)) _ (hrow7.row.keep hw8) hq.2.2.2).mono ?_; rintro e w9 ⟨g9, c9, rfl, hown9, hg9, hcap9, hcm9, hw9⟩; have cv1 := conv_row (C := c9) (hown9.row (sealF_bd (Blk.body_bd hq.2.2.1 (by omega) (fun i => hRb _)) 124)); rw [hst.out] at cv1; have cv2 := conv_row (C := c6) (((hrow6.keep hw7).keep hw8).keep hw9)) | (go_at_call 8; refine (wakes6_any _).mono ?_; rintro e w99 ⟨rfl, hw99⟩))
  go_ret
  exact ⟨rfl, hal.trans (hb5.trans (hw6.trans (hw7.trans (hw8.trans (hw9.trans hw99)))))⟩

theorem walk (kk0 ss0 hh0 : Nat) (a0 : Option Addr) (len0 cap0 : Nat) (f0 : Nat → Int) (a1 : Option Addr) (len1 cap1 : Nat) (f1 : Nat → Int) (w : World) (w0 : InBlk w kk0 ss0 hh0 a0 len0 cap0 f0) (w1 : InRow w a1 len1 cap1 f1) :
    Calls Try.prog 5 #[.agg #[.int .u64 (kk0 : Int), .int .u32 (ss0 : Int), .int .u8 (hh0 : Int), .slice a0 len0 cap0], .slice a1 len1 cap1] w fun e w' => e = .returned (.bool true) ∧ Below w.heap.size w w' := by
  by_cases h1 : 4096 < len0 ∨ 4096 < len1
  · exact back_great _ _ _ _ _ _ _ _ _ _ _ w w0 w1 h1
  · by_cases h3 : 96 < len0
    · exact back_long _ _ _ _ _ _ _ _ _ _ _ w w0 w1 (by omega) (by omega) h3
    · by_cases h4 : len1 = 128
      · subst h4
        obtain ⟨b, o, rfl, -⟩ := w1.row.at (k := 0) (by omega)
        by_cases hG : Blk.Good 128 (sealF f1 124)
        · exact back_yes _ _ _ _ _ _ _ _ _ _ _ w w0 w1 (by omega) (by omega) hG
        · exact back_no _ _ _ _ _ _ _ _ _ _ _ w w0 w1 (by omega) (by omega) hG
      · exact back_short _ _ _ _ _ _ _ _ _ _ _ w w0 w1 (by omega) (by omega) (by omega) h4

set_option maxRecDepth 100000 in
theorem lifted (os : Os) (started : os.Started) (H : Type) (enc : TypeId × Value → H) :
    ReturnsInHanded {} Try.checked os 5 .any (Rows.blockBackSpec.pre6 enc Try.prog Try.f5 Rows.blockBackRow.domain false) (Rows.blockBackSpec.post enc Try.prog Try.f5 false true false false) := by
  refine returnsInHanded_of_change_sized (C := Try.checked) own started (by kernel_rfl) Try.func5
    (ChangeSpec.witness6 (enc := enc) (C := Try.checked) false ⟨#[], #[.agg #[.int .u64 0, .int .u32 0, .int .u8 0, .slice none 0 0], .slice none 0 0], []⟩ 8 (by kernel_rfl) (by kernel_rfl) (by kernel_rfl) (by kernel_rfl)) ?_
  intro W base args ds gs before hval0 hW hcnd hsz0 _
  have hval : ∀ (j : Nat) t v, Try.f5.params[j]? = some t → args[j]? = some v → Value.okWide Try.prog W .any base t v := hval0
  have hW' := hW
  obtain ⟨p, q, hA0, hV, rfl, hfz, hnd⟩ := hW
  have hA : DataW.TrodAll enc Try.prog W 0 (fun _ => true) true Try.f5.params.toList args.toList ds p := hA0
  have hsz : (DataW.weightsEach Try.prog (Try.f5.params.toList ++ Rows.blockBackSpec.plain.varTypes Try.prog) (ds ++ gs)).all (· ≤ reachBytes) = true := hsz0
  rw [Try.params5] at hA hval hsz
  obtain ⟨v0, vs0, d0, ds0, p0, q0, hargs, rfl, rfl, h0, r0⟩ := trodAll_cons hA
  obtain ⟨v1, vs1, d1, ds1, p1, q1, rfl, rfl, rfl, h1, r1⟩ := trodAll_cons r0
  obtain ⟨rfl, rfl, rfl⟩ := trodAll_nil r1
  obtain rfl : args = #[v0, v1] := by cases args; simp_all
  obtain ⟨rfl, rfl⟩ := trodVars_none hV
  have k0 := h0
  have lt0 : ∀ x ∈ p0, x.block < W.heap.size := by obtain ⟨m, hm⟩ := k0; exact DataW.trod_lt m _ _ _ hm
  obtain ⟨kk0, ss0, hh0, a0, len0, cap0, f0, rfl, w0⟩ := open_block (hval 0 26 v0 rfl rfl) h0 (fun x hx => by simpa using List.all_eq_true.1 hsz x (DataW.weights_mem_each (j := 0) (t := 26) rfl rfl x hx))
  obtain ⟨a1, len1, cap1, rfl⟩ := okWide_slice Try.underlying24 (hval 1 24 v1 rfl rfl)
  have k1 := h1
  have lt1 : ∀ x ∈ p1, x.block < W.heap.size := by obtain ⟨m, hm⟩ := k1; exact DataW.trod_lt m _ _ _ hm
  obtain ⟨f1, w1⟩ := open_bytes h1 (fun x hx => by simpa using List.all_eq_true.1 hsz x (DataW.weights_mem_each (j := 1) (t := 24) rfl rfl x hx))
  clear hA0 hval0
  refine (walk kk0 ss0 hh0 a0 len0 cap0 f0 a1 len1 cap1 f1 W w0 w1).mono fun e W' ⟨he, bel⟩ => ?_
  subst he
  exact ⟨_, rfl, _, _, _, [], _, [], hW', trodAll_mk1 (shut_bool Try.underlying4 _), (trodAll_cons_mk (Below.trod laidOut (by kernel_rfl) (of_decide_eq_true (by kernel_rfl)) k0 bel lt0) (trodAll_cons_mk (Below.trod laidOut (by kernel_rfl) (of_decide_eq_true (by kernel_rfl)) k1 bel lt1) trodAll_mk0)), rfl, bel.frame _, fun h => by cases h⟩

theorem over : Rows.blockBackRow.holds Try.pinned (OpenSpec.ofChange Rows.blockBackSpec) :=
  OpenClaim.holds_of_wide 5 Try.f5 rfl rfl rfl rfl rfl rfl rfl ⟨rfl, rfl, rfl, rfl, rfl⟩ rfl rfl rfl rfl rfl (by kernel_rfl) Try.func5 (by kernel_rfl)
    (of_decide_eq_true (by kernel_rfl)) (by unfold Func.isWrapper; first | (rw [if_pos (by decide +kernel)]; kernel_rfl) | (rw [if_neg (by decide +kernel)]; exact ⟨rfl, rfl⟩))
    (fun os started H enc _ => lifted os started H enc)

theorem proved : Rows.BlockBackSaid := over
#print axioms proved
end Go.Proofs.Ytcnafcoifhdigaa.blockBack
