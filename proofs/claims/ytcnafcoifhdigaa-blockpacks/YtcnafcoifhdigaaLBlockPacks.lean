/- Proved: for every block the statement BlockPacks answers true (the document's P6.1: any block's bytes are the document's, in new memory), with no condition but the reach. -/
import Derived.Test.YtcnafcoifhdigaaGH
import Derived.BigRegion
import Derived.Test.YtcnafcoifhdigaaFk
import Derived.ShutString
import Derived.ChangeOld
namespace Go.Proofs.Ytcnafcoifhdigaa.blockPacks
open Go.ChangeShapes Go.WideShapes Go.ChangeAt Go.RowKit
set_option linter.unusedVariables false

set_option linter.unusedSimpArgs false
set_option maxRecDepth 100000 in
set_option maxHeartbeats 4000000 in
theorem packs_great (k s h : Nat) (A : Option Addr) (L ca : Nat) (d : Nat → Int) (w : World) (hi : InBlk w k s h A L ca d) (h1 : 4096 < L) :
    Calls Try.prog 3 #[.agg #[.int .u64 (k : Int), .int .u32 (s : Int), .int .u8 (h : Int), .slice A L ca]] w fun e w' => e = .returned (.bool true) ∧ Bw w w' := by
  have hal : Bw w (w.alloc (.cells #[.int .u64 (k : Int), .int .u32 (s : Int), .int .u8 (h : Int), .slice A L ca] 26)) := bw_alloc (Bw.refl _) _
  have h1' : (4096 : Int) < (L : Int) := by omega
  go_enter Try.func3, Try.ntmps3
  go_wp2_with (go_at_call 8; refine (wakes6_any _).mono ?_; rintro e w99 ⟨rfl, hw99⟩)
  go_ret
  exact ⟨rfl, hal.trans hw99⟩

theorem set_mine (w : World) (X : Obj) (a b : Array Value) : ((w.alloc X).alloc (.cells a 26)).setRow (w.heap.size + 1) b = (w.alloc X).alloc (.cells b 26) := by
  have := setRow_alloc_new (w.alloc X) a b 26
  rwa [size_alloc] at this
set_option maxRecDepth 100000 in
set_option maxHeartbeats 4000000 in
theorem packs_ok (k s h : Nat) (A : Option Addr) (L ca : Nat) (d : Nat → Int) (w : World) (hi : InBlk w k s h A L ca d) (h0 : L ≤ 4096) (h1 : L ≤ 96) :
    Calls Try.prog 3 #[.agg #[.int .u64 (k : Int), .int .u32 (s : Int), .int .u8 (h : Int), .slice A L ca]] w fun e w' => e = .returned (.bool true) ∧ Bw w w' := by
  obtain ⟨i0, hi0, hz0, hz1, hz2⟩ := info_parts info_u8
  have h1' : ¬ (4096 : Int) < (L : Int) := by omega
  have hmx : 0 + L ≤ maxLen := by unfold maxLen; omega
  obtain ⟨W1, hW1⟩ : ∃ W1, W1 = (w.alloc (.cells #[.int .u64 (k : Int), .int .u32 (s : Int), .int .u8 (h : Int), .slice A L ca] 26)).alloc (.cells (blkCells (k : Int) (s : Int) (h : Int) A L ca) 26) := ⟨_, rfl⟩
  have hal : Bw w W1 := by rw [hW1]; exact bw_alloc (bw_alloc (Bw.refl _) _) _
  have hBa : BlkAt W1 w.heap.size (k : Int) (s : Int) (h : Int) A L ca := by rw [hW1]; exact heap_alloc2_old _ _ _
  have hBm : BlkAt W1 (w.heap.size + 1) (k : Int) (s : Int) (h : Int) A L ca := by rw [hW1]; exact heap_alloc2_new _ _ _
  have hs1 : Hid (W1.heap.size = w.heap.size + 2) := by show _ = _; rw [hW1, size_alloc, size_alloc]
  have hra := hi.data.row.keep hal
  have hnil := hi.data.nil
  obtain ⟨ka0, ka1, ka2, ka3⟩ := BlkAt.cells (hBa.keep (bw_alloc (Bw.refl W1) (.cells #[] 5)))
  go_enter Try.func3, Try.ntmps3
  go_wp2_with (first | (refine wpList_store_row rfl 26 _ _ rfl (w.heap.size + 1) (blkCells (k : Int) (s : Int) (h : Int) A L ca) rfl rfl 26 _ (heap_alloc2_new _ _ _) (blk_info _ _ _ _ _ _) rfl (blk_all _ _ _ _ _ _) ?_; rw [set_mine, ← hW1]; clear hW1) | (at_builtin; refine wpList_append_rowat _ (by rfl) (.tmp 15) (.tmp 17) _ (by rfl) W1.heap.size 5 i0 _ 1 Try.underlying24 hi0 hz0 hz1 hz2 rfl _ _ _ (by rfl) (own_empty W1 W1.heap.size _ (Nat.le_refl _)) A L ca d (by rfl) (hra.keep (bw_alloc (Bw.refl _) _)) hnil hmx (by omega) (by simp) ?_; intro v2 w2 hown2 hgrow2; simp only [Nat.zero_add, List.nil_append] at hown2; have hw2 := bw_fresh hgrow2; obtain ⟨A1, c1, rfl, hc1, hmine⟩ := mine_of6 hi.data.row.2 hown2; clear hown2 hgrow2; have hBm2 := hBm.keep hw2; have km3 := (BlkAt.cells hBm2).2.2.2; have kf3 := frozen_of_row w2 (w.heap.size + 1) 3 _ _ hBm2; have hBm3 := hBm2.data (A' := A1) (n' := L) (c' := c1); have hx3 : Bx (· = w.heap.size + 1) w2 (w2.setCell ⟨w.heap.size + 1, 3, none⟩ (.slice A1 L c1)) := (Bx.refl _ w2).put rfl; have hrm3 := hmine.row.keepx hx3 (fun b o e hp => by obtain ⟨g, e2, hg, -, -⟩ := hmine.own hp; rw [e] at e2; cases e2; have := hs1.out; show ¬ _ = _; omega); have hw3 : Bw w (w2.setCell ⟨w.heap.size + 1, 3, none⟩ (.slice A1 L c1)) := Bw.put (hal.trans hw2) (Nat.le_succ _) 3 _; have hBa3 := (hBa.keep hw2).keepx hx3 (by omega); have hsz3 := hx3.size; clear ka0 ka1 ka2 ka3 hBm2) | refine wpList_load_blk (by rfl) _ rfl (w.heap.size + 1) rfl hBm3 ?_ | (go_at_call 9; refine (pack_ok k s h hi.key hi.stripe hi.shard A1 L c1 d _ hrm3 h1).mono ?_; rintro e w4 ⟨g4, c4, rfl, hown4, hg4, hcap4, hcm4, hw4⟩; have hBa4 := hBa3.keep hw4; have hBm4 := hBm3.keep hw4; obtain ⟨ka0, ka1, ka2, ka3⟩ := BlkAt.cells hBa4; obtain ⟨kb0, kb1, kb2, kb3⟩ := BlkAt.cells hBm4; have cv1 := conv_row (C := c1) (hrm3.keep hw4); have cv2 := conv_row (C := ca) ((hi.data.row.keep hw3).keep hw4); clear km3 kf3))
  have hbw4 : Bw w w4 := hw3.trans hw4
  have hsz2 := hw2.size
  have hsz4 := hw4.size
  have hown4' : Hid (0 < L → ∃ g F, A1 = some ⟨g, 0, none⟩ ∧ W1.heap.size ≤ g ∧ Own w4 g L F) := fun hp => by
    obtain ⟨g, e, hg, hlt, ho⟩ := hmine.own hp
    exact ⟨g, d, e, hg, (own_keepx6 ho hx3 (by have := hs1.out; show ¬ _ = _; omega)).keep hw4⟩
  have hS : Hid (∀ b, (0 < L ∧ A1 = some ⟨b, 0, none⟩) → W1.heap.size ≤ b ∧ b < w2.heap.size) := fun b hb => by
    obtain ⟨g, e, hg, hlt, ho⟩ := hmine.own hb.1
    rw [hb.2] at e
    cases e
    exact ⟨hg, hlt⟩
  clear ka0 ka1 ka2 ka3 kb0 kb1 kb2 kb3 cv1 cv2 hmine hra hBm hBa hBa3 hBm3 hrm3 hi0 hz0 hz1 hz2 hmx hnil
  go_loopw [6] (fun i wr => ∃ n : Nat, n ≤ L ∧ i = .int .i64 n ∧ Hid (0 < L → ∃ g F, A1 = some ⟨g, 0, none⟩ ∧ W1.heap.size ≤ g ∧ Own wr g L F) ∧ Bx (fun b => 0 < L ∧ A1 = some ⟨b, 0, none⟩) w4 wr) (fun i _ => L - (intOf i).toNat)
  case atStart => exact ⟨0, Nat.zero_le _, rfl, hown4', Bx.refl _ _⟩
  case round =>
    obtain ⟨n, hn, rfl, hown, hx⟩ := hrel
    have hnS1 : ¬ (0 < L ∧ A1 = some ⟨w.heap.size + 1, 0, none⟩) := fun e => by have := (hS.out _ e).1; have := hs1.out; omega
    have hnS0 : ¬ (0 < L ∧ A1 = some ⟨w.heap.size, 0, none⟩) := fun e => by have := (hS.out _ e).1; have := hs1.out; omega
    have hBmr := hBm4.keepx hx hnS1
    have km3 := (BlkAt.cells hBmr).2.2.2
    by_cases hlt : n < L
    · obtain ⟨g, F, e1, hg, ho⟩ := hown.out (by omega)
      obtain ⟨d1, d2⟩ := ho.cell hlt
      clear hown hown4' hnS0 hnS1
      subst e1
      go_wp2
      go_region
      all_goals
        go_wp2
        generalize bits BinOp.xor IntKind.u8 (if IntKind.u8.signed = true then -1 else IntKind.u8.max) (F n) = z
        go_roundw
        case rel =>
          refine ⟨n + 1, by omega, by go_num, fun _ => ⟨g, fun c => if c = n then z else F c, rfl, hg, ho.set hlt (by rw [if_pos rfl]) (fun c _ hc => by rw [if_neg hc])⟩, (hx.put ⟨by omega, rfl⟩).drew⟩
        case measure => simp [intOf]; omega
    · have ek : L = n := by omega
      subst ek
      have hbwr : Bw w wr := Below.trans hbw4 (hx.below hbw4.size (fun b hb => by have := (hS.out b hb).1; have := hs1.out; omega))
      have hBar := hBa4.keepx hx hnS0
      have hrb := hi.data.row.keep hbwr
      have hrx := (own_keepx6 hown4 hx (fun e => by have := (hS.out _ e).2; omega)).row (sealF_bd (Blk.body_bd (key := k) (stripe := s) (len := L) hi.shard (by omega) hi.data.row.2) 124)
      clear hown hown4' hnS0 hnS1 hBmr hx hS
      go_wp2_with (first | refine wpList_load_blk (by rfl) _ rfl w.heap.size rfl hBar ?_ | (go_at_call 10; refine (rpack_ok k s h hi.key hi.stripe hi.shard A L ca d _ hrb h1 hi.data.nil).mono ?_; rintro e w5 ⟨A5, c5, rfl, hrow5, hw5⟩; have cx := conv_row (C := c4) (hrx.keep hw5); have cy := conv_row (C := c5) hrow5) | (go_at_call 8; refine (wakes6_any _).mono ?_; rintro e w99 ⟨rfl, hw99⟩))
      go_ret
      exact ⟨rfl, hbwr.trans (hw5.trans hw99)⟩

set_option maxRecDepth 100000 in
set_option maxHeartbeats 4000000 in
theorem packs_long (k s h : Nat) (A : Option Addr) (L ca : Nat) (d : Nat → Int) (w : World) (hi : InBlk w k s h A L ca d) (h0 : L ≤ 4096) (h1 : 96 < L) :
    Calls Try.prog 3 #[.agg #[.int .u64 (k : Int), .int .u32 (s : Int), .int .u8 (h : Int), .slice A L ca]] w fun e w' => e = .returned (.bool true) ∧ Bw w w' := by
  obtain ⟨i0, hi0, hz0, hz1, hz2⟩ := info_parts info_u8
  have h1' : ¬ (4096 : Int) < (L : Int) := by omega
  have hmx : 0 + L ≤ maxLen := by unfold maxLen; omega
  obtain ⟨W1, hW1⟩ : ∃ W1, W1 = (w.alloc (.cells #[.int .u64 (k : Int), .int .u32 (s : Int), .int .u8 (h : Int), .slice A L ca] 26)).alloc (.cells (blkCells (k : Int) (s : Int) (h : Int) A L ca) 26) := ⟨_, rfl⟩
  have hal : Bw w W1 := by rw [hW1]; exact bw_alloc (bw_alloc (Bw.refl _) _) _
  have hBa : BlkAt W1 w.heap.size (k : Int) (s : Int) (h : Int) A L ca := by rw [hW1]; exact heap_alloc2_old _ _ _
  have hBm : BlkAt W1 (w.heap.size + 1) (k : Int) (s : Int) (h : Int) A L ca := by rw [hW1]; exact heap_alloc2_new _ _ _
  have hs1 : Hid (W1.heap.size = w.heap.size + 2) := by show _ = _; rw [hW1, size_alloc, size_alloc]
  have hra := hi.data.row.keep hal
  have hnil := hi.data.nil
  obtain ⟨ka0, ka1, ka2, ka3⟩ := BlkAt.cells (hBa.keep (bw_alloc (Bw.refl W1) (.cells #[] 5)))
  go_enter Try.func3, Try.ntmps3
  go_wp2_with (first | (refine wpList_store_row rfl 26 _ _ rfl (w.heap.size + 1) (blkCells (k : Int) (s : Int) (h : Int) A L ca) rfl rfl 26 _ (heap_alloc2_new _ _ _) (blk_info _ _ _ _ _ _) rfl (blk_all _ _ _ _ _ _) ?_; rw [set_mine, ← hW1]; clear hW1) | (at_builtin; refine wpList_append_rowat _ (by rfl) (.tmp 15) (.tmp 17) _ (by rfl) W1.heap.size 5 i0 _ 1 Try.underlying24 hi0 hz0 hz1 hz2 rfl _ _ _ (by rfl) (own_empty W1 W1.heap.size _ (Nat.le_refl _)) A L ca d (by rfl) (hra.keep (bw_alloc (Bw.refl _) _)) hnil hmx (by omega) (by simp) ?_; intro v2 w2 hown2 hgrow2; simp only [Nat.zero_add, List.nil_append] at hown2; have hw2 := bw_fresh hgrow2; obtain ⟨A1, c1, rfl, hc1, hmine⟩ := mine_of6 hi.data.row.2 hown2; clear hown2 hgrow2; have hBm2 := hBm.keep hw2; have km3 := (BlkAt.cells hBm2).2.2.2; have kf3 := frozen_of_row w2 (w.heap.size + 1) 3 _ _ hBm2; have hBm3 := hBm2.data (A' := A1) (n' := L) (c' := c1); have hx3 : Bx (· = w.heap.size + 1) w2 (w2.setCell ⟨w.heap.size + 1, 3, none⟩ (.slice A1 L c1)) := (Bx.refl _ w2).put rfl; have hrm3 := hmine.row.keepx hx3 (fun b o e hp => by obtain ⟨g, e2, hg, -, -⟩ := hmine.own hp; rw [e] at e2; cases e2; have := hs1.out; show ¬ _ = _; omega); have hw3 : Bw w (w2.setCell ⟨w.heap.size + 1, 3, none⟩ (.slice A1 L c1)) := Bw.put (hal.trans hw2) (Nat.le_succ _) 3 _; have hBa3 := (hBa.keep hw2).keepx hx3 (by omega); have hsz3 := hx3.size; clear ka0 ka1 ka2 ka3 hBm2) | refine wpList_load_blk (by rfl) _ rfl (w.heap.size + 1) rfl hBm3 ?_ | (go_at_call 9; refine (pack_long _ _ _ A1 L c1 _ h1).mono ?_; rintro e w4 ⟨rfl, hw4⟩; have hBa4 := hBa3.keep hw4; have hBm4 := hBm3.keep hw4; obtain ⟨ka0, ka1, ka2, ka3⟩ := BlkAt.cells hBa4; obtain ⟨kb0, kb1, kb2, kb3⟩ := BlkAt.cells hBm4; have cv1 := conv_row (C := c1) (hrm3.keep hw4); have cv2 := conv_row (C := ca) ((hi.data.row.keep hw3).keep hw4); clear km3 kf3))
  have hbw4 : Bw w w4 := hw3.trans hw4
  have hsz2 := hw2.size
  have hsz4 := hw4.size
  have hown4' : Hid (0 < L → ∃ g F, A1 = some ⟨g, 0, none⟩ ∧ W1.heap.size ≤ g ∧ Own w4 g L F) := fun hp => by
    obtain ⟨g, e, hg, hlt, ho⟩ := hmine.own hp
    exact ⟨g, d, e, hg, (own_keepx6 ho hx3 (by have := hs1.out; show ¬ _ = _; omega)).keep hw4⟩
  have hS : Hid (∀ b, (0 < L ∧ A1 = some ⟨b, 0, none⟩) → W1.heap.size ≤ b ∧ b < w2.heap.size) := fun b hb => by
    obtain ⟨g, e, hg, hlt, ho⟩ := hmine.own hb.1
    rw [hb.2] at e
    cases e
    exact ⟨hg, hlt⟩
  clear ka0 ka1 ka2 ka3 kb0 kb1 kb2 kb3 cv1 cv2 hmine hra hBm hBa hBa3 hBm3 hrm3 hi0 hz0 hz1 hz2 hmx hnil
  go_loopw [6] (fun i wr => ∃ n : Nat, n ≤ L ∧ i = .int .i64 n ∧ Hid (0 < L → ∃ g F, A1 = some ⟨g, 0, none⟩ ∧ W1.heap.size ≤ g ∧ Own wr g L F) ∧ Bx (fun b => 0 < L ∧ A1 = some ⟨b, 0, none⟩) w4 wr) (fun i _ => L - (intOf i).toNat)
  case atStart => exact ⟨0, Nat.zero_le _, rfl, hown4', Bx.refl _ _⟩
  case round =>
    obtain ⟨n, hn, rfl, hown, hx⟩ := hrel
    have hnS1 : ¬ (0 < L ∧ A1 = some ⟨w.heap.size + 1, 0, none⟩) := fun e => by have := (hS.out _ e).1; have := hs1.out; omega
    have hnS0 : ¬ (0 < L ∧ A1 = some ⟨w.heap.size, 0, none⟩) := fun e => by have := (hS.out _ e).1; have := hs1.out; omega
    have hBmr := hBm4.keepx hx hnS1
    have km3 := (BlkAt.cells hBmr).2.2.2
    by_cases hlt : n < L
    · obtain ⟨g, F, e1, hg, ho⟩ := hown.out (by omega)
      obtain ⟨d1, d2⟩ := ho.cell hlt
      clear hown hown4' hnS0 hnS1
      subst e1
      go_wp2
      go_region
      all_goals
        go_wp2
        generalize bits BinOp.xor IntKind.u8 (if IntKind.u8.signed = true then -1 else IntKind.u8.max) (F n) = z
        go_roundw
        case rel =>
          refine ⟨n + 1, by omega, by go_num, fun _ => ⟨g, fun c => if c = n then z else F c, rfl, hg, ho.set hlt (by rw [if_pos rfl]) (fun c _ hc => by rw [if_neg hc])⟩, (hx.put ⟨by omega, rfl⟩).drew⟩
        case measure => simp [intOf]; omega
    · have ek : L = n := by omega
      subst ek
      have hbwr : Bw w wr := Below.trans hbw4 (hx.below hbw4.size (fun b hb => by have := (hS.out b hb).1; have := hs1.out; omega))
      have hBar := hBa4.keepx hx hnS0
      have hrb := hi.data.row.keep hbwr
      clear hown hown4' hnS0 hnS1 hBmr hx hS
      go_wp2_with (first | refine wpList_load_blk (by rfl) _ rfl w.heap.size rfl hBar ?_ | (go_at_call 10; refine (rpack_long _ _ _ A L ca _ h1).mono ?_; rintro e w5 ⟨rfl, hw5⟩; have cx := conv_row (C := 0) (row_none w5)) | (go_at_call 8; refine (wakes6_any _).mono ?_; rintro e w99 ⟨rfl, hw99⟩))
      go_ret
      exact ⟨rfl, hbwr.trans (hw5.trans hw99)⟩

theorem walk (kk0 ss0 hh0 : Nat) (a0 : Option Addr) (len0 cap0 : Nat) (f0 : Nat → Int) (w : World) (w0 : InBlk w kk0 ss0 hh0 a0 len0 cap0 f0) :
    Calls Try.prog 3 #[.agg #[.int .u64 (kk0 : Int), .int .u32 (ss0 : Int), .int .u8 (hh0 : Int), .slice a0 len0 cap0]] w fun e w' => e = .returned (.bool true) ∧ Below w.heap.size w w' := by
  by_cases h1 : 4096 < len0
  · exact packs_great _ _ _ _ _ _ _ w w0 h1
  · by_cases h2 : 96 < len0
    · exact packs_long _ _ _ _ _ _ _ w w0 (by omega) h2
    · exact packs_ok _ _ _ _ _ _ _ w w0 (by omega) (by omega)

set_option maxRecDepth 100000 in
theorem lifted (os : Os) (started : os.Started) (H : Type) (enc : TypeId × Value → H) :
    ReturnsInHanded {} Try.checked os 3 .any (Rows.blockPacksSpec.pre6 enc Try.prog Try.f3 Rows.blockPacksRow.domain false) (Rows.blockPacksSpec.post enc Try.prog Try.f3 false true false false) := by
  refine returnsInHanded_of_change_sized (C := Try.checked) own started (by kernel_rfl) Try.func3
    (ChangeSpec.witness6 (enc := enc) (C := Try.checked) false ⟨#[], #[.agg #[.int .u64 0, .int .u32 0, .int .u8 0, .slice none 0 0]], []⟩ 8 (by kernel_rfl) (by kernel_rfl) (by kernel_rfl) (by kernel_rfl)) ?_
  intro W base args ds gs before hval0 hW hcnd hsz0 _
  have hval : ∀ (j : Nat) t v, Try.f3.params[j]? = some t → args[j]? = some v → Value.okWide Try.prog W .any base t v := hval0
  have hW' := hW
  obtain ⟨p, q, hA0, hV, rfl, hfz, hnd⟩ := hW
  have hA : DataW.TrodAll enc Try.prog W 0 (fun _ => true) true Try.f3.params.toList args.toList ds p := hA0
  have hsz : (DataW.weightsEach Try.prog (Try.f3.params.toList ++ Rows.blockPacksSpec.plain.varTypes Try.prog) (ds ++ gs)).all (· ≤ reachBytes) = true := hsz0
  rw [Try.params3] at hA hval hsz
  obtain ⟨v0, vs0, d0, ds0, p0, q0, hargs, rfl, rfl, h0, r0⟩ := trodAll_cons hA
  obtain ⟨rfl, rfl, rfl⟩ := trodAll_nil r0
  obtain rfl : args = #[v0] := by cases args; simp_all
  obtain ⟨rfl, rfl⟩ := trodVars_none hV
  have k0 := h0
  have lt0 : ∀ x ∈ p0, x.block < W.heap.size := by obtain ⟨m, hm⟩ := k0; exact DataW.trod_lt m _ _ _ hm
  obtain ⟨kk0, ss0, hh0, a0, len0, cap0, f0, rfl, w0⟩ := open_block (hval 0 26 v0 rfl rfl) h0 (fun x hx => by simpa using List.all_eq_true.1 hsz x (DataW.weights_mem_each (j := 0) (t := 26) rfl rfl x hx))
  clear hA0 hval0
  refine (walk kk0 ss0 hh0 a0 len0 cap0 f0 W w0).mono fun e W' ⟨he, bel⟩ => ?_
  subst he
  exact ⟨_, rfl, _, _, _, [], _, [], hW', trodAll_mk1 (shut_bool Try.underlying4 _), (trodAll_cons_mk (Below.trod laidOut (by kernel_rfl) (of_decide_eq_true (by kernel_rfl)) k0 bel lt0) trodAll_mk0), rfl, bel.frame _, fun h => by cases h⟩

theorem over : Rows.blockPacksRow.holds Try.pinned (OpenSpec.ofChange Rows.blockPacksSpec) :=
  OpenClaim.holds_of_wide 3 Try.f3 rfl rfl rfl rfl rfl rfl rfl ⟨rfl, rfl, rfl, rfl, rfl⟩ rfl rfl rfl rfl rfl (by kernel_rfl) Try.func3 (by kernel_rfl)
    (of_decide_eq_true (by kernel_rfl)) (by unfold Func.isWrapper; first | (rw [if_pos (by decide +kernel)]; kernel_rfl) | (rw [if_neg (by decide +kernel)]; exact ⟨rfl, rfl⟩))
    (fun os started H enc _ => lifted os started H enc)

theorem proved : Rows.BlockPacksSaid := over
#print axioms proved
end Go.Proofs.Ytcnafcoifhdigaa.blockPacks
