/- Proved: for every two blocks the statement BlockUnlike answers true (the document's P6.4: unlike blocks have unlike bytes, and none is taken for another one), with no condition but the reach. -/
import Derived.Test.YtcnafcoifhdigaaGF
import Derived.Test.YtcnafcoifhdigaaFk
import Derived.ShutString
import Derived.ChangeOld
namespace Go.Proofs.Ytcnafcoifhdigaa.blockUnlike
open Go.ChangeShapes Go.WideShapes Go.ChangeAt Go.RowKit
set_option linter.unusedVariables false

set_option linter.unusedSimpArgs false
set_option maxRecDepth 100000 in
set_option maxHeartbeats 4000000 in
theorem unlike_ll (k s h : Nat) (A : Option Addr) (L ca : Nat) (d : Nat → Int) (k' s' h' : Nat) (A' : Option Addr) (L' ca' : Nat) (d' : Nat → Int) (w : World) (hi : InBlk w k s h A L ca d) (hj : InBlk w k' s' h' A' L' ca' d') (h1 : 96 < L) (h2 : 96 < L') :
    Calls Try.prog 7 #[.agg #[.int .u64 (k : Int), .int .u32 (s : Int), .int .u8 (h : Int), .slice A L ca], .agg #[.int .u64 (k' : Int), .int .u32 (s' : Int), .int .u8 (h' : Int), .slice A' L' ca']] w fun e w' => e = .returned (.bool true) ∧ Bw w w' := by
  obtain ⟨W0, hW0⟩ : ∃ W0, W0 = (w.alloc (.cells #[.int .u64 (k : Int), .int .u32 (s : Int), .int .u8 (h : Int), .slice A L ca] 26)).alloc (.cells #[.int .u64 (k' : Int), .int .u32 (s' : Int), .int .u8 (h' : Int), .slice A' L' ca'] 26) := ⟨_, rfl⟩
  have hal : Bw w W0 := by rw [hW0]; exact bw_alloc (bw_alloc (Bw.refl _) _) _
  have hBa : BlkAt W0 w.heap.size (k : Int) (s : Int) (h : Int) A L ca := by rw [hW0]; exact heap_alloc2_old _ _ _
  have hBb : BlkAt W0 (w.heap.size + 1) (k' : Int) (s' : Int) (h' : Int) A' L' ca' := by rw [hW0]; exact heap_alloc2_new _ _ _
  have hra := hi.data.row.keep hal
  have hrb := hj.data.row.keep hal
  go_enter Try.func7, Try.ntmps7
  go_wp2_with (first | (go_at_call 9; rw [← hW0]; clear hW0; refine (pack_long _ _ _ A L ca _ h1).mono ?_; rintro e w1 ⟨rfl, hw1⟩) | refine wpList_load_blk (by rfl) _ rfl (w.heap.size + 1) rfl (hBb.keep hw1) ?_ | (go_at_call 9; refine (pack_long _ _ _ A' L' ca' _ h2).mono ?_; rintro e w2 ⟨rfl, hw2⟩) | (go_at_call 8; refine (wakes6_any _).mono ?_; rintro e w99 ⟨rfl, hw99⟩))
  go_ret
  exact ⟨rfl, hal.trans (hw1.trans (hw2.trans hw99))⟩

set_option maxRecDepth 100000 in
set_option maxHeartbeats 4000000 in
theorem unlike_ls (k s h : Nat) (A : Option Addr) (L ca : Nat) (d : Nat → Int) (k' s' h' : Nat) (A' : Option Addr) (L' ca' : Nat) (d' : Nat → Int) (w : World) (hi : InBlk w k s h A L ca d) (hj : InBlk w k' s' h' A' L' ca' d') (h1 : 96 < L) (h2 : L' ≤ 96) :
    Calls Try.prog 7 #[.agg #[.int .u64 (k : Int), .int .u32 (s : Int), .int .u8 (h : Int), .slice A L ca], .agg #[.int .u64 (k' : Int), .int .u32 (s' : Int), .int .u8 (h' : Int), .slice A' L' ca']] w fun e w' => e = .returned (.bool true) ∧ Bw w w' := by
  obtain ⟨W0, hW0⟩ : ∃ W0, W0 = (w.alloc (.cells #[.int .u64 (k : Int), .int .u32 (s : Int), .int .u8 (h : Int), .slice A L ca] 26)).alloc (.cells #[.int .u64 (k' : Int), .int .u32 (s' : Int), .int .u8 (h' : Int), .slice A' L' ca'] 26) := ⟨_, rfl⟩
  have hal : Bw w W0 := by rw [hW0]; exact bw_alloc (bw_alloc (Bw.refl _) _) _
  have hBa : BlkAt W0 w.heap.size (k : Int) (s : Int) (h : Int) A L ca := by rw [hW0]; exact heap_alloc2_old _ _ _
  have hBb : BlkAt W0 (w.heap.size + 1) (k' : Int) (s' : Int) (h' : Int) A' L' ca' := by rw [hW0]; exact heap_alloc2_new _ _ _
  have hra := hi.data.row.keep hal
  have hrb := hj.data.row.keep hal
  go_enter Try.func7, Try.ntmps7
  go_wp2_with (first | (go_at_call 9; rw [← hW0]; clear hW0; refine (pack_long _ _ _ A L ca _ h1).mono ?_; rintro e w1 ⟨rfl, hw1⟩) | refine wpList_load_blk (by rfl) _ rfl (w.heap.size + 1) rfl (hBb.keep hw1) ?_ | (go_at_call 9; refine (pack_ok k' s' h' hj.key hj.stripe hj.shard A' L' ca' d' _ (hrb.keep hw1) h2).mono ?_; rintro e w2 ⟨g2, c2, rfl, hown2, hg2, hcap2, hcm2, hw2⟩; have hb2 := hw1.trans hw2; obtain ⟨ka0, ka1, ka2, ka3⟩ := BlkAt.cells (hBa.keep hb2); obtain ⟨kb0, kb1, kb2, kb3⟩ := BlkAt.cells (hBb.keep hb2)) | (go_at_call 8; refine (wakes6_any _).mono ?_; rintro e w99 ⟨rfl, hw99⟩))
  go_ret
  exact ⟨rfl, hal.trans (hw1.trans (hw2.trans hw99))⟩

set_option maxRecDepth 100000 in
set_option maxHeartbeats 4000000 in
theorem unlike_sl (k s h : Nat) (A : Option Addr) (L ca : Nat) (d : Nat → Int) (k' s' h' : Nat) (A' : Option Addr) (L' ca' : Nat) (d' : Nat → Int) (w : World) (hi : InBlk w k s h A L ca d) (hj : InBlk w k' s' h' A' L' ca' d') (h1 : L ≤ 96) (h2 : 96 < L') :
    Calls Try.prog 7 #[.agg #[.int .u64 (k : Int), .int .u32 (s : Int), .int .u8 (h : Int), .slice A L ca], .agg #[.int .u64 (k' : Int), .int .u32 (s' : Int), .int .u8 (h' : Int), .slice A' L' ca']] w fun e w' => e = .returned (.bool true) ∧ Bw w w' := by
  obtain ⟨W0, hW0⟩ : ∃ W0, W0 = (w.alloc (.cells #[.int .u64 (k : Int), .int .u32 (s : Int), .int .u8 (h : Int), .slice A L ca] 26)).alloc (.cells #[.int .u64 (k' : Int), .int .u32 (s' : Int), .int .u8 (h' : Int), .slice A' L' ca'] 26) := ⟨_, rfl⟩
  have hal : Bw w W0 := by rw [hW0]; exact bw_alloc (bw_alloc (Bw.refl _) _) _
  have hBa : BlkAt W0 w.heap.size (k : Int) (s : Int) (h : Int) A L ca := by rw [hW0]; exact heap_alloc2_old _ _ _
  have hBb : BlkAt W0 (w.heap.size + 1) (k' : Int) (s' : Int) (h' : Int) A' L' ca' := by rw [hW0]; exact heap_alloc2_new _ _ _
  have hra := hi.data.row.keep hal
  have hrb := hj.data.row.keep hal
  obtain ⟨F, hF⟩ : ∃ F, Hid (F = sealF (Blk.body k s h L d) 124) := ⟨_, rfl⟩
  go_enter Try.func7, Try.ntmps7
  go_wp2_with (first | (go_at_call 9; rw [← hW0]; clear hW0; refine (pack_ok k s h hi.key hi.stripe hi.shard A L ca d _ hra h1).mono ?_; rintro e w1 ⟨g1, c1, rfl, hown1, hg1, hcap1, hcm1, hw1⟩; rw [← hF.out] at hown1) | refine wpList_load_blk (by rfl) _ rfl (w.heap.size + 1) rfl (hBb.keep hw1) ?_ | (go_at_call 9; refine (pack_long _ _ _ A' L' ca' _ h2).mono ?_; rintro e w2 ⟨rfl, hw2⟩) | (go_at_call 8; refine (wakes6_any _).mono ?_; rintro e w99 ⟨rfl, hw99⟩))
  go_ret
  exact ⟨rfl, hal.trans (hw1.trans (hw2.trans hw99))⟩

set_option maxRecDepth 100000 in
set_option maxHeartbeats 4000000 in
theorem unlike_k (k s h : Nat) (A : Option Addr) (L ca : Nat) (d : Nat → Int) (k' s' h' : Nat) (A' : Option Addr) (L' ca' : Nat) (d' : Nat → Int) (w : World) (hi : InBlk w k s h A L ca d) (hj : InBlk w k' s' h' A' L' ca' d') (h1 : L ≤ 96) (h2 : L' ≤ 96) (hk : ¬ k = k') :
    Calls Try.prog 7 #[.agg #[.int .u64 (k : Int), .int .u32 (s : Int), .int .u8 (h : Int), .slice A L ca], .agg #[.int .u64 (k' : Int), .int .u32 (s' : Int), .int .u8 (h' : Int), .slice A' L' ca']] w fun e w' => e = .returned (.bool true) ∧ Bw w w' := by
  obtain ⟨W0, hW0⟩ : ∃ W0, W0 = (w.alloc (.cells #[.int .u64 (k : Int), .int .u32 (s : Int), .int .u8 (h : Int), .slice A L ca] 26)).alloc (.cells #[.int .u64 (k' : Int), .int .u32 (s' : Int), .int .u8 (h' : Int), .slice A' L' ca'] 26) := ⟨_, rfl⟩
  have hal : Bw w W0 := by rw [hW0]; exact bw_alloc (bw_alloc (Bw.refl _) _) _
  have hBa : BlkAt W0 w.heap.size (k : Int) (s : Int) (h : Int) A L ca := by rw [hW0]; exact heap_alloc2_old _ _ _
  have hBb : BlkAt W0 (w.heap.size + 1) (k' : Int) (s' : Int) (h' : Int) A' L' ca' := by rw [hW0]; exact heap_alloc2_new _ _ _
  have hra := hi.data.row.keep hal
  have hrb := hj.data.row.keep hal
  obtain ⟨F, hF⟩ : ∃ F, Hid (F = sealF (Blk.body k s h L d) 124) := ⟨_, rfl⟩
  obtain ⟨G, hG⟩ : ∃ G, Hid (G = sealF (Blk.body k' s' h' L' d') 124) := ⟨_, rfl⟩
  have hFb : ∀ i, 0 ≤ F i ∧ F i < 256 := by rw [hF.out]; exact sealF_bd (Blk.body_bd hi.shard (by omega) hi.data.row.2) 124
  have hGb : ∀ i, 0 ≤ G i ∧ G i < 256 := by rw [hG.out]; exact sealF_bd (Blk.body_bd hj.shard (by omega) hj.data.row.2) 124
  obtain ⟨X, hX⟩ : ∃ X, Hid (X = str F 128) := ⟨_, rfl⟩
  obtain ⟨Y, hY⟩ : ∃ Y, Hid (Y = str G 128) := ⟨_, rfl⟩
  have hXY : Hid (X.toList = Y.toList ↔ SameB k s h k' s' h' L L' d d') := by
    show _ ↔ _
    rw [hX.out, hY.out, str_inj hFb hGb, ← pack_same hi.key hi.stripe h1 hj.key hj.stripe h2, ← hF.out, ← hG.out]
    exact ⟨fun e => e.2, fun e => ⟨rfl, e⟩⟩
  have hgd : Hid (Blk.Good 128 F ∧ Blk.keyOf F = k ∧ Blk.stripeOf F = s ∧ Blk.shardOf F = h) := by
    show _ ∧ _; rw [hF.out]; have q := pack_good (h := h) (d := d) hi.key hi.stripe h1; exact ⟨q.1, q.2.1, q.2.2.1, q.2.2.2.1⟩
  have t1 := eq_false_of hk
  have hone : Hid (∀ x : Bool, (x = true ↔ IsOf 128 F k' s' h') → x = false) := fun x hx => by cases x; rfl; exact absurd (hx.1 rfl) (fun q => hk (hgd.out.2.1.symm.trans q.2.1))
  clear hgd
  go_enter Try.func7, Try.ntmps7
  go_wp2_with (first | (go_at_call 9; rw [← hW0]; clear hW0; refine (pack_ok k s h hi.key hi.stripe hi.shard A L ca d _ hra h1).mono ?_; rintro e w1 ⟨g1, c1, rfl, hown1, hg1, hcap1, hcm1, hw1⟩; rw [← hF.out] at hown1) | refine wpList_load_blk (by rfl) _ rfl (w.heap.size + 1) rfl (hBb.keep hw1) ?_ | (go_at_call 9; refine (pack_ok k' s' h' hj.key hj.stripe hj.shard A' L' ca' d' _ (hrb.keep hw1) h2).mono ?_; rintro e w2 ⟨g2, c2, rfl, hown2, hg2, hcap2, hcm2, hw2⟩; rw [← hG.out] at hown2; have hb2 := hw1.trans hw2; obtain ⟨ka0, ka1, ka2, ka3⟩ := BlkAt.cells (hBa.keep hb2); obtain ⟨kb0, kb1, kb2, kb3⟩ := BlkAt.cells (hBb.keep hb2)))
  have hBa2 := hBa.keep hb2
  have hBb2 := hBb.keep hb2
  have hra2 := hra.keep hb2
  have hrb2 := hrb.keep hb2
  have hrx := (hown1.keep hw2).row hFb
  have hry := hown2.row hGb
  clear ka0 ka1 ka2 ka3 kb0 kb1 kb2 kb3 hown1 hown2 hBa hBb hra hrb
  refine wp_region_held_drew (S := fun w' => Bw w2 w') (by kernel_rfl) ((Below.refl _ _).drew) (fun hHeld => ?_)
  have hdrew : Bw w2 w2.drew := (Bw.refl _).drew
  refine wpAnyH_take (i := 0) (oi := { dst := some 46, op := Op.move (Operand.tmp 5), type := 24, pos := "outright.go:62", after := #[], guard := none }) (v := ?_) rfl (by kernel_rfl) (by kernel_rfl) (by kernel_rfl) (fun _ _ _ h => h) (Or.inl ⟨by rfl, ?_⟩) (by assumption) ?_
  rotate_left
  · intro w hSw; (try dsimp only at hSw); go_simp; all_goals (with_reducible rfl)
  try simp only [Act.put, List.setIfInBounds_toArray, List.set_cons_zero, List.set_cons_succ]
  refine wpAnyH_take (i := 1) (oi := { dst := some 47, op := Op.convert 24 9 (Operand.tmp 46), type := 9, pos := "outright.go:62", after := #[{ on := 0, ground := Ground.data }], guard := none }) (v := ?_) rfl (by kernel_rfl) (by kernel_rfl) (by kernel_rfl) (fun _ _ _ h => h) (Or.inl ⟨by rfl, ?_⟩) (by assumption) ?_
  rotate_left
  · intro w hSw; (try dsimp only at hSw); have cv := conv_row (C := c1) (hrx.keep hSw); rw [← hX.out] at cv; go_simp; all_goals (with_reducible rfl)
  try simp only [Act.put, List.setIfInBounds_toArray, List.set_cons_zero, List.set_cons_succ]
  refine wpAnyH_take (i := 2) (oi := { dst := some 48, op := Op.move (Operand.tmp 7), type := 24, pos := "outright.go:62", after := #[], guard := none }) (v := ?_) rfl (by kernel_rfl) (by kernel_rfl) (by kernel_rfl) (fun _ _ _ h => h) (Or.inl ⟨by rfl, ?_⟩) (by assumption) ?_
  rotate_left
  · intro w hSw; (try dsimp only at hSw); go_simp; all_goals (with_reducible rfl)
  try simp only [Act.put, List.setIfInBounds_toArray, List.set_cons_zero, List.set_cons_succ]
  refine wpAnyH_take (i := 3) (oi := { dst := some 49, op := Op.convert 24 9 (Operand.tmp 48), type := 9, pos := "outright.go:62", after := #[{ on := 2, ground := Ground.data }], guard := none }) (v := ?_) rfl (by kernel_rfl) (by kernel_rfl) (by kernel_rfl) (fun _ _ _ h => h) (Or.inl ⟨by rfl, ?_⟩) (by assumption) ?_
  rotate_left
  · intro w hSw; (try dsimp only at hSw); have cv := conv_row (C := c2) (hry.keep hSw); rw [← hY.out] at cv; go_simp; all_goals (with_reducible rfl)
  try simp only [Act.put, List.setIfInBounds_toArray, List.set_cons_zero, List.set_cons_succ]
  refine wpAnyH_take (i := 4) (oi := { dst := some 50, op := Op.binOp BinOp.eql 9 (Operand.tmp 47) (Operand.tmp 49) 9, type := 4, pos := "outright.go:62", after := #[{ on := 1, ground := Ground.data }, { on := 3, ground := Ground.data }], guard := none }) (v := ?_) rfl (by kernel_rfl) (by kernel_rfl) (by kernel_rfl) (fun _ _ _ h => h) (Or.inl ⟨by rfl, ?_⟩) (by assumption) ?_
  rotate_left
  · intro w hSw; (try dsimp only at hSw); go_simp; all_goals (with_reducible rfl)
  try simp only [Act.put, List.setIfInBounds_toArray, List.set_cons_zero, List.set_cons_succ]
  refine wpAnyH_take (i := 5) (oi := { dst := some 51, op := Op.load 26 (Operand.tmp 2), type := 26, pos := "outright.go:62", after := #[], guard := none }) (v := _) rfl (by kernel_rfl) (by kernel_rfl) (by kernel_rfl) (fun _ _ _ h => h) (yieldsIf_load_blk (by rfl) _ rfl w.heap.size rfl (fun w' h' => hBa2.keep h')) (by assumption) ?_
  try simp only [Act.put, List.setIfInBounds_toArray, List.set_cons_zero, List.set_cons_succ]
  refine wpAnyH_take (i := 6) (oi := { dst := some 52, op := Op.load 26 (Operand.tmp 3), type := 26, pos := "outright.go:62", after := #[], guard := none }) (v := _) rfl (by kernel_rfl) (by kernel_rfl) (by kernel_rfl) (fun _ _ _ h => h) (yieldsIf_load_blk (by rfl) _ rfl (w.heap.size + 1) rfl (fun w' h' => hBb2.keep h')) (by assumption) ?_
  try simp only [Act.put, List.setIfInBounds_toArray, List.set_cons_zero, List.set_cons_succ]
  refine wpAnyH_ready (rs := [7]) (by kernel_rfl) (by simp) ?_
  refine AllReadyH.cons (o := { dst := some 53, op := Op.call { callee := Callee.value (Operand.func 15), args := #[Operand.tmp 51, Operand.tmp 52], argTypes := #[26, 26] }, type := 4, pos := "outright.go:62", after := #[{ on := 5, ground := Ground.data }, { on := 6, ground := Ground.data }], guard := none }) rfl (fun K hK => ?_) AllReadyH.nil
  go_simp
  refine (same_any k s h k' s' h' A A' L L' ca ca' d d' _ (hra2.keep hdrew) (hrb2.keep hdrew)).mono ?_
  rintro e w3 ⟨⟨x, rfl, hx⟩, hw3⟩
  obtain rfl : x = (X.toList == Y.toList) := by rw [Bool.eq_iff_iff, hx, beq_iff_eq]; exact hXY.out.symm
  clear hx
  have hb3 := Bw.trans hdrew hw3
  refine hK.out _ _ hb3 (fun hHeld => ?_)
  clear hK K
  try simp only [Act.put, List.setIfInBounds_toArray, List.set_cons_zero, List.set_cons_succ]
  refine wpAnyH_take (i := 8) (oi := { dst := some 54, op := Op.binOp BinOp.eql 4 (Operand.tmp 50) (Operand.tmp 53) 4, type := 4, pos := "outright.go:62", after := #[{ on := 4, ground := Ground.data }, { on := 7, ground := Ground.data }], guard := none }) (v := ?_) rfl (by kernel_rfl) (by kernel_rfl) (by kernel_rfl) (fun _ _ _ h => h) (Or.inl ⟨by rfl, ?_⟩) (by assumption) ?_
  rotate_left
  · intro w hSw; (try dsimp only at hSw); have hbb := eql_bool6 w (X.toList == Y.toList) (X.toList == Y.toList); rw [beq_self_eq_true] at hbb; go_simp; all_goals (with_reducible rfl)
  try simp only [Act.put, List.setIfInBounds_toArray, List.set_cons_zero, List.set_cons_succ]
  refine wpAnyH_take (i := 9) (oi := { dst := some 55, op := Op.move (Operand.tmp 54), type := 4, pos := "outright.go:62", after := #[{ on := 8, ground := Ground.data }, { on := 7, ground := Ground.chain }], guard := none }) (v := ?_) rfl (by kernel_rfl) (by kernel_rfl) (by kernel_rfl) (fun _ _ _ h => h) (Or.inl ⟨by rfl, ?_⟩) (by assumption) ?_
  rotate_left
  · intro w hSw; (try dsimp only at hSw); go_simp; all_goals (with_reducible rfl)
  try simp only [Act.put, List.setIfInBounds_toArray, List.set_cons_zero, List.set_cons_succ]
  refine wpAnyH_take (i := 10) (oi := { dst := some 56, op := Op.move (Operand.tmp 5), type := 24, pos := "outright.go:62", after := #[{ on := 9, ground := Ground.guard }], guard := some (9, true) }) (v := ?_) rfl (by kernel_rfl) (by kernel_rfl) (by kernel_rfl) (fun _ _ _ h => h) (Or.inl ⟨by rfl, ?_⟩) (by assumption) ?_
  rotate_left
  · intro w hSw; (try dsimp only at hSw); go_simp; all_goals (with_reducible rfl)
  try simp only [Act.put, List.setIfInBounds_toArray, List.set_cons_zero, List.set_cons_succ]
  refine wpAnyH_take (i := 11) (oi := { dst := some 57, op := Op.fieldAddr 26 (Operand.tmp 3) 0, type := 0, pos := "outright.go:62", after := #[{ on := 9, ground := Ground.guard }], guard := some (9, true) }) (v := ?_) rfl (by kernel_rfl) (by kernel_rfl) (by kernel_rfl) (fun _ _ _ h => h) (Or.inl ⟨by rfl, ?_⟩) (by assumption) ?_
  rotate_left
  · intro w hSw; (try dsimp only at hSw); go_simp; all_goals (with_reducible rfl)
  try simp only [Act.put, List.setIfInBounds_toArray, List.set_cons_zero, List.set_cons_succ]
  refine wpAnyH_take (i := 12) (oi := { dst := some 58, op := Op.load 22 (Operand.tmp 57), type := 22, pos := "outright.go:62", after := #[{ on := 11, ground := Ground.data }, { on := 9, ground := Ground.guard }], guard := some (9, true) }) (v := ?_) rfl (by kernel_rfl) (by kernel_rfl) (by kernel_rfl) (fun _ _ _ h => h) (Or.inl ⟨by rfl, ?_⟩) (by assumption) ?_
  rotate_left
  · intro w hSw; (try dsimp only at hSw); have cq := (BlkAt.cells (hBb2.keep hSw)).1; go_simp; all_goals (with_reducible rfl)
  try simp only [Act.put, List.setIfInBounds_toArray, List.set_cons_zero, List.set_cons_succ]
  refine wpAnyH_take (i := 13) (oi := { dst := some 59, op := Op.fieldAddr 26 (Operand.tmp 3) 1, type := 0, pos := "outright.go:62", after := #[{ on := 9, ground := Ground.guard }], guard := some (9, true) }) (v := ?_) rfl (by kernel_rfl) (by kernel_rfl) (by kernel_rfl) (fun _ _ _ h => h) (Or.inl ⟨by rfl, ?_⟩) (by assumption) ?_
  rotate_left
  · intro w hSw; (try dsimp only at hSw); go_simp; all_goals (with_reducible rfl)
  try simp only [Act.put, List.setIfInBounds_toArray, List.set_cons_zero, List.set_cons_succ]
  refine wpAnyH_take (i := 14) (oi := { dst := some 60, op := Op.load 23 (Operand.tmp 59), type := 23, pos := "outright.go:62", after := #[{ on := 13, ground := Ground.data }, { on := 9, ground := Ground.guard }], guard := some (9, true) }) (v := ?_) rfl (by kernel_rfl) (by kernel_rfl) (by kernel_rfl) (fun _ _ _ h => h) (Or.inl ⟨by rfl, ?_⟩) (by assumption) ?_
  rotate_left
  · intro w hSw; (try dsimp only at hSw); have cq := (BlkAt.cells (hBb2.keep hSw)).2.1; go_simp; all_goals (with_reducible rfl)
  try simp only [Act.put, List.setIfInBounds_toArray, List.set_cons_zero, List.set_cons_succ]
  refine wpAnyH_take (i := 15) (oi := { dst := some 61, op := Op.fieldAddr 26 (Operand.tmp 3) 2, type := 0, pos := "outright.go:62", after := #[{ on := 9, ground := Ground.guard }], guard := some (9, true) }) (v := ?_) rfl (by kernel_rfl) (by kernel_rfl) (by kernel_rfl) (fun _ _ _ h => h) (Or.inl ⟨by rfl, ?_⟩) (by assumption) ?_
  rotate_left
  · intro w hSw; (try dsimp only at hSw); go_simp; all_goals (with_reducible rfl)
  try simp only [Act.put, List.setIfInBounds_toArray, List.set_cons_zero, List.set_cons_succ]
  refine wpAnyH_take (i := 16) (oi := { dst := some 62, op := Op.load 5 (Operand.tmp 61), type := 5, pos := "outright.go:62", after := #[{ on := 15, ground := Ground.data }, { on := 9, ground := Ground.guard }], guard := some (9, true) }) (v := ?_) rfl (by kernel_rfl) (by kernel_rfl) (by kernel_rfl) (fun _ _ _ h => h) (Or.inl ⟨by rfl, ?_⟩) (by assumption) ?_
  rotate_left
  · intro w hSw; (try dsimp only at hSw); have cq := (BlkAt.cells (hBb2.keep hSw)).2.2.1; go_simp; all_goals (with_reducible rfl)
  try simp only [Act.put, List.setIfInBounds_toArray, List.set_cons_zero, List.set_cons_succ]
  refine wpAnyH_take (i := 18) (oi := { dst := some 64, op := Op.move (Operand.tmp 9), type := 4, pos := "outright.go:62", after := #[{ on := 9, ground := Ground.guard }], guard := some (9, true) }) (v := ?_) rfl (by kernel_rfl) (by kernel_rfl) (by kernel_rfl) (fun _ _ _ h => h) (Or.inl ⟨by rfl, ?_⟩) (by assumption) ?_
  rotate_left
  · intro w hSw; (try dsimp only at hSw); go_simp; all_goals (with_reducible rfl)
  try simp only [Act.put, List.setIfInBounds_toArray, List.set_cons_zero, List.set_cons_succ]
  refine wpAnyH_ready (rs := [17]) (by kernel_rfl) (by simp) ?_
  refine AllReadyH.cons (o := { dst := some 63, op := Op.call { callee := Callee.value (Operand.func 13), args := #[Operand.tmp 56, Operand.tmp 58, Operand.tmp 60, Operand.tmp 62], argTypes := #[24, 22, 23, 5] }, type := 4, pos := "outright.go:62", after := #[{ on := 10, ground := Ground.data }, { on := 12, ground := Ground.data }, { on := 14, ground := Ground.data }, { on := 16, ground := Ground.data }, { on := 9, ground := Ground.chain }, { on := 9, ground := Ground.guard }], guard := some (9, true) }) rfl (fun K hK => ?_) AllReadyH.nil
  go_simp
  refine (is_any _ 128 c1 F k' s' h' _ (hrx.keep hb3) hcap1).mono ?_
  rintro e w4 ⟨⟨x, rfl, hx⟩, hw4⟩
  obtain rfl : x = false := hone.out x hx
  clear hx
  have hb4 := Bw.trans hb3 hw4
  refine hK.out _ _ hb4 (fun hHeld => ?_)
  clear hK K
  try simp only [Act.put, List.setIfInBounds_toArray, List.set_cons_zero, List.set_cons_succ]
  refine wpAnyH_take (i := 19) (oi := { dst := some 65, op := Op.binOp BinOp.eql 4 (Operand.tmp 63) (Operand.tmp 64) 4, type := 4, pos := "outright.go:62", after := #[{ on := 17, ground := Ground.data }, { on := 18, ground := Ground.data }, { on := 9, ground := Ground.guard }], guard := some (9, true) }) (v := ?_) rfl (by kernel_rfl) (by kernel_rfl) (by kernel_rfl) (fun _ _ _ h => h) (Or.inl ⟨by rfl, ?_⟩) (by assumption) ?_
  rotate_left
  · intro w hSw; (try dsimp only at hSw); have hbb := eql_bool6 w false false; go_simp; all_goals (with_reducible rfl)
  try simp only [Act.put, List.setIfInBounds_toArray, List.set_cons_zero, List.set_cons_succ]
  refine wpAnyH_take (i := 20) (oi := { dst := some 66, op := Op.pick (Operand.tmp 55) (Operand.tmp 65) (Operand.const (Value.bool false)), type := 4, pos := "outright.go:62", after := #[{ on := 9, ground := Ground.data }, { on := 19, ground := Ground.data }], guard := none }) (v := ?_) rfl (by kernel_rfl) (by kernel_rfl) (by kernel_rfl) (fun _ _ _ h => h) (Or.inl ⟨by rfl, ?_⟩) (by assumption) ?_
  rotate_left
  · intro w hSw; (try dsimp only at hSw); go_simp; all_goals (with_reducible rfl)
  try simp only [Act.put, List.setIfInBounds_toArray, List.set_cons_zero, List.set_cons_succ]
  refine wpAnyH_take (i := 21) (oi := { dst := some 67, op := Op.move (Operand.tmp 66), type := 4, pos := "outright.go:62", after := #[{ on := 20, ground := Ground.data }, { on := 17, ground := Ground.chain }], guard := none }) (v := ?_) rfl (by kernel_rfl) (by kernel_rfl) (by kernel_rfl) (fun _ _ _ h => h) (Or.inl ⟨by rfl, ?_⟩) (by assumption) ?_
  rotate_left
  · intro w hSw; (try dsimp only at hSw); go_simp; all_goals (with_reducible rfl)
  try simp only [Act.put, List.setIfInBounds_toArray, List.set_cons_zero, List.set_cons_succ]
  refine wpAnyH_ready (rs := [22]) (by kernel_rfl) (by simp) ?_
  refine AllReadyH.cons (o := { dst := some 68, op := Op.call { callee := Callee.value (Operand.func 8), args := #[], argTypes := #[] }, type := 4, pos := "outright.go:62", after := #[{ on := 21, ground := Ground.chain }, { on := 21, ground := Ground.guard }], guard := some (21, true) }) rfl (fun K hK => ?_) AllReadyH.nil
  go_simp
  refine (wakes6_any _).mono ?_
  rintro e w5 ⟨rfl, hw5⟩
  have hb5 := Bw.trans hb4 hw5
  refine hK.out _ _ hb5 (fun hHeld => ?_)
  clear hK K
  try simp only [Act.put, List.setIfInBounds_toArray, List.set_cons_zero, List.set_cons_succ]
  refine wpAnyH_take (i := 23) (oi := { dst := some 69, op := Op.pick (Operand.tmp 67) (Operand.tmp 68) (Operand.const (Value.bool false)), type := 4, pos := "outright.go:62", after := #[{ on := 21, ground := Ground.data }, { on := 22, ground := Ground.data }], guard := none }) (v := ?_) rfl (by kernel_rfl) (by kernel_rfl) (by kernel_rfl) (fun _ _ _ h => h) (Or.inl ⟨by rfl, ?_⟩) (by assumption) ?_
  rotate_left
  · intro w hSw; (try dsimp only at hSw); go_simp; all_goals (with_reducible rfl)
  try simp only [Act.put, List.setIfInBounds_toArray, List.set_cons_zero, List.set_cons_succ]
  refine wpAnyH_take (i := 24) (oi := { dst := some 4, op := Op.assign (Operand.tmp 69), type := 4, pos := "outright.go:62", after := #[{ on := 23, ground := Ground.data }, { on := 22, ground := Ground.chain }, { on := 0, ground := Ground.phase }, { on := 1, ground := Ground.phase }, { on := 2, ground := Ground.phase }, { on := 3, ground := Ground.phase }, { on := 4, ground := Ground.phase }, { on := 5, ground := Ground.phase }, { on := 6, ground := Ground.phase }, { on := 7, ground := Ground.phase }, { on := 8, ground := Ground.phase }, { on := 9, ground := Ground.phase }, { on := 10, ground := Ground.phase }, { on := 11, ground := Ground.phase }, { on := 12, ground := Ground.phase }, { on := 13, ground := Ground.phase }, { on := 14, ground := Ground.phase }, { on := 15, ground := Ground.phase }, { on := 16, ground := Ground.phase }, { on := 17, ground := Ground.phase }, { on := 18, ground := Ground.phase }, { on := 19, ground := Ground.phase }, { on := 20, ground := Ground.phase }, { on := 21, ground := Ground.phase }, { on := 22, ground := Ground.phase }, { on := 23, ground := Ground.phase }], guard := none }) (v := ?_) rfl (by kernel_rfl) (by kernel_rfl) (by kernel_rfl) (fun _ _ _ h => h) (Or.inl ⟨by rfl, ?_⟩) (by assumption) ?_
  rotate_left
  · intro w hSw; (try dsimp only at hSw); go_simp; all_goals (with_reducible rfl)
  try simp only [Act.put, List.setIfInBounds_toArray, List.set_cons_zero, List.set_cons_succ]
  refine wpAnyH_done (by kernel_rfl) ?_ _
  go_wp2
  go_ret
  exact ⟨rfl, hal.trans (hb2.trans hb5)⟩

set_option maxRecDepth 100000 in
set_option maxHeartbeats 4000000 in
theorem unlike_s (k s h : Nat) (A : Option Addr) (L ca : Nat) (d : Nat → Int) (k' s' h' : Nat) (A' : Option Addr) (L' ca' : Nat) (d' : Nat → Int) (w : World) (hi : InBlk w k s h A L ca d) (hj : InBlk w k' s' h' A' L' ca' d') (h1 : L ≤ 96) (h2 : L' ≤ 96) (hk : k = k') (hs : ¬ s = s') :
    Calls Try.prog 7 #[.agg #[.int .u64 (k : Int), .int .u32 (s : Int), .int .u8 (h : Int), .slice A L ca], .agg #[.int .u64 (k' : Int), .int .u32 (s' : Int), .int .u8 (h' : Int), .slice A' L' ca']] w fun e w' => e = .returned (.bool true) ∧ Bw w w' := by
  obtain ⟨W0, hW0⟩ : ∃ W0, W0 = (w.alloc (.cells #[.int .u64 (k : Int), .int .u32 (s : Int), .int .u8 (h : Int), .slice A L ca] 26)).alloc (.cells #[.int .u64 (k' : Int), .int .u32 (s' : Int), .int .u8 (h' : Int), .slice A' L' ca'] 26) := ⟨_, rfl⟩
  have hal : Bw w W0 := by rw [hW0]; exact bw_alloc (bw_alloc (Bw.refl _) _) _
  have hBa : BlkAt W0 w.heap.size (k : Int) (s : Int) (h : Int) A L ca := by rw [hW0]; exact heap_alloc2_old _ _ _
  have hBb : BlkAt W0 (w.heap.size + 1) (k' : Int) (s' : Int) (h' : Int) A' L' ca' := by rw [hW0]; exact heap_alloc2_new _ _ _
  have hra := hi.data.row.keep hal
  have hrb := hj.data.row.keep hal
  obtain ⟨F, hF⟩ : ∃ F, Hid (F = sealF (Blk.body k s h L d) 124) := ⟨_, rfl⟩
  obtain ⟨G, hG⟩ : ∃ G, Hid (G = sealF (Blk.body k' s' h' L' d') 124) := ⟨_, rfl⟩
  have hFb : ∀ i, 0 ≤ F i ∧ F i < 256 := by rw [hF.out]; exact sealF_bd (Blk.body_bd hi.shard (by omega) hi.data.row.2) 124
  have hGb : ∀ i, 0 ≤ G i ∧ G i < 256 := by rw [hG.out]; exact sealF_bd (Blk.body_bd hj.shard (by omega) hj.data.row.2) 124
  obtain ⟨X, hX⟩ : ∃ X, Hid (X = str F 128) := ⟨_, rfl⟩
  obtain ⟨Y, hY⟩ : ∃ Y, Hid (Y = str G 128) := ⟨_, rfl⟩
  have hXY : Hid (X.toList = Y.toList ↔ SameB k s h k' s' h' L L' d d') := by
    show _ ↔ _
    rw [hX.out, hY.out, str_inj hFb hGb, ← pack_same hi.key hi.stripe h1 hj.key hj.stripe h2, ← hF.out, ← hG.out]
    exact ⟨fun e => e.2, fun e => ⟨rfl, e⟩⟩
  have hgd : Hid (Blk.Good 128 F ∧ Blk.keyOf F = k ∧ Blk.stripeOf F = s ∧ Blk.shardOf F = h) := by
    show _ ∧ _; rw [hF.out]; have q := pack_good (h := h) (d := d) hi.key hi.stripe h1; exact ⟨q.1, q.2.1, q.2.2.1, q.2.2.2.1⟩
  have t1 := eq_true_of hk
  have hkH : Hid (k = k') := hk
  clear hk
  have t2 := eq_false_of hs
  have hone : Hid (∀ x : Bool, (x = true ↔ IsOf 128 F k' s' h') → x = false) := fun x hx => by cases x; rfl; exact absurd (hx.1 rfl) (fun q => hs (hgd.out.2.2.1.symm.trans q.2.2.1))
  clear hgd
  go_enter Try.func7, Try.ntmps7
  go_wp2_with (first | (go_at_call 9; rw [← hW0]; clear hW0; refine (pack_ok k s h hi.key hi.stripe hi.shard A L ca d _ hra h1).mono ?_; rintro e w1 ⟨g1, c1, rfl, hown1, hg1, hcap1, hcm1, hw1⟩; rw [← hF.out] at hown1) | refine wpList_load_blk (by rfl) _ rfl (w.heap.size + 1) rfl (hBb.keep hw1) ?_ | (go_at_call 9; refine (pack_ok k' s' h' hj.key hj.stripe hj.shard A' L' ca' d' _ (hrb.keep hw1) h2).mono ?_; rintro e w2 ⟨g2, c2, rfl, hown2, hg2, hcap2, hcm2, hw2⟩; rw [← hG.out] at hown2; have hb2 := hw1.trans hw2; obtain ⟨ka0, ka1, ka2, ka3⟩ := BlkAt.cells (hBa.keep hb2); obtain ⟨kb0, kb1, kb2, kb3⟩ := BlkAt.cells (hBb.keep hb2)))
  have hBa2 := hBa.keep hb2
  have hBb2 := hBb.keep hb2
  have hra2 := hra.keep hb2
  have hrb2 := hrb.keep hb2
  have hrx := (hown1.keep hw2).row hFb
  have hry := hown2.row hGb
  clear ka0 ka1 ka2 ka3 kb0 kb1 kb2 kb3 hown1 hown2 hBa hBb hra hrb
  refine wp_region_held_drew (S := fun w' => Bw w2 w') (by kernel_rfl) ((Below.refl _ _).drew) (fun hHeld => ?_)
  have hdrew : Bw w2 w2.drew := (Bw.refl _).drew
  refine wpAnyH_take (i := 0) (oi := { dst := some 46, op := Op.move (Operand.tmp 5), type := 24, pos := "outright.go:62", after := #[], guard := none }) (v := ?_) rfl (by kernel_rfl) (by kernel_rfl) (by kernel_rfl) (fun _ _ _ h => h) (Or.inl ⟨by rfl, ?_⟩) (by assumption) ?_
  rotate_left
  · intro w hSw; (try dsimp only at hSw); go_simp; all_goals (with_reducible rfl)
  try simp only [Act.put, List.setIfInBounds_toArray, List.set_cons_zero, List.set_cons_succ]
  refine wpAnyH_take (i := 1) (oi := { dst := some 47, op := Op.convert 24 9 (Operand.tmp 46), type := 9, pos := "outright.go:62", after := #[{ on := 0, ground := Ground.data }], guard := none }) (v := ?_) rfl (by kernel_rfl) (by kernel_rfl) (by kernel_rfl) (fun _ _ _ h => h) (Or.inl ⟨by rfl, ?_⟩) (by assumption) ?_
  rotate_left
  · intro w hSw; (try dsimp only at hSw); have cv := conv_row (C := c1) (hrx.keep hSw); rw [← hX.out] at cv; go_simp; all_goals (with_reducible rfl)
  try simp only [Act.put, List.setIfInBounds_toArray, List.set_cons_zero, List.set_cons_succ]
  refine wpAnyH_take (i := 2) (oi := { dst := some 48, op := Op.move (Operand.tmp 7), type := 24, pos := "outright.go:62", after := #[], guard := none }) (v := ?_) rfl (by kernel_rfl) (by kernel_rfl) (by kernel_rfl) (fun _ _ _ h => h) (Or.inl ⟨by rfl, ?_⟩) (by assumption) ?_
  rotate_left
  · intro w hSw; (try dsimp only at hSw); go_simp; all_goals (with_reducible rfl)
  try simp only [Act.put, List.setIfInBounds_toArray, List.set_cons_zero, List.set_cons_succ]
  refine wpAnyH_take (i := 3) (oi := { dst := some 49, op := Op.convert 24 9 (Operand.tmp 48), type := 9, pos := "outright.go:62", after := #[{ on := 2, ground := Ground.data }], guard := none }) (v := ?_) rfl (by kernel_rfl) (by kernel_rfl) (by kernel_rfl) (fun _ _ _ h => h) (Or.inl ⟨by rfl, ?_⟩) (by assumption) ?_
  rotate_left
  · intro w hSw; (try dsimp only at hSw); have cv := conv_row (C := c2) (hry.keep hSw); rw [← hY.out] at cv; go_simp; all_goals (with_reducible rfl)
  try simp only [Act.put, List.setIfInBounds_toArray, List.set_cons_zero, List.set_cons_succ]
  refine wpAnyH_take (i := 4) (oi := { dst := some 50, op := Op.binOp BinOp.eql 9 (Operand.tmp 47) (Operand.tmp 49) 9, type := 4, pos := "outright.go:62", after := #[{ on := 1, ground := Ground.data }, { on := 3, ground := Ground.data }], guard := none }) (v := ?_) rfl (by kernel_rfl) (by kernel_rfl) (by kernel_rfl) (fun _ _ _ h => h) (Or.inl ⟨by rfl, ?_⟩) (by assumption) ?_
  rotate_left
  · intro w hSw; (try dsimp only at hSw); go_simp; all_goals (with_reducible rfl)
  try simp only [Act.put, List.setIfInBounds_toArray, List.set_cons_zero, List.set_cons_succ]
  refine wpAnyH_take (i := 5) (oi := { dst := some 51, op := Op.load 26 (Operand.tmp 2), type := 26, pos := "outright.go:62", after := #[], guard := none }) (v := _) rfl (by kernel_rfl) (by kernel_rfl) (by kernel_rfl) (fun _ _ _ h => h) (yieldsIf_load_blk (by rfl) _ rfl w.heap.size rfl (fun w' h' => hBa2.keep h')) (by assumption) ?_
  try simp only [Act.put, List.setIfInBounds_toArray, List.set_cons_zero, List.set_cons_succ]
  refine wpAnyH_take (i := 6) (oi := { dst := some 52, op := Op.load 26 (Operand.tmp 3), type := 26, pos := "outright.go:62", after := #[], guard := none }) (v := _) rfl (by kernel_rfl) (by kernel_rfl) (by kernel_rfl) (fun _ _ _ h => h) (yieldsIf_load_blk (by rfl) _ rfl (w.heap.size + 1) rfl (fun w' h' => hBb2.keep h')) (by assumption) ?_
  try simp only [Act.put, List.setIfInBounds_toArray, List.set_cons_zero, List.set_cons_succ]
  refine wpAnyH_ready (rs := [7]) (by kernel_rfl) (by simp) ?_
  refine AllReadyH.cons (o := { dst := some 53, op := Op.call { callee := Callee.value (Operand.func 15), args := #[Operand.tmp 51, Operand.tmp 52], argTypes := #[26, 26] }, type := 4, pos := "outright.go:62", after := #[{ on := 5, ground := Ground.data }, { on := 6, ground := Ground.data }], guard := none }) rfl (fun K hK => ?_) AllReadyH.nil
  go_simp
  refine (same_any k s h k' s' h' A A' L L' ca ca' d d' _ (hra2.keep hdrew) (hrb2.keep hdrew)).mono ?_
  rintro e w3 ⟨⟨x, rfl, hx⟩, hw3⟩
  obtain rfl : x = (X.toList == Y.toList) := by rw [Bool.eq_iff_iff, hx, beq_iff_eq]; exact hXY.out.symm
  clear hx
  have hb3 := Bw.trans hdrew hw3
  refine hK.out _ _ hb3 (fun hHeld => ?_)
  clear hK K
  try simp only [Act.put, List.setIfInBounds_toArray, List.set_cons_zero, List.set_cons_succ]
  refine wpAnyH_take (i := 8) (oi := { dst := some 54, op := Op.binOp BinOp.eql 4 (Operand.tmp 50) (Operand.tmp 53) 4, type := 4, pos := "outright.go:62", after := #[{ on := 4, ground := Ground.data }, { on := 7, ground := Ground.data }], guard := none }) (v := ?_) rfl (by kernel_rfl) (by kernel_rfl) (by kernel_rfl) (fun _ _ _ h => h) (Or.inl ⟨by rfl, ?_⟩) (by assumption) ?_
  rotate_left
  · intro w hSw; (try dsimp only at hSw); have hbb := eql_bool6 w (X.toList == Y.toList) (X.toList == Y.toList); rw [beq_self_eq_true] at hbb; go_simp; all_goals (with_reducible rfl)
  try simp only [Act.put, List.setIfInBounds_toArray, List.set_cons_zero, List.set_cons_succ]
  refine wpAnyH_take (i := 9) (oi := { dst := some 55, op := Op.move (Operand.tmp 54), type := 4, pos := "outright.go:62", after := #[{ on := 8, ground := Ground.data }, { on := 7, ground := Ground.chain }], guard := none }) (v := ?_) rfl (by kernel_rfl) (by kernel_rfl) (by kernel_rfl) (fun _ _ _ h => h) (Or.inl ⟨by rfl, ?_⟩) (by assumption) ?_
  rotate_left
  · intro w hSw; (try dsimp only at hSw); go_simp; all_goals (with_reducible rfl)
  try simp only [Act.put, List.setIfInBounds_toArray, List.set_cons_zero, List.set_cons_succ]
  refine wpAnyH_take (i := 10) (oi := { dst := some 56, op := Op.move (Operand.tmp 5), type := 24, pos := "outright.go:62", after := #[{ on := 9, ground := Ground.guard }], guard := some (9, true) }) (v := ?_) rfl (by kernel_rfl) (by kernel_rfl) (by kernel_rfl) (fun _ _ _ h => h) (Or.inl ⟨by rfl, ?_⟩) (by assumption) ?_
  rotate_left
  · intro w hSw; (try dsimp only at hSw); go_simp; all_goals (with_reducible rfl)
  try simp only [Act.put, List.setIfInBounds_toArray, List.set_cons_zero, List.set_cons_succ]
  refine wpAnyH_take (i := 11) (oi := { dst := some 57, op := Op.fieldAddr 26 (Operand.tmp 3) 0, type := 0, pos := "outright.go:62", after := #[{ on := 9, ground := Ground.guard }], guard := some (9, true) }) (v := ?_) rfl (by kernel_rfl) (by kernel_rfl) (by kernel_rfl) (fun _ _ _ h => h) (Or.inl ⟨by rfl, ?_⟩) (by assumption) ?_
  rotate_left
  · intro w hSw; (try dsimp only at hSw); go_simp; all_goals (with_reducible rfl)
  try simp only [Act.put, List.setIfInBounds_toArray, List.set_cons_zero, List.set_cons_succ]
  refine wpAnyH_take (i := 12) (oi := { dst := some 58, op := Op.load 22 (Operand.tmp 57), type := 22, pos := "outright.go:62", after := #[{ on := 11, ground := Ground.data }, { on := 9, ground := Ground.guard }], guard := some (9, true) }) (v := ?_) rfl (by kernel_rfl) (by kernel_rfl) (by kernel_rfl) (fun _ _ _ h => h) (Or.inl ⟨by rfl, ?_⟩) (by assumption) ?_
  rotate_left
  · intro w hSw; (try dsimp only at hSw); have cq := (BlkAt.cells (hBb2.keep hSw)).1; go_simp; all_goals (with_reducible rfl)
  try simp only [Act.put, List.setIfInBounds_toArray, List.set_cons_zero, List.set_cons_succ]
  refine wpAnyH_take (i := 13) (oi := { dst := some 59, op := Op.fieldAddr 26 (Operand.tmp 3) 1, type := 0, pos := "outright.go:62", after := #[{ on := 9, ground := Ground.guard }], guard := some (9, true) }) (v := ?_) rfl (by kernel_rfl) (by kernel_rfl) (by kernel_rfl) (fun _ _ _ h => h) (Or.inl ⟨by rfl, ?_⟩) (by assumption) ?_
  rotate_left
  · intro w hSw; (try dsimp only at hSw); go_simp; all_goals (with_reducible rfl)
  try simp only [Act.put, List.setIfInBounds_toArray, List.set_cons_zero, List.set_cons_succ]
  refine wpAnyH_take (i := 14) (oi := { dst := some 60, op := Op.load 23 (Operand.tmp 59), type := 23, pos := "outright.go:62", after := #[{ on := 13, ground := Ground.data }, { on := 9, ground := Ground.guard }], guard := some (9, true) }) (v := ?_) rfl (by kernel_rfl) (by kernel_rfl) (by kernel_rfl) (fun _ _ _ h => h) (Or.inl ⟨by rfl, ?_⟩) (by assumption) ?_
  rotate_left
  · intro w hSw; (try dsimp only at hSw); have cq := (BlkAt.cells (hBb2.keep hSw)).2.1; go_simp; all_goals (with_reducible rfl)
  try simp only [Act.put, List.setIfInBounds_toArray, List.set_cons_zero, List.set_cons_succ]
  refine wpAnyH_take (i := 15) (oi := { dst := some 61, op := Op.fieldAddr 26 (Operand.tmp 3) 2, type := 0, pos := "outright.go:62", after := #[{ on := 9, ground := Ground.guard }], guard := some (9, true) }) (v := ?_) rfl (by kernel_rfl) (by kernel_rfl) (by kernel_rfl) (fun _ _ _ h => h) (Or.inl ⟨by rfl, ?_⟩) (by assumption) ?_
  rotate_left
  · intro w hSw; (try dsimp only at hSw); go_simp; all_goals (with_reducible rfl)
  try simp only [Act.put, List.setIfInBounds_toArray, List.set_cons_zero, List.set_cons_succ]
  refine wpAnyH_take (i := 16) (oi := { dst := some 62, op := Op.load 5 (Operand.tmp 61), type := 5, pos := "outright.go:62", after := #[{ on := 15, ground := Ground.data }, { on := 9, ground := Ground.guard }], guard := some (9, true) }) (v := ?_) rfl (by kernel_rfl) (by kernel_rfl) (by kernel_rfl) (fun _ _ _ h => h) (Or.inl ⟨by rfl, ?_⟩) (by assumption) ?_
  rotate_left
  · intro w hSw; (try dsimp only at hSw); have cq := (BlkAt.cells (hBb2.keep hSw)).2.2.1; go_simp; all_goals (with_reducible rfl)
  try simp only [Act.put, List.setIfInBounds_toArray, List.set_cons_zero, List.set_cons_succ]
  refine wpAnyH_take (i := 18) (oi := { dst := some 64, op := Op.move (Operand.tmp 9), type := 4, pos := "outright.go:62", after := #[{ on := 9, ground := Ground.guard }], guard := some (9, true) }) (v := ?_) rfl (by kernel_rfl) (by kernel_rfl) (by kernel_rfl) (fun _ _ _ h => h) (Or.inl ⟨by rfl, ?_⟩) (by assumption) ?_
  rotate_left
  · intro w hSw; (try dsimp only at hSw); go_simp; all_goals (with_reducible rfl)
  try simp only [Act.put, List.setIfInBounds_toArray, List.set_cons_zero, List.set_cons_succ]
  refine wpAnyH_ready (rs := [17]) (by kernel_rfl) (by simp) ?_
  refine AllReadyH.cons (o := { dst := some 63, op := Op.call { callee := Callee.value (Operand.func 13), args := #[Operand.tmp 56, Operand.tmp 58, Operand.tmp 60, Operand.tmp 62], argTypes := #[24, 22, 23, 5] }, type := 4, pos := "outright.go:62", after := #[{ on := 10, ground := Ground.data }, { on := 12, ground := Ground.data }, { on := 14, ground := Ground.data }, { on := 16, ground := Ground.data }, { on := 9, ground := Ground.chain }, { on := 9, ground := Ground.guard }], guard := some (9, true) }) rfl (fun K hK => ?_) AllReadyH.nil
  go_simp
  refine (is_any _ 128 c1 F k' s' h' _ (hrx.keep hb3) hcap1).mono ?_
  rintro e w4 ⟨⟨x, rfl, hx⟩, hw4⟩
  obtain rfl : x = false := hone.out x hx
  clear hx
  have hb4 := Bw.trans hb3 hw4
  refine hK.out _ _ hb4 (fun hHeld => ?_)
  clear hK K
  try simp only [Act.put, List.setIfInBounds_toArray, List.set_cons_zero, List.set_cons_succ]
  refine wpAnyH_take (i := 19) (oi := { dst := some 65, op := Op.binOp BinOp.eql 4 (Operand.tmp 63) (Operand.tmp 64) 4, type := 4, pos := "outright.go:62", after := #[{ on := 17, ground := Ground.data }, { on := 18, ground := Ground.data }, { on := 9, ground := Ground.guard }], guard := some (9, true) }) (v := ?_) rfl (by kernel_rfl) (by kernel_rfl) (by kernel_rfl) (fun _ _ _ h => h) (Or.inl ⟨by rfl, ?_⟩) (by assumption) ?_
  rotate_left
  · intro w hSw; (try dsimp only at hSw); have hbb := eql_bool6 w false false; go_simp; all_goals (with_reducible rfl)
  try simp only [Act.put, List.setIfInBounds_toArray, List.set_cons_zero, List.set_cons_succ]
  refine wpAnyH_take (i := 20) (oi := { dst := some 66, op := Op.pick (Operand.tmp 55) (Operand.tmp 65) (Operand.const (Value.bool false)), type := 4, pos := "outright.go:62", after := #[{ on := 9, ground := Ground.data }, { on := 19, ground := Ground.data }], guard := none }) (v := ?_) rfl (by kernel_rfl) (by kernel_rfl) (by kernel_rfl) (fun _ _ _ h => h) (Or.inl ⟨by rfl, ?_⟩) (by assumption) ?_
  rotate_left
  · intro w hSw; (try dsimp only at hSw); go_simp; all_goals (with_reducible rfl)
  try simp only [Act.put, List.setIfInBounds_toArray, List.set_cons_zero, List.set_cons_succ]
  refine wpAnyH_take (i := 21) (oi := { dst := some 67, op := Op.move (Operand.tmp 66), type := 4, pos := "outright.go:62", after := #[{ on := 20, ground := Ground.data }, { on := 17, ground := Ground.chain }], guard := none }) (v := ?_) rfl (by kernel_rfl) (by kernel_rfl) (by kernel_rfl) (fun _ _ _ h => h) (Or.inl ⟨by rfl, ?_⟩) (by assumption) ?_
  rotate_left
  · intro w hSw; (try dsimp only at hSw); go_simp; all_goals (with_reducible rfl)
  try simp only [Act.put, List.setIfInBounds_toArray, List.set_cons_zero, List.set_cons_succ]
  refine wpAnyH_ready (rs := [22]) (by kernel_rfl) (by simp) ?_
  refine AllReadyH.cons (o := { dst := some 68, op := Op.call { callee := Callee.value (Operand.func 8), args := #[], argTypes := #[] }, type := 4, pos := "outright.go:62", after := #[{ on := 21, ground := Ground.chain }, { on := 21, ground := Ground.guard }], guard := some (21, true) }) rfl (fun K hK => ?_) AllReadyH.nil
  go_simp
  refine (wakes6_any _).mono ?_
  rintro e w5 ⟨rfl, hw5⟩
  have hb5 := Bw.trans hb4 hw5
  refine hK.out _ _ hb5 (fun hHeld => ?_)
  clear hK K
  try simp only [Act.put, List.setIfInBounds_toArray, List.set_cons_zero, List.set_cons_succ]
  refine wpAnyH_take (i := 23) (oi := { dst := some 69, op := Op.pick (Operand.tmp 67) (Operand.tmp 68) (Operand.const (Value.bool false)), type := 4, pos := "outright.go:62", after := #[{ on := 21, ground := Ground.data }, { on := 22, ground := Ground.data }], guard := none }) (v := ?_) rfl (by kernel_rfl) (by kernel_rfl) (by kernel_rfl) (fun _ _ _ h => h) (Or.inl ⟨by rfl, ?_⟩) (by assumption) ?_
  rotate_left
  · intro w hSw; (try dsimp only at hSw); go_simp; all_goals (with_reducible rfl)
  try simp only [Act.put, List.setIfInBounds_toArray, List.set_cons_zero, List.set_cons_succ]
  refine wpAnyH_take (i := 24) (oi := { dst := some 4, op := Op.assign (Operand.tmp 69), type := 4, pos := "outright.go:62", after := #[{ on := 23, ground := Ground.data }, { on := 22, ground := Ground.chain }, { on := 0, ground := Ground.phase }, { on := 1, ground := Ground.phase }, { on := 2, ground := Ground.phase }, { on := 3, ground := Ground.phase }, { on := 4, ground := Ground.phase }, { on := 5, ground := Ground.phase }, { on := 6, ground := Ground.phase }, { on := 7, ground := Ground.phase }, { on := 8, ground := Ground.phase }, { on := 9, ground := Ground.phase }, { on := 10, ground := Ground.phase }, { on := 11, ground := Ground.phase }, { on := 12, ground := Ground.phase }, { on := 13, ground := Ground.phase }, { on := 14, ground := Ground.phase }, { on := 15, ground := Ground.phase }, { on := 16, ground := Ground.phase }, { on := 17, ground := Ground.phase }, { on := 18, ground := Ground.phase }, { on := 19, ground := Ground.phase }, { on := 20, ground := Ground.phase }, { on := 21, ground := Ground.phase }, { on := 22, ground := Ground.phase }, { on := 23, ground := Ground.phase }], guard := none }) (v := ?_) rfl (by kernel_rfl) (by kernel_rfl) (by kernel_rfl) (fun _ _ _ h => h) (Or.inl ⟨by rfl, ?_⟩) (by assumption) ?_
  rotate_left
  · intro w hSw; (try dsimp only at hSw); go_simp; all_goals (with_reducible rfl)
  try simp only [Act.put, List.setIfInBounds_toArray, List.set_cons_zero, List.set_cons_succ]
  refine wpAnyH_done (by kernel_rfl) ?_ _
  go_wp2
  go_ret
  exact ⟨rfl, hal.trans (hb2.trans hb5)⟩

set_option maxRecDepth 100000 in
set_option maxHeartbeats 4000000 in
theorem unlike_h (k s h : Nat) (A : Option Addr) (L ca : Nat) (d : Nat → Int) (k' s' h' : Nat) (A' : Option Addr) (L' ca' : Nat) (d' : Nat → Int) (w : World) (hi : InBlk w k s h A L ca d) (hj : InBlk w k' s' h' A' L' ca' d') (h1 : L ≤ 96) (h2 : L' ≤ 96) (hk : k = k') (hs : s = s') (hh : ¬ h = h') :
    Calls Try.prog 7 #[.agg #[.int .u64 (k : Int), .int .u32 (s : Int), .int .u8 (h : Int), .slice A L ca], .agg #[.int .u64 (k' : Int), .int .u32 (s' : Int), .int .u8 (h' : Int), .slice A' L' ca']] w fun e w' => e = .returned (.bool true) ∧ Bw w w' := by
  obtain ⟨W0, hW0⟩ : ∃ W0, W0 = (w.alloc (.cells #[.int .u64 (k : Int), .int .u32 (s : Int), .int .u8 (h : Int), .slice A L ca] 26)).alloc (.cells #[.int .u64 (k' : Int), .int .u32 (s' : Int), .int .u8 (h' : Int), .slice A' L' ca'] 26) := ⟨_, rfl⟩
  have hal : Bw w W0 := by rw [hW0]; exact bw_alloc (bw_alloc (Bw.refl _) _) _
  have hBa : BlkAt W0 w.heap.size (k : Int) (s : Int) (h : Int) A L ca := by rw [hW0]; exact heap_alloc2_old _ _ _
  have hBb : BlkAt W0 (w.heap.size + 1) (k' : Int) (s' : Int) (h' : Int) A' L' ca' := by rw [hW0]; exact heap_alloc2_new _ _ _
  have hra := hi.data.row.keep hal
  have hrb := hj.data.row.keep hal
  obtain ⟨F, hF⟩ : ∃ F, Hid (F = sealF (Blk.body k s h L d) 124) := ⟨_, rfl⟩
  obtain ⟨G, hG⟩ : ∃ G, Hid (G = sealF (Blk.body k' s' h' L' d') 124) := ⟨_, rfl⟩
  have hFb : ∀ i, 0 ≤ F i ∧ F i < 256 := by rw [hF.out]; exact sealF_bd (Blk.body_bd hi.shard (by omega) hi.data.row.2) 124
  have hGb : ∀ i, 0 ≤ G i ∧ G i < 256 := by rw [hG.out]; exact sealF_bd (Blk.body_bd hj.shard (by omega) hj.data.row.2) 124
  obtain ⟨X, hX⟩ : ∃ X, Hid (X = str F 128) := ⟨_, rfl⟩
  obtain ⟨Y, hY⟩ : ∃ Y, Hid (Y = str G 128) := ⟨_, rfl⟩
  have hXY : Hid (X.toList = Y.toList ↔ SameB k s h k' s' h' L L' d d') := by
    show _ ↔ _
    rw [hX.out, hY.out, str_inj hFb hGb, ← pack_same hi.key hi.stripe h1 hj.key hj.stripe h2, ← hF.out, ← hG.out]
    exact ⟨fun e => e.2, fun e => ⟨rfl, e⟩⟩
  have hgd : Hid (Blk.Good 128 F ∧ Blk.keyOf F = k ∧ Blk.stripeOf F = s ∧ Blk.shardOf F = h) := by
    show _ ∧ _; rw [hF.out]; have q := pack_good (h := h) (d := d) hi.key hi.stripe h1; exact ⟨q.1, q.2.1, q.2.2.1, q.2.2.2.1⟩
  have t1 := eq_true_of hk
  have hkH : Hid (k = k') := hk
  clear hk
  have t2 := eq_true_of hs
  have hsH : Hid (s = s') := hs
  clear hs
  have t3 := eq_false_of hh
  have hone : Hid (∀ x : Bool, (x = true ↔ IsOf 128 F k' s' h') → x = false) := fun x hx => by cases x; rfl; exact absurd (hx.1 rfl) (fun q => hh (hgd.out.2.2.2.symm.trans q.2.2.2))
  clear hgd
  go_enter Try.func7, Try.ntmps7
  go_wp2_with (first | (go_at_call 9; rw [← hW0]; clear hW0; refine (pack_ok k s h hi.key hi.stripe hi.shard A L ca d _ hra h1).mono ?_; rintro e w1 ⟨g1, c1, rfl, hown1, hg1, hcap1, hcm1, hw1⟩; rw [← hF.out] at hown1) | refine wpList_load_blk (by rfl) _ rfl (w.heap.size + 1) rfl (hBb.keep hw1) ?_ | (go_at_call 9; refine (pack_ok k' s' h' hj.key hj.stripe hj.shard A' L' ca' d' _ (hrb.keep hw1) h2).mono ?_; rintro e w2 ⟨g2, c2, rfl, hown2, hg2, hcap2, hcm2, hw2⟩; rw [← hG.out] at hown2; have hb2 := hw1.trans hw2; obtain ⟨ka0, ka1, ka2, ka3⟩ := BlkAt.cells (hBa.keep hb2); obtain ⟨kb0, kb1, kb2, kb3⟩ := BlkAt.cells (hBb.keep hb2)))
  have hBa2 := hBa.keep hb2
  have hBb2 := hBb.keep hb2
  have hra2 := hra.keep hb2
  have hrb2 := hrb.keep hb2
  have hrx := (hown1.keep hw2).row hFb
  have hry := hown2.row hGb
  clear ka0 ka1 ka2 ka3 kb0 kb1 kb2 kb3 hown1 hown2 hBa hBb hra hrb
  refine wp_region_held_drew (S := fun w' => Bw w2 w') (by kernel_rfl) ((Below.refl _ _).drew) (fun hHeld => ?_)
  have hdrew : Bw w2 w2.drew := (Bw.refl _).drew
  refine wpAnyH_take (i := 0) (oi := { dst := some 46, op := Op.move (Operand.tmp 5), type := 24, pos := "outright.go:62", after := #[], guard := none }) (v := ?_) rfl (by kernel_rfl) (by kernel_rfl) (by kernel_rfl) (fun _ _ _ h => h) (Or.inl ⟨by rfl, ?_⟩) (by assumption) ?_
  rotate_left
  · intro w hSw; (try dsimp only at hSw); go_simp; all_goals (with_reducible rfl)
  try simp only [Act.put, List.setIfInBounds_toArray, List.set_cons_zero, List.set_cons_succ]
  refine wpAnyH_take (i := 1) (oi := { dst := some 47, op := Op.convert 24 9 (Operand.tmp 46), type := 9, pos := "outright.go:62", after := #[{ on := 0, ground := Ground.data }], guard := none }) (v := ?_) rfl (by kernel_rfl) (by kernel_rfl) (by kernel_rfl) (fun _ _ _ h => h) (Or.inl ⟨by rfl, ?_⟩) (by assumption) ?_
  rotate_left
  · intro w hSw; (try dsimp only at hSw); have cv := conv_row (C := c1) (hrx.keep hSw); rw [← hX.out] at cv; go_simp; all_goals (with_reducible rfl)
  try simp only [Act.put, List.setIfInBounds_toArray, List.set_cons_zero, List.set_cons_succ]
  refine wpAnyH_take (i := 2) (oi := { dst := some 48, op := Op.move (Operand.tmp 7), type := 24, pos := "outright.go:62", after := #[], guard := none }) (v := ?_) rfl (by kernel_rfl) (by kernel_rfl) (by kernel_rfl) (fun _ _ _ h => h) (Or.inl ⟨by rfl, ?_⟩) (by assumption) ?_
  rotate_left
  · intro w hSw; (try dsimp only at hSw); go_simp; all_goals (with_reducible rfl)
  try simp only [Act.put, List.setIfInBounds_toArray, List.set_cons_zero, List.set_cons_succ]
  refine wpAnyH_take (i := 3) (oi := { dst := some 49, op := Op.convert 24 9 (Operand.tmp 48), type := 9, pos := "outright.go:62", after := #[{ on := 2, ground := Ground.data }], guard := none }) (v := ?_) rfl (by kernel_rfl) (by kernel_rfl) (by kernel_rfl) (fun _ _ _ h => h) (Or.inl ⟨by rfl, ?_⟩) (by assumption) ?_
  rotate_left
  · intro w hSw; (try dsimp only at hSw); have cv := conv_row (C := c2) (hry.keep hSw); rw [← hY.out] at cv; go_simp; all_goals (with_reducible rfl)
  try simp only [Act.put, List.setIfInBounds_toArray, List.set_cons_zero, List.set_cons_succ]
  refine wpAnyH_take (i := 4) (oi := { dst := some 50, op := Op.binOp BinOp.eql 9 (Operand.tmp 47) (Operand.tmp 49) 9, type := 4, pos := "outright.go:62", after := #[{ on := 1, ground := Ground.data }, { on := 3, ground := Ground.data }], guard := none }) (v := ?_) rfl (by kernel_rfl) (by kernel_rfl) (by kernel_rfl) (fun _ _ _ h => h) (Or.inl ⟨by rfl, ?_⟩) (by assumption) ?_
  rotate_left
  · intro w hSw; (try dsimp only at hSw); go_simp; all_goals (with_reducible rfl)
  try simp only [Act.put, List.setIfInBounds_toArray, List.set_cons_zero, List.set_cons_succ]
  refine wpAnyH_take (i := 5) (oi := { dst := some 51, op := Op.load 26 (Operand.tmp 2), type := 26, pos := "outright.go:62", after := #[], guard := none }) (v := _) rfl (by kernel_rfl) (by kernel_rfl) (by kernel_rfl) (fun _ _ _ h => h) (yieldsIf_load_blk (by rfl) _ rfl w.heap.size rfl (fun w' h' => hBa2.keep h')) (by assumption) ?_
  try simp only [Act.put, List.setIfInBounds_toArray, List.set_cons_zero, List.set_cons_succ]
  refine wpAnyH_take (i := 6) (oi := { dst := some 52, op := Op.load 26 (Operand.tmp 3), type := 26, pos := "outright.go:62", after := #[], guard := none }) (v := _) rfl (by kernel_rfl) (by kernel_rfl) (by kernel_rfl) (fun _ _ _ h => h) (yieldsIf_load_blk (by rfl) _ rfl (w.heap.size + 1) rfl (fun w' h' => hBb2.keep h')) (by assumption) ?_
  try simp only [Act.put, List.setIfInBounds_toArray, List.set_cons_zero, List.set_cons_succ]
  refine wpAnyH_ready (rs := [7]) (by kernel_rfl) (by simp) ?_
  refine AllReadyH.cons (o := { dst := some 53, op := Op.call { callee := Callee.value (Operand.func 15), args := #[Operand.tmp 51, Operand.tmp 52], argTypes := #[26, 26] }, type := 4, pos := "outright.go:62", after := #[{ on := 5, ground := Ground.data }, { on := 6, ground := Ground.data }], guard := none }) rfl (fun K hK => ?_) AllReadyH.nil
  go_simp
  refine (same_any k s h k' s' h' A A' L L' ca ca' d d' _ (hra2.keep hdrew) (hrb2.keep hdrew)).mono ?_
  rintro e w3 ⟨⟨x, rfl, hx⟩, hw3⟩
  obtain rfl : x = (X.toList == Y.toList) := by rw [Bool.eq_iff_iff, hx, beq_iff_eq]; exact hXY.out.symm
  clear hx
  have hb3 := Bw.trans hdrew hw3
  refine hK.out _ _ hb3 (fun hHeld => ?_)
  clear hK K
  try simp only [Act.put, List.setIfInBounds_toArray, List.set_cons_zero, List.set_cons_succ]
  refine wpAnyH_take (i := 8) (oi := { dst := some 54, op := Op.binOp BinOp.eql 4 (Operand.tmp 50) (Operand.tmp 53) 4, type := 4, pos := "outright.go:62", after := #[{ on := 4, ground := Ground.data }, { on := 7, ground := Ground.data }], guard := none }) (v := ?_) rfl (by kernel_rfl) (by kernel_rfl) (by kernel_rfl) (fun _ _ _ h => h) (Or.inl ⟨by rfl, ?_⟩) (by assumption) ?_
  rotate_left
  · intro w hSw; (try dsimp only at hSw); have hbb := eql_bool6 w (X.toList == Y.toList) (X.toList == Y.toList); rw [beq_self_eq_true] at hbb; go_simp; all_goals (with_reducible rfl)
  try simp only [Act.put, List.setIfInBounds_toArray, List.set_cons_zero, List.set_cons_succ]
  refine wpAnyH_take (i := 9) (oi := { dst := some 55, op := Op.move (Operand.tmp 54), type := 4, pos := "outright.go:62", after := #[{ on := 8, ground := Ground.data }, { on := 7, ground := Ground.chain }], guard := none }) (v := ?_) rfl (by kernel_rfl) (by kernel_rfl) (by kernel_rfl) (fun _ _ _ h => h) (Or.inl ⟨by rfl, ?_⟩) (by assumption) ?_
  rotate_left
  · intro w hSw; (try dsimp only at hSw); go_simp; all_goals (with_reducible rfl)
  try simp only [Act.put, List.setIfInBounds_toArray, List.set_cons_zero, List.set_cons_succ]
  refine wpAnyH_take (i := 10) (oi := { dst := some 56, op := Op.move (Operand.tmp 5), type := 24, pos := "outright.go:62", after := #[{ on := 9, ground := Ground.guard }], guard := some (9, true) }) (v := ?_) rfl (by kernel_rfl) (by kernel_rfl) (by kernel_rfl) (fun _ _ _ h => h) (Or.inl ⟨by rfl, ?_⟩) (by assumption) ?_
  rotate_left
  · intro w hSw; (try dsimp only at hSw); go_simp; all_goals (with_reducible rfl)
  try simp only [Act.put, List.setIfInBounds_toArray, List.set_cons_zero, List.set_cons_succ]
  refine wpAnyH_take (i := 11) (oi := { dst := some 57, op := Op.fieldAddr 26 (Operand.tmp 3) 0, type := 0, pos := "outright.go:62", after := #[{ on := 9, ground := Ground.guard }], guard := some (9, true) }) (v := ?_) rfl (by kernel_rfl) (by kernel_rfl) (by kernel_rfl) (fun _ _ _ h => h) (Or.inl ⟨by rfl, ?_⟩) (by assumption) ?_
  rotate_left
  · intro w hSw; (try dsimp only at hSw); go_simp; all_goals (with_reducible rfl)
  try simp only [Act.put, List.setIfInBounds_toArray, List.set_cons_zero, List.set_cons_succ]
  refine wpAnyH_take (i := 12) (oi := { dst := some 58, op := Op.load 22 (Operand.tmp 57), type := 22, pos := "outright.go:62", after := #[{ on := 11, ground := Ground.data }, { on := 9, ground := Ground.guard }], guard := some (9, true) }) (v := ?_) rfl (by kernel_rfl) (by kernel_rfl) (by kernel_rfl) (fun _ _ _ h => h) (Or.inl ⟨by rfl, ?_⟩) (by assumption) ?_
  rotate_left
  · intro w hSw; (try dsimp only at hSw); have cq := (BlkAt.cells (hBb2.keep hSw)).1; go_simp; all_goals (with_reducible rfl)
  try simp only [Act.put, List.setIfInBounds_toArray, List.set_cons_zero, List.set_cons_succ]
  refine wpAnyH_take (i := 13) (oi := { dst := some 59, op := Op.fieldAddr 26 (Operand.tmp 3) 1, type := 0, pos := "outright.go:62", after := #[{ on := 9, ground := Ground.guard }], guard := some (9, true) }) (v := ?_) rfl (by kernel_rfl) (by kernel_rfl) (by kernel_rfl) (fun _ _ _ h => h) (Or.inl ⟨by rfl, ?_⟩) (by assumption) ?_
  rotate_left
  · intro w hSw; (try dsimp only at hSw); go_simp; all_goals (with_reducible rfl)
  try simp only [Act.put, List.setIfInBounds_toArray, List.set_cons_zero, List.set_cons_succ]
  refine wpAnyH_take (i := 14) (oi := { dst := some 60, op := Op.load 23 (Operand.tmp 59), type := 23, pos := "outright.go:62", after := #[{ on := 13, ground := Ground.data }, { on := 9, ground := Ground.guard }], guard := some (9, true) }) (v := ?_) rfl (by kernel_rfl) (by kernel_rfl) (by kernel_rfl) (fun _ _ _ h => h) (Or.inl ⟨by rfl, ?_⟩) (by assumption) ?_
  rotate_left
  · intro w hSw; (try dsimp only at hSw); have cq := (BlkAt.cells (hBb2.keep hSw)).2.1; go_simp; all_goals (with_reducible rfl)
  try simp only [Act.put, List.setIfInBounds_toArray, List.set_cons_zero, List.set_cons_succ]
  refine wpAnyH_take (i := 15) (oi := { dst := some 61, op := Op.fieldAddr 26 (Operand.tmp 3) 2, type := 0, pos := "outright.go:62", after := #[{ on := 9, ground := Ground.guard }], guard := some (9, true) }) (v := ?_) rfl (by kernel_rfl) (by kernel_rfl) (by kernel_rfl) (fun _ _ _ h => h) (Or.inl ⟨by rfl, ?_⟩) (by assumption) ?_
  rotate_left
  · intro w hSw; (try dsimp only at hSw); go_simp; all_goals (with_reducible rfl)
  try simp only [Act.put, List.setIfInBounds_toArray, List.set_cons_zero, List.set_cons_succ]
  refine wpAnyH_take (i := 16) (oi := { dst := some 62, op := Op.load 5 (Operand.tmp 61), type := 5, pos := "outright.go:62", after := #[{ on := 15, ground := Ground.data }, { on := 9, ground := Ground.guard }], guard := some (9, true) }) (v := ?_) rfl (by kernel_rfl) (by kernel_rfl) (by kernel_rfl) (fun _ _ _ h => h) (Or.inl ⟨by rfl, ?_⟩) (by assumption) ?_
  rotate_left
  · intro w hSw; (try dsimp only at hSw); have cq := (BlkAt.cells (hBb2.keep hSw)).2.2.1; go_simp; all_goals (with_reducible rfl)
  try simp only [Act.put, List.setIfInBounds_toArray, List.set_cons_zero, List.set_cons_succ]
  refine wpAnyH_take (i := 18) (oi := { dst := some 64, op := Op.move (Operand.tmp 9), type := 4, pos := "outright.go:62", after := #[{ on := 9, ground := Ground.guard }], guard := some (9, true) }) (v := ?_) rfl (by kernel_rfl) (by kernel_rfl) (by kernel_rfl) (fun _ _ _ h => h) (Or.inl ⟨by rfl, ?_⟩) (by assumption) ?_
  rotate_left
  · intro w hSw; (try dsimp only at hSw); go_simp; all_goals (with_reducible rfl)
  try simp only [Act.put, List.setIfInBounds_toArray, List.set_cons_zero, List.set_cons_succ]
  refine wpAnyH_ready (rs := [17]) (by kernel_rfl) (by simp) ?_
  refine AllReadyH.cons (o := { dst := some 63, op := Op.call { callee := Callee.value (Operand.func 13), args := #[Operand.tmp 56, Operand.tmp 58, Operand.tmp 60, Operand.tmp 62], argTypes := #[24, 22, 23, 5] }, type := 4, pos := "outright.go:62", after := #[{ on := 10, ground := Ground.data }, { on := 12, ground := Ground.data }, { on := 14, ground := Ground.data }, { on := 16, ground := Ground.data }, { on := 9, ground := Ground.chain }, { on := 9, ground := Ground.guard }], guard := some (9, true) }) rfl (fun K hK => ?_) AllReadyH.nil
  go_simp
  refine (is_any _ 128 c1 F k' s' h' _ (hrx.keep hb3) hcap1).mono ?_
  rintro e w4 ⟨⟨x, rfl, hx⟩, hw4⟩
  obtain rfl : x = false := hone.out x hx
  clear hx
  have hb4 := Bw.trans hb3 hw4
  refine hK.out _ _ hb4 (fun hHeld => ?_)
  clear hK K
  try simp only [Act.put, List.setIfInBounds_toArray, List.set_cons_zero, List.set_cons_succ]
  refine wpAnyH_take (i := 19) (oi := { dst := some 65, op := Op.binOp BinOp.eql 4 (Operand.tmp 63) (Operand.tmp 64) 4, type := 4, pos := "outright.go:62", after := #[{ on := 17, ground := Ground.data }, { on := 18, ground := Ground.data }, { on := 9, ground := Ground.guard }], guard := some (9, true) }) (v := ?_) rfl (by kernel_rfl) (by kernel_rfl) (by kernel_rfl) (fun _ _ _ h => h) (Or.inl ⟨by rfl, ?_⟩) (by assumption) ?_
  rotate_left
  · intro w hSw; (try dsimp only at hSw); have hbb := eql_bool6 w false false; go_simp; all_goals (with_reducible rfl)
  try simp only [Act.put, List.setIfInBounds_toArray, List.set_cons_zero, List.set_cons_succ]
  refine wpAnyH_take (i := 20) (oi := { dst := some 66, op := Op.pick (Operand.tmp 55) (Operand.tmp 65) (Operand.const (Value.bool false)), type := 4, pos := "outright.go:62", after := #[{ on := 9, ground := Ground.data }, { on := 19, ground := Ground.data }], guard := none }) (v := ?_) rfl (by kernel_rfl) (by kernel_rfl) (by kernel_rfl) (fun _ _ _ h => h) (Or.inl ⟨by rfl, ?_⟩) (by assumption) ?_
  rotate_left
  · intro w hSw; (try dsimp only at hSw); go_simp; all_goals (with_reducible rfl)
  try simp only [Act.put, List.setIfInBounds_toArray, List.set_cons_zero, List.set_cons_succ]
  refine wpAnyH_take (i := 21) (oi := { dst := some 67, op := Op.move (Operand.tmp 66), type := 4, pos := "outright.go:62", after := #[{ on := 20, ground := Ground.data }, { on := 17, ground := Ground.chain }], guard := none }) (v := ?_) rfl (by kernel_rfl) (by kernel_rfl) (by kernel_rfl) (fun _ _ _ h => h) (Or.inl ⟨by rfl, ?_⟩) (by assumption) ?_
  rotate_left
  · intro w hSw; (try dsimp only at hSw); go_simp; all_goals (with_reducible rfl)
  try simp only [Act.put, List.setIfInBounds_toArray, List.set_cons_zero, List.set_cons_succ]
  refine wpAnyH_ready (rs := [22]) (by kernel_rfl) (by simp) ?_
  refine AllReadyH.cons (o := { dst := some 68, op := Op.call { callee := Callee.value (Operand.func 8), args := #[], argTypes := #[] }, type := 4, pos := "outright.go:62", after := #[{ on := 21, ground := Ground.chain }, { on := 21, ground := Ground.guard }], guard := some (21, true) }) rfl (fun K hK => ?_) AllReadyH.nil
  go_simp
  refine (wakes6_any _).mono ?_
  rintro e w5 ⟨rfl, hw5⟩
  have hb5 := Bw.trans hb4 hw5
  refine hK.out _ _ hb5 (fun hHeld => ?_)
  clear hK K
  try simp only [Act.put, List.setIfInBounds_toArray, List.set_cons_zero, List.set_cons_succ]
  refine wpAnyH_take (i := 23) (oi := { dst := some 69, op := Op.pick (Operand.tmp 67) (Operand.tmp 68) (Operand.const (Value.bool false)), type := 4, pos := "outright.go:62", after := #[{ on := 21, ground := Ground.data }, { on := 22, ground := Ground.data }], guard := none }) (v := ?_) rfl (by kernel_rfl) (by kernel_rfl) (by kernel_rfl) (fun _ _ _ h => h) (Or.inl ⟨by rfl, ?_⟩) (by assumption) ?_
  rotate_left
  · intro w hSw; (try dsimp only at hSw); go_simp; all_goals (with_reducible rfl)
  try simp only [Act.put, List.setIfInBounds_toArray, List.set_cons_zero, List.set_cons_succ]
  refine wpAnyH_take (i := 24) (oi := { dst := some 4, op := Op.assign (Operand.tmp 69), type := 4, pos := "outright.go:62", after := #[{ on := 23, ground := Ground.data }, { on := 22, ground := Ground.chain }, { on := 0, ground := Ground.phase }, { on := 1, ground := Ground.phase }, { on := 2, ground := Ground.phase }, { on := 3, ground := Ground.phase }, { on := 4, ground := Ground.phase }, { on := 5, ground := Ground.phase }, { on := 6, ground := Ground.phase }, { on := 7, ground := Ground.phase }, { on := 8, ground := Ground.phase }, { on := 9, ground := Ground.phase }, { on := 10, ground := Ground.phase }, { on := 11, ground := Ground.phase }, { on := 12, ground := Ground.phase }, { on := 13, ground := Ground.phase }, { on := 14, ground := Ground.phase }, { on := 15, ground := Ground.phase }, { on := 16, ground := Ground.phase }, { on := 17, ground := Ground.phase }, { on := 18, ground := Ground.phase }, { on := 19, ground := Ground.phase }, { on := 20, ground := Ground.phase }, { on := 21, ground := Ground.phase }, { on := 22, ground := Ground.phase }, { on := 23, ground := Ground.phase }], guard := none }) (v := ?_) rfl (by kernel_rfl) (by kernel_rfl) (by kernel_rfl) (fun _ _ _ h => h) (Or.inl ⟨by rfl, ?_⟩) (by assumption) ?_
  rotate_left
  · intro w hSw; (try dsimp only at hSw); go_simp; all_goals (with_reducible rfl)
  try simp only [Act.put, List.setIfInBounds_toArray, List.set_cons_zero, List.set_cons_succ]
  refine wpAnyH_done (by kernel_rfl) ?_ _
  go_wp2
  go_ret
  exact ⟨rfl, hal.trans (hb2.trans hb5)⟩

set_option maxRecDepth 100000 in
set_option maxHeartbeats 4000000 in
theorem unlike_e (k s h : Nat) (A : Option Addr) (L ca : Nat) (d : Nat → Int) (k' s' h' : Nat) (A' : Option Addr) (L' ca' : Nat) (d' : Nat → Int) (w : World) (hi : InBlk w k s h A L ca d) (hj : InBlk w k' s' h' A' L' ca' d') (h1 : L ≤ 96) (h2 : L' ≤ 96) (hk : k = k') (hs : s = s') (hh : h = h') :
    Calls Try.prog 7 #[.agg #[.int .u64 (k : Int), .int .u32 (s : Int), .int .u8 (h : Int), .slice A L ca], .agg #[.int .u64 (k' : Int), .int .u32 (s' : Int), .int .u8 (h' : Int), .slice A' L' ca']] w fun e w' => e = .returned (.bool true) ∧ Bw w w' := by
  obtain ⟨W0, hW0⟩ : ∃ W0, W0 = (w.alloc (.cells #[.int .u64 (k : Int), .int .u32 (s : Int), .int .u8 (h : Int), .slice A L ca] 26)).alloc (.cells #[.int .u64 (k' : Int), .int .u32 (s' : Int), .int .u8 (h' : Int), .slice A' L' ca'] 26) := ⟨_, rfl⟩
  have hal : Bw w W0 := by rw [hW0]; exact bw_alloc (bw_alloc (Bw.refl _) _) _
  have hBa : BlkAt W0 w.heap.size (k : Int) (s : Int) (h : Int) A L ca := by rw [hW0]; exact heap_alloc2_old _ _ _
  have hBb : BlkAt W0 (w.heap.size + 1) (k' : Int) (s' : Int) (h' : Int) A' L' ca' := by rw [hW0]; exact heap_alloc2_new _ _ _
  have hra := hi.data.row.keep hal
  have hrb := hj.data.row.keep hal
  obtain ⟨F, hF⟩ : ∃ F, Hid (F = sealF (Blk.body k s h L d) 124) := ⟨_, rfl⟩
  obtain ⟨G, hG⟩ : ∃ G, Hid (G = sealF (Blk.body k' s' h' L' d') 124) := ⟨_, rfl⟩
  have hFb : ∀ i, 0 ≤ F i ∧ F i < 256 := by rw [hF.out]; exact sealF_bd (Blk.body_bd hi.shard (by omega) hi.data.row.2) 124
  have hGb : ∀ i, 0 ≤ G i ∧ G i < 256 := by rw [hG.out]; exact sealF_bd (Blk.body_bd hj.shard (by omega) hj.data.row.2) 124
  obtain ⟨X, hX⟩ : ∃ X, Hid (X = str F 128) := ⟨_, rfl⟩
  obtain ⟨Y, hY⟩ : ∃ Y, Hid (Y = str G 128) := ⟨_, rfl⟩
  have hXY : Hid (X.toList = Y.toList ↔ SameB k s h k' s' h' L L' d d') := by
    show _ ↔ _
    rw [hX.out, hY.out, str_inj hFb hGb, ← pack_same hi.key hi.stripe h1 hj.key hj.stripe h2, ← hF.out, ← hG.out]
    exact ⟨fun e => e.2, fun e => ⟨rfl, e⟩⟩
  have hgd : Hid (Blk.Good 128 F ∧ Blk.keyOf F = k ∧ Blk.stripeOf F = s ∧ Blk.shardOf F = h) := by
    show _ ∧ _; rw [hF.out]; have q := pack_good (h := h) (d := d) hi.key hi.stripe h1; exact ⟨q.1, q.2.1, q.2.2.1, q.2.2.2.1⟩
  have t1 := eq_true_of hk
  have hkH : Hid (k = k') := hk
  clear hk
  have t2 := eq_true_of hs
  have hsH : Hid (s = s') := hs
  clear hs
  have t3 := eq_true_of hh
  have hhH : Hid (h = h') := hh
  clear hh
  have hone : Hid (∀ x : Bool, (x = true ↔ IsOf 128 F k' s' h') → x = true) := fun x hx => by exact hx.2 ⟨hgd.out.1, hgd.out.2.1.trans hkH.out, hgd.out.2.2.1.trans hsH.out, hgd.out.2.2.2.trans hhH.out⟩
  clear hgd
  go_enter Try.func7, Try.ntmps7
  go_wp2_with (first | (go_at_call 9; rw [← hW0]; clear hW0; refine (pack_ok k s h hi.key hi.stripe hi.shard A L ca d _ hra h1).mono ?_; rintro e w1 ⟨g1, c1, rfl, hown1, hg1, hcap1, hcm1, hw1⟩; rw [← hF.out] at hown1) | refine wpList_load_blk (by rfl) _ rfl (w.heap.size + 1) rfl (hBb.keep hw1) ?_ | (go_at_call 9; refine (pack_ok k' s' h' hj.key hj.stripe hj.shard A' L' ca' d' _ (hrb.keep hw1) h2).mono ?_; rintro e w2 ⟨g2, c2, rfl, hown2, hg2, hcap2, hcm2, hw2⟩; rw [← hG.out] at hown2; have hb2 := hw1.trans hw2; obtain ⟨ka0, ka1, ka2, ka3⟩ := BlkAt.cells (hBa.keep hb2); obtain ⟨kb0, kb1, kb2, kb3⟩ := BlkAt.cells (hBb.keep hb2)))
  have hBa2 := hBa.keep hb2
  have hBb2 := hBb.keep hb2
  have hra2 := hra.keep hb2
  have hrb2 := hrb.keep hb2
  have hrx := (hown1.keep hw2).row hFb
  have hry := hown2.row hGb
  clear ka0 ka1 ka2 ka3 kb0 kb1 kb2 kb3 hown1 hown2 hBa hBb hra hrb
  refine wp_region_held_drew (S := fun w' => Bw w2 w') (by kernel_rfl) ((Below.refl _ _).drew) (fun hHeld => ?_)
  have hdrew : Bw w2 w2.drew := (Bw.refl _).drew
  refine wpAnyH_take (i := 0) (oi := { dst := some 46, op := Op.move (Operand.tmp 5), type := 24, pos := "outright.go:62", after := #[], guard := none }) (v := ?_) rfl (by kernel_rfl) (by kernel_rfl) (by kernel_rfl) (fun _ _ _ h => h) (Or.inl ⟨by rfl, ?_⟩) (by assumption) ?_
  rotate_left
  · intro w hSw; (try dsimp only at hSw); go_simp; all_goals (with_reducible rfl)
  try simp only [Act.put, List.setIfInBounds_toArray, List.set_cons_zero, List.set_cons_succ]
  refine wpAnyH_take (i := 1) (oi := { dst := some 47, op := Op.convert 24 9 (Operand.tmp 46), type := 9, pos := "outright.go:62", after := #[{ on := 0, ground := Ground.data }], guard := none }) (v := ?_) rfl (by kernel_rfl) (by kernel_rfl) (by kernel_rfl) (fun _ _ _ h => h) (Or.inl ⟨by rfl, ?_⟩) (by assumption) ?_
  rotate_left
  · intro w hSw; (try dsimp only at hSw); have cv := conv_row (C := c1) (hrx.keep hSw); rw [← hX.out] at cv; go_simp; all_goals (with_reducible rfl)
  try simp only [Act.put, List.setIfInBounds_toArray, List.set_cons_zero, List.set_cons_succ]
  refine wpAnyH_take (i := 2) (oi := { dst := some 48, op := Op.move (Operand.tmp 7), type := 24, pos := "outright.go:62", after := #[], guard := none }) (v := ?_) rfl (by kernel_rfl) (by kernel_rfl) (by kernel_rfl) (fun _ _ _ h => h) (Or.inl ⟨by rfl, ?_⟩) (by assumption) ?_
  rotate_left
  · intro w hSw; (try dsimp only at hSw); go_simp; all_goals (with_reducible rfl)
  try simp only [Act.put, List.setIfInBounds_toArray, List.set_cons_zero, List.set_cons_succ]
  refine wpAnyH_take (i := 3) (oi := { dst := some 49, op := Op.convert 24 9 (Operand.tmp 48), type := 9, pos := "outright.go:62", after := #[{ on := 2, ground := Ground.data }], guard := none }) (v := ?_) rfl (by kernel_rfl) (by kernel_rfl) (by kernel_rfl) (fun _ _ _ h => h) (Or.inl ⟨by rfl, ?_⟩) (by assumption) ?_
  rotate_left
  · intro w hSw; (try dsimp only at hSw); have cv := conv_row (C := c2) (hry.keep hSw); rw [← hY.out] at cv; go_simp; all_goals (with_reducible rfl)
  try simp only [Act.put, List.setIfInBounds_toArray, List.set_cons_zero, List.set_cons_succ]
  refine wpAnyH_take (i := 4) (oi := { dst := some 50, op := Op.binOp BinOp.eql 9 (Operand.tmp 47) (Operand.tmp 49) 9, type := 4, pos := "outright.go:62", after := #[{ on := 1, ground := Ground.data }, { on := 3, ground := Ground.data }], guard := none }) (v := ?_) rfl (by kernel_rfl) (by kernel_rfl) (by kernel_rfl) (fun _ _ _ h => h) (Or.inl ⟨by rfl, ?_⟩) (by assumption) ?_
  rotate_left
  · intro w hSw; (try dsimp only at hSw); go_simp; all_goals (with_reducible rfl)
  try simp only [Act.put, List.setIfInBounds_toArray, List.set_cons_zero, List.set_cons_succ]
  refine wpAnyH_take (i := 5) (oi := { dst := some 51, op := Op.load 26 (Operand.tmp 2), type := 26, pos := "outright.go:62", after := #[], guard := none }) (v := _) rfl (by kernel_rfl) (by kernel_rfl) (by kernel_rfl) (fun _ _ _ h => h) (yieldsIf_load_blk (by rfl) _ rfl w.heap.size rfl (fun w' h' => hBa2.keep h')) (by assumption) ?_
  try simp only [Act.put, List.setIfInBounds_toArray, List.set_cons_zero, List.set_cons_succ]
  refine wpAnyH_take (i := 6) (oi := { dst := some 52, op := Op.load 26 (Operand.tmp 3), type := 26, pos := "outright.go:62", after := #[], guard := none }) (v := _) rfl (by kernel_rfl) (by kernel_rfl) (by kernel_rfl) (fun _ _ _ h => h) (yieldsIf_load_blk (by rfl) _ rfl (w.heap.size + 1) rfl (fun w' h' => hBb2.keep h')) (by assumption) ?_
  try simp only [Act.put, List.setIfInBounds_toArray, List.set_cons_zero, List.set_cons_succ]
  refine wpAnyH_ready (rs := [7]) (by kernel_rfl) (by simp) ?_
  refine AllReadyH.cons (o := { dst := some 53, op := Op.call { callee := Callee.value (Operand.func 15), args := #[Operand.tmp 51, Operand.tmp 52], argTypes := #[26, 26] }, type := 4, pos := "outright.go:62", after := #[{ on := 5, ground := Ground.data }, { on := 6, ground := Ground.data }], guard := none }) rfl (fun K hK => ?_) AllReadyH.nil
  go_simp
  refine (same_any k s h k' s' h' A A' L L' ca ca' d d' _ (hra2.keep hdrew) (hrb2.keep hdrew)).mono ?_
  rintro e w3 ⟨⟨x, rfl, hx⟩, hw3⟩
  obtain rfl : x = (X.toList == Y.toList) := by rw [Bool.eq_iff_iff, hx, beq_iff_eq]; exact hXY.out.symm
  clear hx
  have hb3 := Bw.trans hdrew hw3
  refine hK.out _ _ hb3 (fun hHeld => ?_)
  clear hK K
  try simp only [Act.put, List.setIfInBounds_toArray, List.set_cons_zero, List.set_cons_succ]
  refine wpAnyH_take (i := 8) (oi := { dst := some 54, op := Op.binOp BinOp.eql 4 (Operand.tmp 50) (Operand.tmp 53) 4, type := 4, pos := "outright.go:62", after := #[{ on := 4, ground := Ground.data }, { on := 7, ground := Ground.data }], guard := none }) (v := ?_) rfl (by kernel_rfl) (by kernel_rfl) (by kernel_rfl) (fun _ _ _ h => h) (Or.inl ⟨by rfl, ?_⟩) (by assumption) ?_
  rotate_left
  · intro w hSw; (try dsimp only at hSw); have hbb := eql_bool6 w (X.toList == Y.toList) (X.toList == Y.toList); rw [beq_self_eq_true] at hbb; go_simp; all_goals (with_reducible rfl)
  try simp only [Act.put, List.setIfInBounds_toArray, List.set_cons_zero, List.set_cons_succ]
  refine wpAnyH_take (i := 9) (oi := { dst := some 55, op := Op.move (Operand.tmp 54), type := 4, pos := "outright.go:62", after := #[{ on := 8, ground := Ground.data }, { on := 7, ground := Ground.chain }], guard := none }) (v := ?_) rfl (by kernel_rfl) (by kernel_rfl) (by kernel_rfl) (fun _ _ _ h => h) (Or.inl ⟨by rfl, ?_⟩) (by assumption) ?_
  rotate_left
  · intro w hSw; (try dsimp only at hSw); go_simp; all_goals (with_reducible rfl)
  try simp only [Act.put, List.setIfInBounds_toArray, List.set_cons_zero, List.set_cons_succ]
  refine wpAnyH_take (i := 10) (oi := { dst := some 56, op := Op.move (Operand.tmp 5), type := 24, pos := "outright.go:62", after := #[{ on := 9, ground := Ground.guard }], guard := some (9, true) }) (v := ?_) rfl (by kernel_rfl) (by kernel_rfl) (by kernel_rfl) (fun _ _ _ h => h) (Or.inl ⟨by rfl, ?_⟩) (by assumption) ?_
  rotate_left
  · intro w hSw; (try dsimp only at hSw); go_simp; all_goals (with_reducible rfl)
  try simp only [Act.put, List.setIfInBounds_toArray, List.set_cons_zero, List.set_cons_succ]
  refine wpAnyH_take (i := 11) (oi := { dst := some 57, op := Op.fieldAddr 26 (Operand.tmp 3) 0, type := 0, pos := "outright.go:62", after := #[{ on := 9, ground := Ground.guard }], guard := some (9, true) }) (v := ?_) rfl (by kernel_rfl) (by kernel_rfl) (by kernel_rfl) (fun _ _ _ h => h) (Or.inl ⟨by rfl, ?_⟩) (by assumption) ?_
  rotate_left
  · intro w hSw; (try dsimp only at hSw); go_simp; all_goals (with_reducible rfl)
  try simp only [Act.put, List.setIfInBounds_toArray, List.set_cons_zero, List.set_cons_succ]
  refine wpAnyH_take (i := 12) (oi := { dst := some 58, op := Op.load 22 (Operand.tmp 57), type := 22, pos := "outright.go:62", after := #[{ on := 11, ground := Ground.data }, { on := 9, ground := Ground.guard }], guard := some (9, true) }) (v := ?_) rfl (by kernel_rfl) (by kernel_rfl) (by kernel_rfl) (fun _ _ _ h => h) (Or.inl ⟨by rfl, ?_⟩) (by assumption) ?_
  rotate_left
  · intro w hSw; (try dsimp only at hSw); have cq := (BlkAt.cells (hBb2.keep hSw)).1; go_simp; all_goals (with_reducible rfl)
  try simp only [Act.put, List.setIfInBounds_toArray, List.set_cons_zero, List.set_cons_succ]
  refine wpAnyH_take (i := 13) (oi := { dst := some 59, op := Op.fieldAddr 26 (Operand.tmp 3) 1, type := 0, pos := "outright.go:62", after := #[{ on := 9, ground := Ground.guard }], guard := some (9, true) }) (v := ?_) rfl (by kernel_rfl) (by kernel_rfl) (by kernel_rfl) (fun _ _ _ h => h) (Or.inl ⟨by rfl, ?_⟩) (by assumption) ?_
  rotate_left
  · intro w hSw; (try dsimp only at hSw); go_simp; all_goals (with_reducible rfl)
  try simp only [Act.put, List.setIfInBounds_toArray, List.set_cons_zero, List.set_cons_succ]
  refine wpAnyH_take (i := 14) (oi := { dst := some 60, op := Op.load 23 (Operand.tmp 59), type := 23, pos := "outright.go:62", after := #[{ on := 13, ground := Ground.data }, { on := 9, ground := Ground.guard }], guard := some (9, true) }) (v := ?_) rfl (by kernel_rfl) (by kernel_rfl) (by kernel_rfl) (fun _ _ _ h => h) (Or.inl ⟨by rfl, ?_⟩) (by assumption) ?_
  rotate_left
  · intro w hSw; (try dsimp only at hSw); have cq := (BlkAt.cells (hBb2.keep hSw)).2.1; go_simp; all_goals (with_reducible rfl)
  try simp only [Act.put, List.setIfInBounds_toArray, List.set_cons_zero, List.set_cons_succ]
  refine wpAnyH_take (i := 15) (oi := { dst := some 61, op := Op.fieldAddr 26 (Operand.tmp 3) 2, type := 0, pos := "outright.go:62", after := #[{ on := 9, ground := Ground.guard }], guard := some (9, true) }) (v := ?_) rfl (by kernel_rfl) (by kernel_rfl) (by kernel_rfl) (fun _ _ _ h => h) (Or.inl ⟨by rfl, ?_⟩) (by assumption) ?_
  rotate_left
  · intro w hSw; (try dsimp only at hSw); go_simp; all_goals (with_reducible rfl)
  try simp only [Act.put, List.setIfInBounds_toArray, List.set_cons_zero, List.set_cons_succ]
  refine wpAnyH_take (i := 16) (oi := { dst := some 62, op := Op.load 5 (Operand.tmp 61), type := 5, pos := "outright.go:62", after := #[{ on := 15, ground := Ground.data }, { on := 9, ground := Ground.guard }], guard := some (9, true) }) (v := ?_) rfl (by kernel_rfl) (by kernel_rfl) (by kernel_rfl) (fun _ _ _ h => h) (Or.inl ⟨by rfl, ?_⟩) (by assumption) ?_
  rotate_left
  · intro w hSw; (try dsimp only at hSw); have cq := (BlkAt.cells (hBb2.keep hSw)).2.2.1; go_simp; all_goals (with_reducible rfl)
  try simp only [Act.put, List.setIfInBounds_toArray, List.set_cons_zero, List.set_cons_succ]
  refine wpAnyH_take (i := 18) (oi := { dst := some 64, op := Op.move (Operand.tmp 9), type := 4, pos := "outright.go:62", after := #[{ on := 9, ground := Ground.guard }], guard := some (9, true) }) (v := ?_) rfl (by kernel_rfl) (by kernel_rfl) (by kernel_rfl) (fun _ _ _ h => h) (Or.inl ⟨by rfl, ?_⟩) (by assumption) ?_
  rotate_left
  · intro w hSw; (try dsimp only at hSw); go_simp; all_goals (with_reducible rfl)
  try simp only [Act.put, List.setIfInBounds_toArray, List.set_cons_zero, List.set_cons_succ]
  refine wpAnyH_ready (rs := [17]) (by kernel_rfl) (by simp) ?_
  refine AllReadyH.cons (o := { dst := some 63, op := Op.call { callee := Callee.value (Operand.func 13), args := #[Operand.tmp 56, Operand.tmp 58, Operand.tmp 60, Operand.tmp 62], argTypes := #[24, 22, 23, 5] }, type := 4, pos := "outright.go:62", after := #[{ on := 10, ground := Ground.data }, { on := 12, ground := Ground.data }, { on := 14, ground := Ground.data }, { on := 16, ground := Ground.data }, { on := 9, ground := Ground.chain }, { on := 9, ground := Ground.guard }], guard := some (9, true) }) rfl (fun K hK => ?_) AllReadyH.nil
  go_simp
  refine (is_any _ 128 c1 F k' s' h' _ (hrx.keep hb3) hcap1).mono ?_
  rintro e w4 ⟨⟨x, rfl, hx⟩, hw4⟩
  obtain rfl : x = true := hone.out x hx
  clear hx
  have hb4 := Bw.trans hb3 hw4
  refine hK.out _ _ hb4 (fun hHeld => ?_)
  clear hK K
  try simp only [Act.put, List.setIfInBounds_toArray, List.set_cons_zero, List.set_cons_succ]
  refine wpAnyH_take (i := 19) (oi := { dst := some 65, op := Op.binOp BinOp.eql 4 (Operand.tmp 63) (Operand.tmp 64) 4, type := 4, pos := "outright.go:62", after := #[{ on := 17, ground := Ground.data }, { on := 18, ground := Ground.data }, { on := 9, ground := Ground.guard }], guard := some (9, true) }) (v := ?_) rfl (by kernel_rfl) (by kernel_rfl) (by kernel_rfl) (fun _ _ _ h => h) (Or.inl ⟨by rfl, ?_⟩) (by assumption) ?_
  rotate_left
  · intro w hSw; (try dsimp only at hSw); have hbb := eql_bool6 w true true; go_simp; all_goals (with_reducible rfl)
  try simp only [Act.put, List.setIfInBounds_toArray, List.set_cons_zero, List.set_cons_succ]
  refine wpAnyH_take (i := 20) (oi := { dst := some 66, op := Op.pick (Operand.tmp 55) (Operand.tmp 65) (Operand.const (Value.bool false)), type := 4, pos := "outright.go:62", after := #[{ on := 9, ground := Ground.data }, { on := 19, ground := Ground.data }], guard := none }) (v := ?_) rfl (by kernel_rfl) (by kernel_rfl) (by kernel_rfl) (fun _ _ _ h => h) (Or.inl ⟨by rfl, ?_⟩) (by assumption) ?_
  rotate_left
  · intro w hSw; (try dsimp only at hSw); go_simp; all_goals (with_reducible rfl)
  try simp only [Act.put, List.setIfInBounds_toArray, List.set_cons_zero, List.set_cons_succ]
  refine wpAnyH_take (i := 21) (oi := { dst := some 67, op := Op.move (Operand.tmp 66), type := 4, pos := "outright.go:62", after := #[{ on := 20, ground := Ground.data }, { on := 17, ground := Ground.chain }], guard := none }) (v := ?_) rfl (by kernel_rfl) (by kernel_rfl) (by kernel_rfl) (fun _ _ _ h => h) (Or.inl ⟨by rfl, ?_⟩) (by assumption) ?_
  rotate_left
  · intro w hSw; (try dsimp only at hSw); go_simp; all_goals (with_reducible rfl)
  try simp only [Act.put, List.setIfInBounds_toArray, List.set_cons_zero, List.set_cons_succ]
  refine wpAnyH_ready (rs := [22]) (by kernel_rfl) (by simp) ?_
  refine AllReadyH.cons (o := { dst := some 68, op := Op.call { callee := Callee.value (Operand.func 8), args := #[], argTypes := #[] }, type := 4, pos := "outright.go:62", after := #[{ on := 21, ground := Ground.chain }, { on := 21, ground := Ground.guard }], guard := some (21, true) }) rfl (fun K hK => ?_) AllReadyH.nil
  go_simp
  refine (wakes6_any _).mono ?_
  rintro e w5 ⟨rfl, hw5⟩
  have hb5 := Bw.trans hb4 hw5
  refine hK.out _ _ hb5 (fun hHeld => ?_)
  clear hK K
  try simp only [Act.put, List.setIfInBounds_toArray, List.set_cons_zero, List.set_cons_succ]
  refine wpAnyH_take (i := 23) (oi := { dst := some 69, op := Op.pick (Operand.tmp 67) (Operand.tmp 68) (Operand.const (Value.bool false)), type := 4, pos := "outright.go:62", after := #[{ on := 21, ground := Ground.data }, { on := 22, ground := Ground.data }], guard := none }) (v := ?_) rfl (by kernel_rfl) (by kernel_rfl) (by kernel_rfl) (fun _ _ _ h => h) (Or.inl ⟨by rfl, ?_⟩) (by assumption) ?_
  rotate_left
  · intro w hSw; (try dsimp only at hSw); go_simp; all_goals (with_reducible rfl)
  try simp only [Act.put, List.setIfInBounds_toArray, List.set_cons_zero, List.set_cons_succ]
  refine wpAnyH_take (i := 24) (oi := { dst := some 4, op := Op.assign (Operand.tmp 69), type := 4, pos := "outright.go:62", after := #[{ on := 23, ground := Ground.data }, { on := 22, ground := Ground.chain }, { on := 0, ground := Ground.phase }, { on := 1, ground := Ground.phase }, { on := 2, ground := Ground.phase }, { on := 3, ground := Ground.phase }, { on := 4, ground := Ground.phase }, { on := 5, ground := Ground.phase }, { on := 6, ground := Ground.phase }, { on := 7, ground := Ground.phase }, { on := 8, ground := Ground.phase }, { on := 9, ground := Ground.phase }, { on := 10, ground := Ground.phase }, { on := 11, ground := Ground.phase }, { on := 12, ground := Ground.phase }, { on := 13, ground := Ground.phase }, { on := 14, ground := Ground.phase }, { on := 15, ground := Ground.phase }, { on := 16, ground := Ground.phase }, { on := 17, ground := Ground.phase }, { on := 18, ground := Ground.phase }, { on := 19, ground := Ground.phase }, { on := 20, ground := Ground.phase }, { on := 21, ground := Ground.phase }, { on := 22, ground := Ground.phase }, { on := 23, ground := Ground.phase }], guard := none }) (v := ?_) rfl (by kernel_rfl) (by kernel_rfl) (by kernel_rfl) (fun _ _ _ h => h) (Or.inl ⟨by rfl, ?_⟩) (by assumption) ?_
  rotate_left
  · intro w hSw; (try dsimp only at hSw); go_simp; all_goals (with_reducible rfl)
  try simp only [Act.put, List.setIfInBounds_toArray, List.set_cons_zero, List.set_cons_succ]
  refine wpAnyH_done (by kernel_rfl) ?_ _
  go_wp2
  go_ret
  exact ⟨rfl, hal.trans (hb2.trans hb5)⟩

theorem walk (kk0 ss0 hh0 : Nat) (a0 : Option Addr) (len0 cap0 : Nat) (f0 : Nat → Int) (kk1 ss1 hh1 : Nat) (a1 : Option Addr) (len1 cap1 : Nat) (f1 : Nat → Int) (w : World) (w0 : InBlk w kk0 ss0 hh0 a0 len0 cap0 f0) (w1 : InBlk w kk1 ss1 hh1 a1 len1 cap1 f1) :
    Calls Try.prog 7 #[.agg #[.int .u64 (kk0 : Int), .int .u32 (ss0 : Int), .int .u8 (hh0 : Int), .slice a0 len0 cap0], .agg #[.int .u64 (kk1 : Int), .int .u32 (ss1 : Int), .int .u8 (hh1 : Int), .slice a1 len1 cap1]] w fun e w' => e = .returned (.bool true) ∧ Below w.heap.size w w' := by
  by_cases h1 : 96 < len0
  · by_cases h2 : 96 < len1
    · exact unlike_ll _ _ _ _ _ _ _ _ _ _ _ _ _ _ w w0 w1 h1 h2
    · exact unlike_ls _ _ _ _ _ _ _ _ _ _ _ _ _ _ w w0 w1 h1 (by omega)
  · by_cases h2 : 96 < len1
    · exact unlike_sl _ _ _ _ _ _ _ _ _ _ _ _ _ _ w w0 w1 (by omega) h2
    · by_cases hk : kk0 = kk1
      · by_cases hs : ss0 = ss1
        · by_cases hh : hh0 = hh1
          · exact unlike_e _ _ _ _ _ _ _ _ _ _ _ _ _ _ w w0 w1 (by omega) (by omega) hk hs hh
          · exact unlike_h _ _ _ _ _ _ _ _ _ _ _ _ _ _ w w0 w1 (by omega) (by omega) hk hs hh
        · exact unlike_s _ _ _ _ _ _ _ _ _ _ _ _ _ _ w w0 w1 (by omega) (by omega) hk hs
      · exact unlike_k _ _ _ _ _ _ _ _ _ _ _ _ _ _ w w0 w1 (by omega) (by omega) hk

set_option maxRecDepth 100000 in
theorem lifted (os : Os) (started : os.Started) (H : Type) (enc : TypeId × Value → H) :
    ReturnsInHanded {} Try.checked os 7 .any (Rows.blockUnlikeSpec.pre6 enc Try.prog Try.f7 Rows.blockUnlikeRow.domain false) (Rows.blockUnlikeSpec.post enc Try.prog Try.f7 false true false false) := by
  refine returnsInHanded_of_change_sized (C := Try.checked) own started (by kernel_rfl) Try.func7
    (ChangeSpec.witness6 (enc := enc) (C := Try.checked) false ⟨#[], #[.agg #[.int .u64 0, .int .u32 0, .int .u8 0, .slice none 0 0], .agg #[.int .u64 0, .int .u32 0, .int .u8 0, .slice none 0 0]], []⟩ 8 (by kernel_rfl) (by kernel_rfl) (by kernel_rfl) (by kernel_rfl)) ?_
  intro W base args ds gs before hval0 hW hcnd hsz0 _
  have hval : ∀ (j : Nat) t v, Try.f7.params[j]? = some t → args[j]? = some v → Value.okWide Try.prog W .any base t v := hval0
  have hW' := hW
  obtain ⟨p, q, hA0, hV, rfl, hfz, hnd⟩ := hW
  have hA : DataW.TrodAll enc Try.prog W 0 (fun _ => true) true Try.f7.params.toList args.toList ds p := hA0
  have hsz : (DataW.weightsEach Try.prog (Try.f7.params.toList ++ Rows.blockUnlikeSpec.plain.varTypes Try.prog) (ds ++ gs)).all (· ≤ reachBytes) = true := hsz0
  rw [Try.params7] at hA hval hsz
  obtain ⟨v0, vs0, d0, ds0, p0, q0, hargs, rfl, rfl, h0, r0⟩ := trodAll_cons hA
  obtain ⟨v1, vs1, d1, ds1, p1, q1, rfl, rfl, rfl, h1, r1⟩ := trodAll_cons r0
  obtain ⟨rfl, rfl, rfl⟩ := trodAll_nil r1
  obtain rfl : args = #[v0, v1] := by cases args; simp_all
  obtain ⟨rfl, rfl⟩ := trodVars_none hV
  have k0 := h0
  have lt0 : ∀ x ∈ p0, x.block < W.heap.size := by obtain ⟨m, hm⟩ := k0; exact DataW.trod_lt m _ _ _ hm
  obtain ⟨kk0, ss0, hh0, a0, len0, cap0, f0, rfl, w0⟩ := open_block (hval 0 26 v0 rfl rfl) h0 (fun x hx => by simpa using List.all_eq_true.1 hsz x (DataW.weights_mem_each (j := 0) (t := 26) rfl rfl x hx))
  have k1 := h1
  have lt1 : ∀ x ∈ p1, x.block < W.heap.size := by obtain ⟨m, hm⟩ := k1; exact DataW.trod_lt m _ _ _ hm
  obtain ⟨kk1, ss1, hh1, a1, len1, cap1, f1, rfl, w1⟩ := open_block (hval 1 26 v1 rfl rfl) h1 (fun x hx => by simpa using List.all_eq_true.1 hsz x (DataW.weights_mem_each (j := 1) (t := 26) rfl rfl x hx))
  clear hA0 hval0
  refine (walk kk0 ss0 hh0 a0 len0 cap0 f0 kk1 ss1 hh1 a1 len1 cap1 f1 W w0 w1).mono fun e W' ⟨he, bel⟩ => ?_
  subst he
  exact ⟨_, rfl, _, _, _, [], _, [], hW', trodAll_mk1 (shut_bool Try.underlying4 _), (trodAll_cons_mk (Below.trod laidOut (by kernel_rfl) (of_decide_eq_true (by kernel_rfl)) k0 bel lt0) (trodAll_cons_mk (Below.trod laidOut (by kernel_rfl) (of_decide_eq_true (by kernel_rfl)) k1 bel lt1) trodAll_mk0)), rfl, bel.frame _, fun h => by cases h⟩

theorem over : Rows.blockUnlikeRow.holds Try.pinned (OpenSpec.ofChange Rows.blockUnlikeSpec) :=
  OpenClaim.holds_of_wide 7 Try.f7 rfl rfl rfl rfl rfl rfl rfl ⟨rfl, rfl, rfl, rfl, rfl⟩ rfl rfl rfl rfl rfl (by kernel_rfl) Try.func7 (by kernel_rfl)
    (of_decide_eq_true (by kernel_rfl)) (by unfold Func.isWrapper; first | (rw [if_pos (by decide +kernel)]; kernel_rfl) | (rw [if_neg (by decide +kernel)]; exact ⟨rfl, rfl⟩))
    (fun os started H enc _ => lifted os started H enc)

theorem proved : Rows.BlockUnlikeSaid := over
#print axioms proved
end Go.Proofs.Ytcnafcoifhdigaa.blockUnlike
