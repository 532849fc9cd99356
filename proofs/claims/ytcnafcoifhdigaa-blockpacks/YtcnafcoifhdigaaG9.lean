/- Contracts of the program's Is, and of the document's own Same. -/
import Derived.Test.YtcnafcoifhdigaaG8
namespace Go.Proofs.Ytcnafcoifhdigaa
open Go.RowKit Go.Deep
set_option linter.unusedVariables false
set_option linter.unusedSimpArgs false

/-- bytes that are a block of that key, stripe and shard -/
def IsOf (L : Nat) (f : Nat → Int) (key stripe shard : Nat) : Prop := Blk.Good L f ∧ Blk.keyOf f = key ∧ Blk.stripeOf f = stripe ∧ Blk.shardOf f = shard
theorem blk_zero (w : World) : (zeroValue 26).run Try.prog w = .ok (.agg (blkCells 0 0 0 none 0 0)) w := by kernel_rfl
theorem bw_alloc {w w' : World} (h : Bw w w') (o : Obj) : Bw w (w'.alloc o) := Below.alloc h h.size _
theorem eq_true_of {a b : Nat} (h : a = b) : ((a : Int) == (b : Int)) = true := by rw [beq_iff_eq]; omega
theorem eq_false_of {a b : Nat} (h : ¬ a = b) : ((a : Int) == (b : Int)) = false := by rw [beq_eq_false_iff_ne]; omega

set_option maxRecDepth 100000 in
set_option maxHeartbeats 1000000 in
theorem is_any (A : Option Addr) (L ca : Nat) (f : Nat → Int) (key stripe shard : Nat) (w : World) (hrow : RowAt w A L f) (hca : L ≤ ca) :
    Calls Try.prog 13 #[.slice A L ca, .int .u64 (key : Int), .int .u32 (stripe : Int), .int .u8 (shard : Int)] w fun e w' => Tells e (IsOf L f key stripe shard) ∧ Bw w w' := by
  by_cases hG : Blk.Good L f
  · by_cases hk : Blk.keyOf f = key
    · by_cases hst : Blk.stripeOf f = stripe
      · by_cases hsh : Blk.shardOf f = shard
        · have t2 := eq_true_of hk
          have hkH : Hid (Blk.keyOf f = key) := hk
          clear hk
          have t3 := eq_true_of hst
          have hstH : Hid (Blk.stripeOf f = stripe) := hst
          clear hst
          have t4 := eq_true_of hsh
          have hshH : Hid (Blk.shardOf f = shard) := hsh
          clear hsh
          go_enter Try.func13, Try.ntmps13
          go_wp2_with (first | (go_at_call 12; refine (parse_any A L ca f _ hrow hca).mono ?_; rintro e w1 ⟨er, k, s, h, A1, n1, c1, rfl, hs1, hrow1, -, -, hw1⟩; obtain rfl : er = 0 := (Blk.errs_zero hs1.errs).2 hG; obtain ⟨rfl, rfl, rfl, rfl⟩ := hs1.yes rfl) | (refine wpList_store_row rfl 26 _ _ rfl w1.heap.size (blkCells _ _ _ _ _ _) rfl rfl 26 _ (heap_alloc_new _ _) (blk_info _ _ _ _ _ _) rfl (blk_all _ _ _ _ _ _) ?_; rw [setRow_alloc_new]; unfold blkCells))
          go_ret
          exact ⟨Tells.yes ⟨hG, hkH.out, hstH.out, hshH.out⟩, bw_alloc hw1 _⟩
        · have t2 := eq_true_of hk
          have hkH : Hid (Blk.keyOf f = key) := hk
          clear hk
          have t3 := eq_true_of hst
          have hstH : Hid (Blk.stripeOf f = stripe) := hst
          clear hst
          have t4 := eq_false_of hsh
          go_enter Try.func13, Try.ntmps13
          go_wp2_with (first | (go_at_call 12; refine (parse_any A L ca f _ hrow hca).mono ?_; rintro e w1 ⟨er, k, s, h, A1, n1, c1, rfl, hs1, hrow1, -, -, hw1⟩; obtain rfl : er = 0 := (Blk.errs_zero hs1.errs).2 hG; obtain ⟨rfl, rfl, rfl, rfl⟩ := hs1.yes rfl) | (refine wpList_store_row rfl 26 _ _ rfl w1.heap.size (blkCells _ _ _ _ _ _) rfl rfl 26 _ (heap_alloc_new _ _) (blk_info _ _ _ _ _ _) rfl (blk_all _ _ _ _ _ _) ?_; rw [setRow_alloc_new]; unfold blkCells))
          go_ret
          exact ⟨Tells.no (fun h => hsh h.2.2.2), bw_alloc hw1 _⟩
      · have t2 := eq_true_of hk
        have hkH : Hid (Blk.keyOf f = key) := hk
        clear hk
        have t3 := eq_false_of hst
        go_enter Try.func13, Try.ntmps13
        go_wp2_with (first | (go_at_call 12; refine (parse_any A L ca f _ hrow hca).mono ?_; rintro e w1 ⟨er, k, s, h, A1, n1, c1, rfl, hs1, hrow1, -, -, hw1⟩; obtain rfl : er = 0 := (Blk.errs_zero hs1.errs).2 hG; obtain ⟨rfl, rfl, rfl, rfl⟩ := hs1.yes rfl) | (refine wpList_store_row rfl 26 _ _ rfl w1.heap.size (blkCells _ _ _ _ _ _) rfl rfl 26 _ (heap_alloc_new _ _) (blk_info _ _ _ _ _ _) rfl (blk_all _ _ _ _ _ _) ?_; rw [setRow_alloc_new]; unfold blkCells))
        go_ret
        exact ⟨Tells.no (fun h => hst h.2.2.1), bw_alloc hw1 _⟩
    · have t2 := eq_false_of hk
      go_enter Try.func13, Try.ntmps13
      go_wp2_with (first | (go_at_call 12; refine (parse_any A L ca f _ hrow hca).mono ?_; rintro e w1 ⟨er, k, s, h, A1, n1, c1, rfl, hs1, hrow1, -, -, hw1⟩; obtain rfl : er = 0 := (Blk.errs_zero hs1.errs).2 hG; obtain ⟨rfl, rfl, rfl, rfl⟩ := hs1.yes rfl) | (refine wpList_store_row rfl 26 _ _ rfl w1.heap.size (blkCells _ _ _ _ _ _) rfl rfl 26 _ (heap_alloc_new _ _) (blk_info _ _ _ _ _ _) rfl (blk_all _ _ _ _ _ _) ?_; rw [setRow_alloc_new]; unfold blkCells))
      go_ret
      exact ⟨Tells.no (fun h => hk h.2.1), bw_alloc hw1 _⟩
  · go_enter Try.func13, Try.ntmps13
    go_wp2_with (first | (go_at_call 12; refine (parse_any A L ca f _ hrow hca).mono ?_; rintro e w1 ⟨er, k, s, h, A1, n1, c1, rfl, hs1, hrow1, -, -, hw1⟩; have t1 : (er == 0) = false := (by rw [beq_eq_false_iff_ne]; intro e; exact hG ((Blk.errs_zero hs1.errs).1 e))) | (refine wpList_store_row rfl 26 _ _ rfl w1.heap.size (blkCells _ _ _ _ _ _) rfl rfl 26 _ (heap_alloc_new _ _) (blk_info _ _ _ _ _ _) rfl (blk_all _ _ _ _ _ _) ?_; rw [setRow_alloc_new]; unfold blkCells))
    go_ret
    exact ⟨Tells.no (fun h => hG h.1), bw_alloc hw1 _⟩

/-- two blocks are alike -/
def SameB (k s h k' s' h' : Nat) (n n' : Nat) (d d' : Nat → Int) : Prop := k = k' ∧ s = s' ∧ h = h' ∧ n = n' ∧ ∀ i, i < n → d i = d' i
set_option maxRecDepth 100000 in
theorem same_any (k s h k' s' h' : Nat) (A A' : Option Addr) (n n' c c' : Nat) (d d' : Nat → Int) (w : World) (hr : RowAt w A n d) (hr' : RowAt w A' n' d') :
    Calls Try.prog 15 #[.agg (blkCells (k : Int) (s : Int) (h : Int) A n c), .agg (blkCells (k' : Int) (s' : Int) (h' : Int) A' n' c')] w fun e w' => Tells e (SameB k s h k' s' h' n n' d d') ∧ Bw w w' := by
  have hal : Bw w ((w.alloc (.cells #[.int .u64 (k : Int), .int .u32 (s : Int), .int .u8 (h : Int), .slice A n c] 26)).alloc (.cells #[.int .u64 (k' : Int), .int .u32 (s' : Int), .int .u8 (h' : Int), .slice A' n' c'] 26)) := bw_alloc (bw_alloc (Bw.refl _) _) _
  have hv := conv_row (C := c) (hr.keep hal)
  have hv' := conv_row (C := c') (hr'.keep hal)
  obtain ⟨X, hX⟩ : ∃ X, Hid (X = str d n) := ⟨_, rfl⟩
  obtain ⟨Y, hY⟩ : ∃ Y, Hid (Y = str d' n') := ⟨_, rfl⟩
  rw [← hX.out] at hv
  rw [← hY.out] at hv'
  have hXY : Hid (X.toList = Y.toList ↔ n = n' ∧ ∀ i, i < n → d i = d' i) := by show _ ↔ _; rw [hX.out, hY.out]; exact str_inj hr.2 hr'.2
  unfold blkCells
  by_cases h1 : k = k'
  · have t1 := eq_true_of h1
    have h1' : Hid (k = k') := h1
    clear h1
    by_cases h2 : s = s'
    · have t2 := eq_true_of h2
      have h2' : Hid (s = s') := h2
      clear h2
      by_cases h3 : h = h'
      · have t3 := eq_true_of h3
        have h3' : Hid (h = h') := h3
        clear h3
        by_cases h4 : X.toList = Y.toList
        · have t4 : (X.toList == Y.toList) = true := by rw [beq_iff_eq]; exact h4
          have h4' : Hid (X.toList = Y.toList) := h4
          clear h4
          go_enter Try.func15, Try.ntmps15
          go_wp2
          go_ret
          exact ⟨Tells.yes ⟨h1'.out, h2'.out, h3'.out, hXY.out.1 h4'.out⟩, hal⟩
        · have t4 : (X.toList == Y.toList) = false := by rw [beq_eq_false_iff_ne]; exact h4
          have h4' : Hid (¬ X.toList = Y.toList) := h4
          clear h4
          go_enter Try.func15, Try.ntmps15
          go_wp2
          go_ret
          exact ⟨Tells.no (fun h => h4'.out (hXY.out.2 h.2.2.2)), hal⟩
      · have t3 := eq_false_of h3
        go_enter Try.func15, Try.ntmps15
        go_wp2
        go_ret
        exact ⟨Tells.no (fun h => h3 h.2.2.1), hal⟩
    · have t2 := eq_false_of h2
      go_enter Try.func15, Try.ntmps15
      go_wp2
      go_ret
      exact ⟨Tells.no (fun h => h2 h.2.1), hal⟩
  · have t1 := eq_false_of h1
    go_enter Try.func15, Try.ntmps15
    go_wp2
    go_ret
    exact ⟨Tells.no (fun h => h1 h.1), hal⟩
end Go.Proofs.Ytcnafcoifhdigaa
