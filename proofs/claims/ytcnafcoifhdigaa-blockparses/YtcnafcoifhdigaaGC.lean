/- Contracts of the document's own Parse and Is, whatever the bytes; a block's bytes there and back. -/
import Derived.Test.YtcnafcoifhdigaaGB
import Derived.Test.YtcnafcoifhdigaaG5
namespace Go.Proofs.Ytcnafcoifhdigaa
open Go.RowKit Go.Deep
set_option linter.unusedVariables false
set_option linter.unusedSimpArgs false

theorem rparse_any (A : Option Addr) (L ca : Nat) (f : Nat → Int) (w : World) (hrow : RowAt w A L f) (hca : L ≤ ca) :
    Calls Try.prog 14 #[.slice A L ca] w fun e w' => ∃ er k s h A' n c, e = blkRet er k s h A' n c ∧ Blk.Says L f er k s h n ∧ RowAt w' A' n (fun i => f (28 + i)) ∧ Bw w w' := by
  by_cases h1 : L = 128
  · subst h1
    obtain ⟨b, o, rfl, -⟩ := hrow.at (k := 0) (by omega)
    by_cases h2 : Blk.Mark f
    · by_cases h3 : Crc.Opens (nb f) 124
      · by_cases h4 : nb f 17 ≤ 96
        · by_cases h5 : ∀ i, i < 10 → f (18 + i) = 0
          · by_cases h6 : ∀ i, i < 96 - nb f 17 → f (28 + nb f 17 + i) = 0
            · exact rparse_ok b o ca f w hrow hca h2 h3 h4 h5 h6
            · exact rparse_no2 b o ca f w hrow hca h2 h3 h4 h5 h6
          · exact rparse_no1 b o ca f w hrow hca h2 h3 h4 h5
        · exact rparse_big b o ca f w hrow hca h2 h3 h4
      · exact rparse_sum b o ca f w hrow hca h2 h3
    · exact rparse_mark b o ca f w hrow hca h2
  · exact rparse_shape A L ca f w hrow h1

set_option maxRecDepth 100000 in
set_option maxHeartbeats 1000000 in
theorem ris_any (A : Option Addr) (L ca : Nat) (f : Nat → Int) (key stripe shard : Nat) (w : World) (hrow : RowAt w A L f) (hca : L ≤ ca) :
    Calls Try.prog 16 #[.slice A L ca, .int .u64 (key : Int), .int .u32 (stripe : Int), .int .u8 (shard : Int)] w fun e w' => Tells e (IsOf L f key stripe shard) ∧ Bw w w' := by
  by_cases hG : Blk.Good L f
  · by_cases hk : Blk.keyOf f = key
    · by_cases hst : Blk.stripeOf f = stripe
      · by_cases hsh : Blk.shardOf f = shard
        · have t2 := eq_true_of hk
          have hkH : Hid (Blk.keyOf f = key) := hk
          clear hk
          have t3 := eq_true_of hst
          have hstH : Hid (Blk.stripeOf f = stripe) := hst
          clear hst
          have t4 := eq_true_of hsh
          have hshH : Hid (Blk.shardOf f = shard) := hsh
          clear hsh
          go_enter Try.func16, Try.ntmps16
          go_wp2_with (first | (go_at_call 14; refine (rparse_any A L ca f _ hrow hca).mono ?_; rintro e w1 ⟨er, k, s, h, A1, n1, c1, rfl, hs1, hrow1, hw1⟩; obtain rfl : er = 0 := (Blk.errs_zero hs1.errs).2 hG; obtain ⟨rfl, rfl, rfl, rfl⟩ := hs1.yes rfl) | (refine wpList_store_row rfl 26 _ _ rfl w1.heap.size (blkCells _ _ _ _ _ _) rfl rfl 26 _ (heap_alloc_new _ _) (blk_info _ _ _ _ _ _) rfl (blk_all _ _ _ _ _ _) ?_; rw [setRow_alloc_new]; unfold blkCells))
          go_ret
          exact ⟨Tells.yes ⟨hG, hkH.out, hstH.out, hshH.out⟩, bw_alloc hw1 _⟩
        · have t2 := eq_true_of hk
          have hkH : Hid (Blk.keyOf f = key) := hk
          clear hk
          have t3 := eq_true_of hst
          have hstH : Hid (Blk.stripeOf f = stripe) := hst
          clear hst
          have t4 := eq_false_of hsh
          go_enter Try.func16, Try.ntmps16
          go_wp2_with (first | (go_at_call 14; refine (rparse_any A L ca f _ hrow hca).mono ?_; rintro e w1 ⟨er, k, s, h, A1, n1, c1, rfl, hs1, hrow1, hw1⟩; obtain rfl : er = 0 := (Blk.errs_zero hs1.errs).2 hG; obtain ⟨rfl, rfl, rfl, rfl⟩ := hs1.yes rfl) | (refine wpList_store_row rfl 26 _ _ rfl w1.heap.size (blkCells _ _ _ _ _ _) rfl rfl 26 _ (heap_alloc_new _ _) (blk_info _ _ _ _ _ _) rfl (blk_all _ _ _ _ _ _) ?_; rw [setRow_alloc_new]; unfold blkCells))
          go_ret
          exact ⟨Tells.no (fun h => hsh h.2.2.2), bw_alloc hw1 _⟩
      · have t2 := eq_true_of hk
        have hkH : Hid (Blk.keyOf f = key) := hk
        clear hk
        have t3 := eq_false_of hst
        go_enter Try.func16, Try.ntmps16
        go_wp2_with (first | (go_at_call 14; refine (rparse_any A L ca f _ hrow hca).mono ?_; rintro e w1 ⟨er, k, s, h, A1, n1, c1, rfl, hs1, hrow1, hw1⟩; obtain rfl : er = 0 := (Blk.errs_zero hs1.errs).2 hG; obtain ⟨rfl, rfl, rfl, rfl⟩ := hs1.yes rfl) | (refine wpList_store_row rfl 26 _ _ rfl w1.heap.size (blkCells _ _ _ _ _ _) rfl rfl 26 _ (heap_alloc_new _ _) (blk_info _ _ _ _ _ _) rfl (blk_all _ _ _ _ _ _) ?_; rw [setRow_alloc_new]; unfold blkCells))
        go_ret
        exact ⟨Tells.no (fun h => hst h.2.2.1), bw_alloc hw1 _⟩
    · have t2 := eq_false_of hk
      go_enter Try.func16, Try.ntmps16
      go_wp2_with (first | (go_at_call 14; refine (rparse_any A L ca f _ hrow hca).mono ?_; rintro e w1 ⟨er, k, s, h, A1, n1, c1, rfl, hs1, hrow1, hw1⟩; obtain rfl : er = 0 := (Blk.errs_zero hs1.errs).2 hG; obtain ⟨rfl, rfl, rfl, rfl⟩ := hs1.yes rfl) | (refine wpList_store_row rfl 26 _ _ rfl w1.heap.size (blkCells _ _ _ _ _ _) rfl rfl 26 _ (heap_alloc_new _ _) (blk_info _ _ _ _ _ _) rfl (blk_all _ _ _ _ _ _) ?_; rw [setRow_alloc_new]; unfold blkCells))
      go_ret
      exact ⟨Tells.no (fun h => hk h.2.1), bw_alloc hw1 _⟩
  · go_enter Try.func16, Try.ntmps16
    go_wp2_with (first | (go_at_call 14; refine (rparse_any A L ca f _ hrow hca).mono ?_; rintro e w1 ⟨er, k, s, h, A1, n1, c1, rfl, hs1, hrow1, hw1⟩; have t1 : (er == 0) = false := (by rw [beq_eq_false_iff_ne]; intro e; exact hG ((Blk.errs_zero hs1.errs).1 e))) | (refine wpList_store_row rfl 26 _ _ rfl w1.heap.size (blkCells _ _ _ _ _ _) rfl rfl 26 _ (heap_alloc_new _ _) (blk_info _ _ _ _ _ _) rfl (blk_all _ _ _ _ _ _) ?_; rw [setRow_alloc_new]; unfold blkCells))
    go_ret
    exact ⟨Tells.no (fun h => hG h.1), bw_alloc hw1 _⟩


theorem seal_lo (f : Nat → Int) {n i : Nat} (h : i < n) : sealF f n i = f i := by unfold sealF; rw [if_pos h]
theorem body_hd (k s h L : Nat) (d : Nat → Int) {i : Nat} (hi : i < 28) : Blk.body k s h L d i = ((Blk.hd k s h L i : Nat) : Int) := by unfold Blk.body; rw [if_pos hi]
theorem nb_seal (k s h L : Nat) (d : Nat → Int) {i : Nat} (hi : i < 28) : nb (sealF (Blk.body k s h L d) 124) i = Blk.hd k s h L i := by
  unfold nb; rw [seal_lo _ (by omega), body_hd k s h L d hi]; exact Int.toNat_natCast _
theorem hd_key (k s h L t : Nat) (ht : t < 8) : Blk.hd k s h L (4 + t) = Blk.byteOf k 8 t := by
  unfold Blk.hd; rw [if_neg (by omega), if_pos (by omega), Nat.add_sub_cancel_left]
theorem hd_stripe (k s h L t : Nat) (ht : t < 4) : Blk.hd k s h L (12 + t) = Blk.byteOf s 4 t := by
  unfold Blk.hd; rw [if_neg (by omega), if_neg (by omega), if_pos (by omega), Nat.add_sub_cancel_left]
/-- a block's bytes are read as it -/
theorem pack_good {k s h L : Nat} {d : Nat → Int} (hk : k < 18446744073709551616) (hs : s < 4294967296) (hL : L ≤ 96) :
    Blk.Good 128 (sealF (Blk.body k s h L d) 124) ∧ Blk.keyOf (sealF (Blk.body k s h L d) 124) = k ∧ Blk.stripeOf (sealF (Blk.body k s h L d) 124) = s ∧ Blk.shardOf (sealF (Blk.body k s h L d) 124) = h ∧ Blk.lenOf (sealF (Blk.body k s h L d) 124) = L ∧ ∀ i, i < L → sealF (Blk.body k s h L d) 124 (28 + i) = d i := by
  have hlen : nb (sealF (Blk.body k s h L d) 124) 17 = L := nb_seal k s h L d (i := 17) (by omega)
  have h17 : sealF (Blk.body k s h L d) 124 17 = (L : Int) := by rw [seal_lo _ (by omega), body_len]
  refine ⟨⟨rfl, ⟨rfl, rfl, rfl, rfl⟩, seal_open _ _, ⟨by rw [h17]; omega, fun i hi hj => ?_, fun i hi hj => ?_⟩⟩, ?_, ?_, nb_seal k s h L d (i := 16) (by omega), hlen, fun i hi => ?_⟩
  · rw [seal_lo _ (by omega), body_nought k s h L d hi hj]
  · rw [hlen] at hi
    rw [seal_lo _ hj, body_tail k s h L d hi]
  · unfold Blk.keyOf
    rw [Blk.num_congr (g := Blk.byteOf k 8) 8 (fun i hi => by rw [nb_seal k s h L d (by omega), hd_key k s h L i hi]), Blk.num_byte hk]
  · unfold Blk.stripeOf
    rw [Blk.num_congr (g := Blk.byteOf s 4) 4 (fun i hi => by rw [nb_seal k s h L d (by omega), hd_stripe k s h L i hi]), Blk.num_byte hs]
  · rw [seal_lo _ (by omega), body_data k s h L d hi]
/-- what is read is written as the same bytes -/
theorem good_body {f : Nat → Int} (hf : ∀ i, 0 ≤ f i ∧ f i < 256) (hg : Blk.Good 128 f) {i : Nat} (hi : i < 124) : Blk.body (Blk.keyOf f) (Blk.stripeOf f) (Blk.shardOf f) (Blk.lenOf f) (fun i => f (28 + i)) i = f i := by
  obtain ⟨-, ⟨m0, m1, m2, m3⟩, -, h17, hz1, hz2⟩ := hg
  have hn := nb_eq hf
  by_cases h1 : i < 4
  · have h4 : i = 0 ∨ i = 1 ∨ i = 2 ∨ i = 3 := by omega
    rcases h4 with rfl | rfl | rfl | rfl
    · rw [m0]; rfl
    · rw [m1]; rfl
    · rw [m2]; rfl
    · rw [m3]; rfl
  by_cases h2 : i < 12
  · obtain ⟨t, rfl⟩ : ∃ t, i = 4 + t := ⟨i - 4, by omega⟩
    rw [body_hd _ _ _ _ _ (by omega), hd_key _ _ _ _ t (by omega), hn (4 + t)]
    unfold Blk.keyOf
    rw [Blk.byte_num (fun i => nb_lt hf _) (by omega)]
  by_cases h3 : i < 16
  · obtain ⟨t, rfl⟩ : ∃ t, i = 12 + t := ⟨i - 12, by omega⟩
    rw [body_hd _ _ _ _ _ (by omega), hd_stripe _ _ _ _ t (by omega), hn (12 + t)]
    unfold Blk.stripeOf
    rw [Blk.byte_num (fun i => nb_lt hf _) (by omega)]
  by_cases h4 : i = 16
  · subst h4; rw [body_shard, hn 16]; rfl
  by_cases h5 : i = 17
  · subst h5; rw [body_len, hn 17]; rfl
  by_cases h6 : i < 28
  · rw [body_nought _ _ _ _ _ (by omega) h6, hz1 i (by omega) h6]
  by_cases h7 : i < 28 + nb f 17
  · obtain ⟨t, rfl⟩ : ∃ t, i = 28 + t := ⟨i - 28, by omega⟩
    rw [body_data _ _ _ _ _ (show t < Blk.lenOf f by unfold Blk.lenOf; omega)]
  · rw [body_tail _ _ _ _ _ (show 28 + Blk.lenOf f ≤ i by unfold Blk.lenOf; omega), hz2 i (by omega) hi]
theorem good_seal {f : Nat → Int} (hf : ∀ i, 0 ≤ f i ∧ f i < 256) (hg : Blk.Good 128 f) {i : Nat} (hi : i < 128) : sealF (Blk.body (Blk.keyOf f) (Blk.stripeOf f) (Blk.shardOf f) (Blk.lenOf f) (fun i => f (28 + i))) 124 i = f i := by
  have e : ∀ j, j < 124 → Blk.body (Blk.keyOf f) (Blk.stripeOf f) (Blk.shardOf f) (Blk.lenOf f) (fun i => f (28 + i)) j = f j := fun j hj => good_body hf hg hj
  have h2 := (seal_opens hf 124).2 hg.2.2.1 i hi
  rw [← h2]
  unfold sealF
  by_cases h : i < 124
  · rw [if_pos h, if_pos h, e i h]
  · rw [if_neg h, if_neg h, Crc.more_congr 124 (g := nb f) (fun j hj => by unfold nb; rw [e j hj])]
theorem good_len {f : Nat → Int} {L : Nat} (hf : ∀ i, 0 ≤ f i ∧ f i < 256) (hg : Blk.Good L f) : Blk.lenOf f ≤ 96 := by
  have := hg.2.2.2.1
  have h2 := nb_eq hf 17
  unfold Blk.lenOf; omega
end Go.Proofs.Ytcnafcoifhdigaa
