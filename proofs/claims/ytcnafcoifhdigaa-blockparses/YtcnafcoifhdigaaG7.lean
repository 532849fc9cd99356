/- The contract of the program's read. -/
import Derived.Test.YtcnafcoifhdigaaG6
namespace Go.Proofs.Ytcnafcoifhdigaa
open Go.RowKit Go.Deep
set_option linter.unusedVariables false
set_option linter.unusedSimpArgs false

set_option maxRecDepth 100000 in
set_option maxHeartbeats 2000000 in
theorem read_big (b o : Nat) (f : Nat → Int) (w : World) (hrow : RowAt w (some ⟨b, o, none⟩) 124 f) (h17 : 96 < nb f 17) :
    Calls Try.prog 22 #[.slice (some ⟨b, o, none⟩) 124 124] w fun e w' => e = .returned (.tuple #[.agg (blkCells 0 0 0 none 0 0), .int .i64 62]) ∧ Bw w w' := by
  obtain ⟨W0, hW0⟩ : ∃ W0, W0 = w.alloc (.cells #[.int .u64 0, .int .u32 0, .int .u8 0, .slice none 0 0] 26) := ⟨_, rfl⟩
  have hal : Bw w W0 := by rw [hW0]; exact Below.alloc (Bw.refl _) (Nat.le_refl _) _
  have hB0 : BlkAt W0 w.heap.size 0 0 0 none 0 0 := by rw [hW0]; exact heap_alloc_new _ _
  have hrow0 := hrow.keep hal
  obtain ⟨K, hK⟩ : ∃ K, Hid (K = Blk.num (nb fun i => f (4 + i)) 8) := ⟨_, rfl⟩
  obtain ⟨S, hS⟩ : ∃ S, Hid (S = Blk.num (nb fun i => f (12 + i)) 4) := ⟨_, rfl⟩
  obtain ⟨H, hH⟩ : ∃ H, Hid (H = nb f 16) := ⟨_, rfl⟩
  obtain ⟨N, hN⟩ : ∃ N, Hid (N = nb f 17) := ⟨_, rfl⟩
  have hKl : K < 18446744073709551616 := by rw [hK.out]; exact Blk.num_lt64 (fun i => nb_lt (fun i => hrow.2 _) i) (by omega)
  have hSl : S < 4294967296 := by rw [hS.out]; exact Blk.num_lt (fun i => nb_lt (fun i => hrow.2 _) i) 4
  have hHl : H < 256 := by rw [hH.out]; exact nb_lt hrow.2 16
  have hNl : N < 256 := by rw [hN.out]; exact nb_lt hrow.2 17
  have h17' : (96 : Int) < (N : Int) := by have := hN.out; omega
  go_enter Try.func22, Try.ntmps22
  go_wp2_with (go_at_call 29; rw [← hW0]; clear hW0; refine (pieces_any b (o + 4) 120 _).mono ?_; rintro e w1 ⟨rfl, hf1, hw1⟩)
  go_wp2_with (go_at_call 33; refine (piece_at _ _ b (o + 4) (120) 8 rfl (by omega) (by omega) _ hf1).mono ?_; rintro e w2 ⟨o2, rfl, ho2, hf2, hx2⟩; have hw2 : Bw W0 w2 := Below.trans hw1 (hx2.below hw1.size (fun b e => by rw [e]; exact Nat.le_refl _)); have hr2 := RowAt.sub (o' := o2) (hrow0.keep hw2) (p := 4) (m := 8) (by omega) (by omega); clear hf1 hx2 hw1 ho2)
  go_wp2_with (go_at_call 20; refine (number_any _ 8 8 _ (by omega) _ hr2).mono ?_; rintro e w' ⟨rfl, hw'⟩; subst w'; rw [← hK.out]; clear hr2)
  go_wp2_with (go_at_call 33; refine (piece_at _ _ b (o + 4 + 8) (120 - 8) 4 rfl (by omega) (by omega) _ hf2).mono ?_; rintro e w3 ⟨o3, rfl, ho3, hf3, hx3⟩; have hw3 : Bw W0 w3 := Below.trans hw2 (hx3.below hw2.size (fun b e => by rw [e]; exact Nat.le_refl _)); have hr3 := RowAt.sub (o' := o3) (hrow0.keep hw3) (p := 12) (m := 4) (by omega) (by omega); clear hf2 hx3 hw2 ho3)
  go_wp2_with (go_at_call 20; refine (number_any _ 4 4 _ (by omega) _ hr3).mono ?_; rintro e w' ⟨rfl, hw'⟩; subst w'; rw [← hS.out]; clear hr3)
  go_wp2_with (go_at_call 33; refine (piece_at _ _ b (o + 4 + 8 + 4) (120 - 8 - 4) 1 rfl (by omega) (by omega) _ hf3).mono ?_; rintro e w4 ⟨o4, rfl, ho4, hf4, hx4⟩; have hw4 : Bw W0 w4 := Below.trans hw3 (hx4.below hw3.size (fun b e => by rw [e]; exact Nat.le_refl _)); have hr4 := RowAt.sub (o' := o4) (hrow0.keep hw4) (p := 16) (m := 1) (by omega) (by omega); clear hf3 hx4 hw3 ho4)
  go_wp2_with (go_at_call 20; refine (number_any _ 1 1 _ (by omega) _ hr4).mono ?_; rintro e w' ⟨rfl, hw'⟩; subst w'; rw [num_one, ← hH.out]; clear hr4)
  go_wp2_with (go_at_call 33; refine (piece_at _ _ b (o + 4 + 8 + 4 + 1) (120 - 8 - 4 - 1) 1 rfl (by omega) (by omega) _ hf4).mono ?_; rintro e w5 ⟨o5, rfl, ho5, hf5, hx5⟩; have hw5 : Bw W0 w5 := Below.trans hw4 (hx5.below hw4.size (fun b e => by rw [e]; exact Nat.le_refl _)); have hr5 := RowAt.sub (o' := o5) (hrow0.keep hw5) (p := 17) (m := 1) (by omega) (by omega); clear hf4 hx5 hw4 ho5)
  go_wp2_with (go_at_call 20; refine (number_any _ 1 1 _ (by omega) _ hr5).mono ?_; rintro e w' ⟨rfl, hw'⟩; subst w'; rw [num_one, ← hN.out]; clear hr5)
  go_wp2_with (first | (go_at_call 33; refine (piece_at _ _ b (o + 4 + 8 + 4 + 1 + 1) (120 - 8 - 4 - 1 - 1) 10 rfl (by omega) (by omega) _ hf5).mono ?_; rintro e w6 ⟨o6, rfl, ho6, hf6, hx6⟩; have hw6 : Bw W0 w6 := Below.trans hw5 (hx6.below hw5.size (fun b e => by rw [e]; exact Nat.le_refl _)); have hr6 := RowAt.sub (o' := o6) (hrow0.keep hw6) (p := 18) (m := 10) (by omega) (by omega); clear hf5 hx6 hw5 ho6; have hB6 := (hw6.block _ (Array.getElem?_eq_some_iff.1 hB0).1).trans hB0) | (refine wpList_store_row rfl 26 _ _ rfl w.heap.size (blkCells 0 0 0 none 0 0) rfl rfl 26 _ hB6 (blk_info _ _ _ _ _ _) rfl (blk_all _ _ _ _ _ _) ?_))
  try simp only [Exit.inBlock, Exit.then]
  refine bodyPost_ret (results_row_tmp (p := 2) (u := 3) (by rfl) _ _ w.heap.size 26 (blkCells 0 0 0 none 0 0) (0, 0) _ (by rfl) (setRow_heap _ _ _ _ _ _ hB6) Try.underlying26 rfl (blk_info _ _ _ _ _ _)) rfl ?_
  exact ⟨rfl, bw_setRow (hal.trans hw6) (Nat.le_refl _) _⟩

set_option maxRecDepth 100000 in
set_option maxHeartbeats 2000000 in
theorem read_no1 (b o : Nat) (f : Nat → Int) (w : World) (hrow : RowAt w (some ⟨b, o, none⟩) 124 f) (h17 : nb f 17 ≤ 96) (hz1 : ¬ ∀ i, i < 10 → f (18 + i) = 0) :
    Calls Try.prog 22 #[.slice (some ⟨b, o, none⟩) 124 124] w fun e w' => e = .returned (.tuple #[.agg (blkCells 0 0 0 none 0 0), .int .i64 62]) ∧ Bw w w' := by
  obtain ⟨W0, hW0⟩ : ∃ W0, W0 = w.alloc (.cells #[.int .u64 0, .int .u32 0, .int .u8 0, .slice none 0 0] 26) := ⟨_, rfl⟩
  have hal : Bw w W0 := by rw [hW0]; exact Below.alloc (Bw.refl _) (Nat.le_refl _) _
  have hB0 : BlkAt W0 w.heap.size 0 0 0 none 0 0 := by rw [hW0]; exact heap_alloc_new _ _
  have hrow0 := hrow.keep hal
  obtain ⟨K, hK⟩ : ∃ K, Hid (K = Blk.num (nb fun i => f (4 + i)) 8) := ⟨_, rfl⟩
  obtain ⟨S, hS⟩ : ∃ S, Hid (S = Blk.num (nb fun i => f (12 + i)) 4) := ⟨_, rfl⟩
  obtain ⟨H, hH⟩ : ∃ H, Hid (H = nb f 16) := ⟨_, rfl⟩
  obtain ⟨N, hN⟩ : ∃ N, Hid (N = nb f 17) := ⟨_, rfl⟩
  have hKl : K < 18446744073709551616 := by rw [hK.out]; exact Blk.num_lt64 (fun i => nb_lt (fun i => hrow.2 _) i) (by omega)
  have hSl : S < 4294967296 := by rw [hS.out]; exact Blk.num_lt (fun i => nb_lt (fun i => hrow.2 _) i) 4
  have hHl : H < 256 := by rw [hH.out]; exact nb_lt hrow.2 16
  have hNl : N < 256 := by rw [hN.out]; exact nb_lt hrow.2 17
  have h17' : ¬ (96 : Int) < (N : Int) := by have := hN.out; omega
  have hcS := conv_u32 S hSl
  have hcH := conv_u8 H hHl
  have hNle : N ≤ 96 := by have := hN.out; omega
  obtain ⟨M, hM⟩ : ∃ M, Hid (M = 96 - N) := ⟨_, rfl⟩
  have hM1 : N + M ≤ 96 := by have := hM.out; omega
  have hM2 : 96 ≤ N + M := by have := hM.out; omega
  have hN96 : (96 : Int) - (N : Int) = (M : Int) := by omega
  go_enter Try.func22, Try.ntmps22
  go_wp2_with (go_at_call 29; rw [← hW0]; clear hW0; refine (pieces_any b (o + 4) 120 _).mono ?_; rintro e w1 ⟨rfl, hf1, hw1⟩)
  go_wp2_with (go_at_call 33; refine (piece_at _ _ b (o + 4) (120) 8 rfl (by omega) (by omega) _ hf1).mono ?_; rintro e w2 ⟨o2, rfl, ho2, hf2, hx2⟩; have hw2 : Bw W0 w2 := Below.trans hw1 (hx2.below hw1.size (fun b e => by rw [e]; exact Nat.le_refl _)); have hr2 := RowAt.sub (o' := o2) (hrow0.keep hw2) (p := 4) (m := 8) (by omega) (by omega); clear hf1 hx2 hw1 ho2)
  go_wp2_with (go_at_call 20; refine (number_any _ 8 8 _ (by omega) _ hr2).mono ?_; rintro e w' ⟨rfl, hw'⟩; subst w'; rw [← hK.out]; clear hr2)
  go_wp2_with (go_at_call 33; refine (piece_at _ _ b (o + 4 + 8) (120 - 8) 4 rfl (by omega) (by omega) _ hf2).mono ?_; rintro e w3 ⟨o3, rfl, ho3, hf3, hx3⟩; have hw3 : Bw W0 w3 := Below.trans hw2 (hx3.below hw2.size (fun b e => by rw [e]; exact Nat.le_refl _)); have hr3 := RowAt.sub (o' := o3) (hrow0.keep hw3) (p := 12) (m := 4) (by omega) (by omega); clear hf2 hx3 hw2 ho3)
  go_wp2_with (go_at_call 20; refine (number_any _ 4 4 _ (by omega) _ hr3).mono ?_; rintro e w' ⟨rfl, hw'⟩; subst w'; rw [← hS.out]; clear hr3)
  go_wp2_with (go_at_call 33; refine (piece_at _ _ b (o + 4 + 8 + 4) (120 - 8 - 4) 1 rfl (by omega) (by omega) _ hf3).mono ?_; rintro e w4 ⟨o4, rfl, ho4, hf4, hx4⟩; have hw4 : Bw W0 w4 := Below.trans hw3 (hx4.below hw3.size (fun b e => by rw [e]; exact Nat.le_refl _)); have hr4 := RowAt.sub (o' := o4) (hrow0.keep hw4) (p := 16) (m := 1) (by omega) (by omega); clear hf3 hx4 hw3 ho4)
  go_wp2_with (go_at_call 20; refine (number_any _ 1 1 _ (by omega) _ hr4).mono ?_; rintro e w' ⟨rfl, hw'⟩; subst w'; rw [num_one, ← hH.out]; clear hr4)
  go_wp2_with (go_at_call 33; refine (piece_at _ _ b (o + 4 + 8 + 4 + 1) (120 - 8 - 4 - 1) 1 rfl (by omega) (by omega) _ hf4).mono ?_; rintro e w5 ⟨o5, rfl, ho5, hf5, hx5⟩; have hw5 : Bw W0 w5 := Below.trans hw4 (hx5.below hw4.size (fun b e => by rw [e]; exact Nat.le_refl _)); have hr5 := RowAt.sub (o' := o5) (hrow0.keep hw5) (p := 17) (m := 1) (by omega) (by omega); clear hf4 hx5 hw4 ho5)
  go_wp2_with (go_at_call 20; refine (number_any _ 1 1 _ (by omega) _ hr5).mono ?_; rintro e w' ⟨rfl, hw'⟩; subst w'; rw [num_one, ← hN.out]; clear hr5)
  go_wp2_with (go_at_call 33; refine (piece_at _ _ b (o + 4 + 8 + 4 + 1 + 1) (120 - 8 - 4 - 1 - 1) 10 rfl (by omega) (by omega) _ hf5).mono ?_; rintro e w6 ⟨o6, rfl, ho6, hf6, hx6⟩; have hw6 : Bw W0 w6 := Below.trans hw5 (hx6.below hw5.size (fun b e => by rw [e]; exact Nat.le_refl _)); have hr6 := RowAt.sub (o' := o6) (hrow0.keep hw6) (p := 18) (m := 10) (by omega) (by omega); clear hf5 hx6 hw5)
  go_wp2_with (go_at_call 33; refine (piece_at _ _ b (o + 4 + 8 + 4 + 1 + 1 + 10) (120 - 8 - 4 - 1 - 1 - 10) N rfl (by omega) (by omega) _ hf6).mono ?_; rintro e w7 ⟨o7, rfl, ho7, hf7, hx7⟩; have hw7 : Bw W0 w7 := Below.trans hw6 (hx7.below hw6.size (fun b e => by rw [e]; exact Nat.le_refl _)); have hr7 := RowAt.sub (o' := o7) (hrow0.keep hw7) (p := 28) (m := N) (by omega) (by omega); clear hf6 hx7 hw6 hr6)
  go_wp2_with (first | (go_at_call 33; refine (piece_at _ _ b (o + 4 + 8 + 4 + 1 + 1 + 10 + N) (120 - 8 - 4 - 1 - 1 - 10 - N) M rfl (by omega) (by omega) _ hf7).mono ?_; rintro e w8 ⟨o8, rfl, ho8, hf8, hx8⟩; have hw8 : Bw W0 w8 := Below.trans hw7 (hx8.below hw7.size (fun b e => by rw [e]; exact Nat.le_refl _)); have hr8 := RowAt.sub (o' := o8) (hrow0.keep hw8) (p := (28 + N)) (m := M) (by omega) (by omega); have hr6' := RowAt.sub (o' := o6) (hrow0.keep hw8) (p := 18) (m := 10) (by omega) (by omega); have ho7' : Hid (o7 = o + 28 ∨ N = 0) := (by show _ ∨ _; omega); clear hf7 hx8 hw7 ho8; have hB8 := (hw8.block _ (Array.getElem?_eq_some_iff.1 hB0).1).trans hB0) | (go_at_call_of 30 o6; refine (noughts_blk _ 10 10 _ (by omega) _ hr6').mono ?_; rintro e w' ⟨⟨x, rfl, hx⟩, hw'⟩; subst w'; obtain rfl : x = false := by cases x; rfl; exact absurd (hx.1 rfl) hz1) | (refine wpList_store_row rfl 26 _ _ rfl w.heap.size (blkCells 0 0 0 none 0 0) rfl rfl 26 _ hB8 (blk_info _ _ _ _ _ _) rfl (blk_all _ _ _ _ _ _) ?_))
  try simp only [Exit.inBlock, Exit.then]
  refine bodyPost_ret (results_row_tmp (p := 2) (u := 3) (by rfl) _ _ w.heap.size 26 (blkCells 0 0 0 none 0 0) (0, 0) _ (by rfl) (setRow_heap _ _ _ _ _ _ hB8) Try.underlying26 rfl (blk_info _ _ _ _ _ _)) rfl ?_
  exact ⟨rfl, bw_setRow (hal.trans hw8) (Nat.le_refl _) _⟩

set_option maxRecDepth 100000 in
set_option maxHeartbeats 2000000 in
theorem read_no2 (b o : Nat) (f : Nat → Int) (w : World) (hrow : RowAt w (some ⟨b, o, none⟩) 124 f) (h17 : nb f 17 ≤ 96) (hz1 : ∀ i, i < 10 → f (18 + i) = 0) (hz2 : ¬ ∀ i, i < 96 - nb f 17 → f (28 + nb f 17 + i) = 0) :
    Calls Try.prog 22 #[.slice (some ⟨b, o, none⟩) 124 124] w fun e w' => e = .returned (.tuple #[.agg (blkCells 0 0 0 none 0 0), .int .i64 62]) ∧ Bw w w' := by
  obtain ⟨W0, hW0⟩ : ∃ W0, W0 = w.alloc (.cells #[.int .u64 0, .int .u32 0, .int .u8 0, .slice none 0 0] 26) := ⟨_, rfl⟩
  have hal : Bw w W0 := by rw [hW0]; exact Below.alloc (Bw.refl _) (Nat.le_refl _) _
  have hB0 : BlkAt W0 w.heap.size 0 0 0 none 0 0 := by rw [hW0]; exact heap_alloc_new _ _
  have hrow0 := hrow.keep hal
  obtain ⟨K, hK⟩ : ∃ K, Hid (K = Blk.num (nb fun i => f (4 + i)) 8) := ⟨_, rfl⟩
  obtain ⟨S, hS⟩ : ∃ S, Hid (S = Blk.num (nb fun i => f (12 + i)) 4) := ⟨_, rfl⟩
  obtain ⟨H, hH⟩ : ∃ H, Hid (H = nb f 16) := ⟨_, rfl⟩
  obtain ⟨N, hN⟩ : ∃ N, Hid (N = nb f 17) := ⟨_, rfl⟩
  have hKl : K < 18446744073709551616 := by rw [hK.out]; exact Blk.num_lt64 (fun i => nb_lt (fun i => hrow.2 _) i) (by omega)
  have hSl : S < 4294967296 := by rw [hS.out]; exact Blk.num_lt (fun i => nb_lt (fun i => hrow.2 _) i) 4
  have hHl : H < 256 := by rw [hH.out]; exact nb_lt hrow.2 16
  have hNl : N < 256 := by rw [hN.out]; exact nb_lt hrow.2 17
  have h17' : ¬ (96 : Int) < (N : Int) := by have := hN.out; omega
  have hcS := conv_u32 S hSl
  have hcH := conv_u8 H hHl
  have hNle : N ≤ 96 := by have := hN.out; omega
  obtain ⟨M, hM⟩ : ∃ M, Hid (M = 96 - N) := ⟨_, rfl⟩
  have hM1 : N + M ≤ 96 := by have := hM.out; omega
  have hM2 : 96 ≤ N + M := by have := hM.out; omega
  have hN96 : (96 : Int) - (N : Int) = (M : Int) := by omega
  rw [← hN.out, ← hM.out] at hz2
  go_enter Try.func22, Try.ntmps22
  go_wp2_with (go_at_call 29; rw [← hW0]; clear hW0; refine (pieces_any b (o + 4) 120 _).mono ?_; rintro e w1 ⟨rfl, hf1, hw1⟩)
  go_wp2_with (go_at_call 33; refine (piece_at _ _ b (o + 4) (120) 8 rfl (by omega) (by omega) _ hf1).mono ?_; rintro e w2 ⟨o2, rfl, ho2, hf2, hx2⟩; have hw2 : Bw W0 w2 := Below.trans hw1 (hx2.below hw1.size (fun b e => by rw [e]; exact Nat.le_refl _)); have hr2 := RowAt.sub (o' := o2) (hrow0.keep hw2) (p := 4) (m := 8) (by omega) (by omega); clear hf1 hx2 hw1 ho2)
  go_wp2_with (go_at_call 20; refine (number_any _ 8 8 _ (by omega) _ hr2).mono ?_; rintro e w' ⟨rfl, hw'⟩; subst w'; rw [← hK.out]; clear hr2)
  go_wp2_with (go_at_call 33; refine (piece_at _ _ b (o + 4 + 8) (120 - 8) 4 rfl (by omega) (by omega) _ hf2).mono ?_; rintro e w3 ⟨o3, rfl, ho3, hf3, hx3⟩; have hw3 : Bw W0 w3 := Below.trans hw2 (hx3.below hw2.size (fun b e => by rw [e]; exact Nat.le_refl _)); have hr3 := RowAt.sub (o' := o3) (hrow0.keep hw3) (p := 12) (m := 4) (by omega) (by omega); clear hf2 hx3 hw2 ho3)
  go_wp2_with (go_at_call 20; refine (number_any _ 4 4 _ (by omega) _ hr3).mono ?_; rintro e w' ⟨rfl, hw'⟩; subst w'; rw [← hS.out]; clear hr3)
  go_wp2_with (go_at_call 33; refine (piece_at _ _ b (o + 4 + 8 + 4) (120 - 8 - 4) 1 rfl (by omega) (by omega) _ hf3).mono ?_; rintro e w4 ⟨o4, rfl, ho4, hf4, hx4⟩; have hw4 : Bw W0 w4 := Below.trans hw3 (hx4.below hw3.size (fun b e => by rw [e]; exact Nat.le_refl _)); have hr4 := RowAt.sub (o' := o4) (hrow0.keep hw4) (p := 16) (m := 1) (by omega) (by omega); clear hf3 hx4 hw3 ho4)
  go_wp2_with (go_at_call 20; refine (number_any _ 1 1 _ (by omega) _ hr4).mono ?_; rintro e w' ⟨rfl, hw'⟩; subst w'; rw [num_one, ← hH.out]; clear hr4)
  go_wp2_with (go_at_call 33; refine (piece_at _ _ b (o + 4 + 8 + 4 + 1) (120 - 8 - 4 - 1) 1 rfl (by omega) (by omega) _ hf4).mono ?_; rintro e w5 ⟨o5, rfl, ho5, hf5, hx5⟩; have hw5 : Bw W0 w5 := Below.trans hw4 (hx5.below hw4.size (fun b e => by rw [e]; exact Nat.le_refl _)); have hr5 := RowAt.sub (o' := o5) (hrow0.keep hw5) (p := 17) (m := 1) (by omega) (by omega); clear hf4 hx5 hw4 ho5)
  go_wp2_with (go_at_call 20; refine (number_any _ 1 1 _ (by omega) _ hr5).mono ?_; rintro e w' ⟨rfl, hw'⟩; subst w'; rw [num_one, ← hN.out]; clear hr5)
  go_wp2_with (go_at_call 33; refine (piece_at _ _ b (o + 4 + 8 + 4 + 1 + 1) (120 - 8 - 4 - 1 - 1) 10 rfl (by omega) (by omega) _ hf5).mono ?_; rintro e w6 ⟨o6, rfl, ho6, hf6, hx6⟩; have hw6 : Bw W0 w6 := Below.trans hw5 (hx6.below hw5.size (fun b e => by rw [e]; exact Nat.le_refl _)); have hr6 := RowAt.sub (o' := o6) (hrow0.keep hw6) (p := 18) (m := 10) (by omega) (by omega); clear hf5 hx6 hw5)
  go_wp2_with (go_at_call 33; refine (piece_at _ _ b (o + 4 + 8 + 4 + 1 + 1 + 10) (120 - 8 - 4 - 1 - 1 - 10) N rfl (by omega) (by omega) _ hf6).mono ?_; rintro e w7 ⟨o7, rfl, ho7, hf7, hx7⟩; have hw7 : Bw W0 w7 := Below.trans hw6 (hx7.below hw6.size (fun b e => by rw [e]; exact Nat.le_refl _)); have hr7 := RowAt.sub (o' := o7) (hrow0.keep hw7) (p := 28) (m := N) (by omega) (by omega); clear hf6 hx7 hw6 hr6)
  go_wp2_with (first | (go_at_call 33; refine (piece_at _ _ b (o + 4 + 8 + 4 + 1 + 1 + 10 + N) (120 - 8 - 4 - 1 - 1 - 10 - N) M rfl (by omega) (by omega) _ hf7).mono ?_; rintro e w8 ⟨o8, rfl, ho8, hf8, hx8⟩; have hw8 : Bw W0 w8 := Below.trans hw7 (hx8.below hw7.size (fun b e => by rw [e]; exact Nat.le_refl _)); have hr8 := RowAt.sub (o' := o8) (hrow0.keep hw8) (p := (28 + N)) (m := M) (by omega) (by omega); have hr6' := RowAt.sub (o' := o6) (hrow0.keep hw8) (p := 18) (m := 10) (by omega) (by omega); have ho7' : Hid (o7 = o + 28 ∨ N = 0) := (by show _ ∨ _; omega); clear hf7 hx8 hw7 ho8; have hB8 := (hw8.block _ (Array.getElem?_eq_some_iff.1 hB0).1).trans hB0) | (go_at_call_of 30 o6; refine (noughts_blk _ 10 10 _ (by omega) _ hr6').mono ?_; rintro e w' ⟨⟨x, rfl, hx⟩, hw'⟩; subst w'; obtain rfl : x = true := hx.2 hz1) | (go_at_call_of 30 o8; refine (noughts_blk _ M M _ (by omega) _ hr8).mono ?_; rintro e w' ⟨⟨y, rfl, hy⟩, hw'⟩; subst w'; obtain rfl : y = false := by cases y; rfl; exact absurd (hy.1 rfl) hz2) | (refine wpList_store_row rfl 26 _ _ rfl w.heap.size (blkCells 0 0 0 none 0 0) rfl rfl 26 _ hB8 (blk_info _ _ _ _ _ _) rfl (blk_all _ _ _ _ _ _) ?_))
  try simp only [Exit.inBlock, Exit.then]
  refine bodyPost_ret (results_row_tmp (p := 2) (u := 3) (by rfl) _ _ w.heap.size 26 (blkCells 0 0 0 none 0 0) (0, 0) _ (by rfl) (setRow_heap _ _ _ _ _ _ hB8) Try.underlying26 rfl (blk_info _ _ _ _ _ _)) rfl ?_
  exact ⟨rfl, bw_setRow (hal.trans hw8) (Nat.le_refl _) _⟩

set_option maxRecDepth 100000 in
set_option maxHeartbeats 2000000 in
theorem read_ok (b o : Nat) (f : Nat → Int) (w : World) (hrow : RowAt w (some ⟨b, o, none⟩) 124 f) (h17 : nb f 17 ≤ 96) (hz1 : ∀ i, i < 10 → f (18 + i) = 0) (hz2 : ∀ i, i < 96 - nb f 17 → f (28 + nb f 17 + i) = 0) :
    Calls Try.prog 22 #[.slice (some ⟨b, o, none⟩) 124 124] w fun e w' => ∃ o', e = .returned (.tuple #[.agg (blkCells (Blk.keyOf f : Nat) (Blk.stripeOf f : Nat) (Blk.shardOf f : Nat) (some ⟨b, o', none⟩) (Blk.lenOf f) (Blk.lenOf f)), .int .i64 0]) ∧ RowAt w' (some ⟨b, o', none⟩) (Blk.lenOf f) (fun i => f (28 + i)) ∧ Bw w w' := by
  obtain ⟨W0, hW0⟩ : ∃ W0, W0 = w.alloc (.cells #[.int .u64 0, .int .u32 0, .int .u8 0, .slice none 0 0] 26) := ⟨_, rfl⟩
  have hal : Bw w W0 := by rw [hW0]; exact Below.alloc (Bw.refl _) (Nat.le_refl _) _
  have hB0 : BlkAt W0 w.heap.size 0 0 0 none 0 0 := by rw [hW0]; exact heap_alloc_new _ _
  have hrow0 := hrow.keep hal
  obtain ⟨K, hK⟩ : ∃ K, Hid (K = Blk.num (nb fun i => f (4 + i)) 8) := ⟨_, rfl⟩
  obtain ⟨S, hS⟩ : ∃ S, Hid (S = Blk.num (nb fun i => f (12 + i)) 4) := ⟨_, rfl⟩
  obtain ⟨H, hH⟩ : ∃ H, Hid (H = nb f 16) := ⟨_, rfl⟩
  obtain ⟨N, hN⟩ : ∃ N, Hid (N = nb f 17) := ⟨_, rfl⟩
  have hKl : K < 18446744073709551616 := by rw [hK.out]; exact Blk.num_lt64 (fun i => nb_lt (fun i => hrow.2 _) i) (by omega)
  have hSl : S < 4294967296 := by rw [hS.out]; exact Blk.num_lt (fun i => nb_lt (fun i => hrow.2 _) i) 4
  have hHl : H < 256 := by rw [hH.out]; exact nb_lt hrow.2 16
  have hNl : N < 256 := by rw [hN.out]; exact nb_lt hrow.2 17
  have h17' : ¬ (96 : Int) < (N : Int) := by have := hN.out; omega
  have hcS := conv_u32 S hSl
  have hcH := conv_u8 H hHl
  have hNle : N ≤ 96 := by have := hN.out; omega
  obtain ⟨M, hM⟩ : ∃ M, Hid (M = 96 - N) := ⟨_, rfl⟩
  have hM1 : N + M ≤ 96 := by have := hM.out; omega
  have hM2 : 96 ≤ N + M := by have := hM.out; omega
  have hN96 : (96 : Int) - (N : Int) = (M : Int) := by omega
  rw [← hN.out, ← hM.out] at hz2
  go_enter Try.func22, Try.ntmps22
  go_wp2_with (go_at_call 29; rw [← hW0]; clear hW0; refine (pieces_any b (o + 4) 120 _).mono ?_; rintro e w1 ⟨rfl, hf1, hw1⟩)
  go_wp2_with (go_at_call 33; refine (piece_at _ _ b (o + 4) (120) 8 rfl (by omega) (by omega) _ hf1).mono ?_; rintro e w2 ⟨o2, rfl, ho2, hf2, hx2⟩; have hw2 : Bw W0 w2 := Below.trans hw1 (hx2.below hw1.size (fun b e => by rw [e]; exact Nat.le_refl _)); have hr2 := RowAt.sub (o' := o2) (hrow0.keep hw2) (p := 4) (m := 8) (by omega) (by omega); clear hf1 hx2 hw1 ho2)
  go_wp2_with (go_at_call 20; refine (number_any _ 8 8 _ (by omega) _ hr2).mono ?_; rintro e w' ⟨rfl, hw'⟩; subst w'; rw [← hK.out]; clear hr2)
  go_wp2_with (go_at_call 33; refine (piece_at _ _ b (o + 4 + 8) (120 - 8) 4 rfl (by omega) (by omega) _ hf2).mono ?_; rintro e w3 ⟨o3, rfl, ho3, hf3, hx3⟩; have hw3 : Bw W0 w3 := Below.trans hw2 (hx3.below hw2.size (fun b e => by rw [e]; exact Nat.le_refl _)); have hr3 := RowAt.sub (o' := o3) (hrow0.keep hw3) (p := 12) (m := 4) (by omega) (by omega); clear hf2 hx3 hw2 ho3)
  go_wp2_with (go_at_call 20; refine (number_any _ 4 4 _ (by omega) _ hr3).mono ?_; rintro e w' ⟨rfl, hw'⟩; subst w'; rw [← hS.out]; clear hr3)
  go_wp2_with (go_at_call 33; refine (piece_at _ _ b (o + 4 + 8 + 4) (120 - 8 - 4) 1 rfl (by omega) (by omega) _ hf3).mono ?_; rintro e w4 ⟨o4, rfl, ho4, hf4, hx4⟩; have hw4 : Bw W0 w4 := Below.trans hw3 (hx4.below hw3.size (fun b e => by rw [e]; exact Nat.le_refl _)); have hr4 := RowAt.sub (o' := o4) (hrow0.keep hw4) (p := 16) (m := 1) (by omega) (by omega); clear hf3 hx4 hw3 ho4)
  go_wp2_with (go_at_call 20; refine (number_any _ 1 1 _ (by omega) _ hr4).mono ?_; rintro e w' ⟨rfl, hw'⟩; subst w'; rw [num_one, ← hH.out]; clear hr4)
  go_wp2_with (go_at_call 33; refine (piece_at _ _ b (o + 4 + 8 + 4 + 1) (120 - 8 - 4 - 1) 1 rfl (by omega) (by omega) _ hf4).mono ?_; rintro e w5 ⟨o5, rfl, ho5, hf5, hx5⟩; have hw5 : Bw W0 w5 := Below.trans hw4 (hx5.below hw4.size (fun b e => by rw [e]; exact Nat.le_refl _)); have hr5 := RowAt.sub (o' := o5) (hrow0.keep hw5) (p := 17) (m := 1) (by omega) (by omega); clear hf4 hx5 hw4 ho5)
  go_wp2_with (go_at_call 20; refine (number_any _ 1 1 _ (by omega) _ hr5).mono ?_; rintro e w' ⟨rfl, hw'⟩; subst w'; rw [num_one, ← hN.out]; clear hr5)
  go_wp2_with (go_at_call 33; refine (piece_at _ _ b (o + 4 + 8 + 4 + 1 + 1) (120 - 8 - 4 - 1 - 1) 10 rfl (by omega) (by omega) _ hf5).mono ?_; rintro e w6 ⟨o6, rfl, ho6, hf6, hx6⟩; have hw6 : Bw W0 w6 := Below.trans hw5 (hx6.below hw5.size (fun b e => by rw [e]; exact Nat.le_refl _)); have hr6 := RowAt.sub (o' := o6) (hrow0.keep hw6) (p := 18) (m := 10) (by omega) (by omega); clear hf5 hx6 hw5)
  go_wp2_with (go_at_call 33; refine (piece_at _ _ b (o + 4 + 8 + 4 + 1 + 1 + 10) (120 - 8 - 4 - 1 - 1 - 10) N rfl (by omega) (by omega) _ hf6).mono ?_; rintro e w7 ⟨o7, rfl, ho7, hf7, hx7⟩; have hw7 : Bw W0 w7 := Below.trans hw6 (hx7.below hw6.size (fun b e => by rw [e]; exact Nat.le_refl _)); have hr7 := RowAt.sub (o' := o7) (hrow0.keep hw7) (p := 28) (m := N) (by omega) (by omega); clear hf6 hx7 hw6 hr6)
  go_wp2_with (first | (go_at_call 33; refine (piece_at _ _ b (o + 4 + 8 + 4 + 1 + 1 + 10 + N) (120 - 8 - 4 - 1 - 1 - 10 - N) M rfl (by omega) (by omega) _ hf7).mono ?_; rintro e w8 ⟨o8, rfl, ho8, hf8, hx8⟩; have hw8 : Bw W0 w8 := Below.trans hw7 (hx8.below hw7.size (fun b e => by rw [e]; exact Nat.le_refl _)); have hr8 := RowAt.sub (o' := o8) (hrow0.keep hw8) (p := (28 + N)) (m := M) (by omega) (by omega); have hr6' := RowAt.sub (o' := o6) (hrow0.keep hw8) (p := 18) (m := 10) (by omega) (by omega); have ho7' : Hid (o7 = o + 28 ∨ N = 0) := (by show _ ∨ _; omega); clear hf7 hx8 hw7 ho8; have hB8 := (hw8.block _ (Array.getElem?_eq_some_iff.1 hB0).1).trans hB0) | (go_at_call_of 30 o6; refine (noughts_blk _ 10 10 _ (by omega) _ hr6').mono ?_; rintro e w' ⟨⟨x, rfl, hx⟩, hw'⟩; subst w'; obtain rfl : x = true := hx.2 hz1) | (go_at_call_of 30 o8; refine (noughts_blk _ M M _ (by omega) _ hr8).mono ?_; rintro e w' ⟨⟨y, rfl, hy⟩, hw'⟩; subst w'; obtain rfl : y = true := hy.2 hz2) | (refine wpList_builtB rfl 26 _ rfl (blkCells (K : Int) (S : Int) (H : Int) (some ⟨b, o7, none⟩) N N) (by kernel_rfl) ?_) | (refine wpList_store_row rfl 26 _ _ rfl w.heap.size (blkCells (K : Int) (S : Int) (H : Int) (some ⟨b, o7, none⟩) N N) rfl rfl 26 _ hB8 (blk_info _ _ _ _ _ _) rfl (blk_all _ _ _ _ _ _) ?_))
  try simp only [Exit.inBlock, Exit.then]
  refine bodyPost_ret (results_row_tmp (p := 2) (u := 3) (by rfl) _ _ w.heap.size 26 (blkCells (K : Int) (S : Int) (H : Int) (some ⟨b, o7, none⟩) N N) (0, 0) _ (by rfl) (setRow_heap _ _ _ _ _ _ hB8) Try.underlying26 rfl (blk_info _ _ _ _ _ _)) rfl ?_
  exact ⟨o7, by unfold Blk.keyOf Blk.stripeOf Blk.shardOf Blk.lenOf; rw [hK.out, hS.out, hH.out, hN.out]; rfl, by show RowAt _ _ (nb f 17) _; rw [← hN.out]; exact (hrow.keep (bw_setRow (hal.trans hw8) (Nat.le_refl w.heap.size) (blkCells (K : Int) (S : Int) (H : Int) (some ⟨b, o7, none⟩) N N))).sub (o' := o7) (p := 28) (m := N) (by omega) ho7'.out, bw_setRow (hal.trans hw8) (Nat.le_refl _) _⟩

end Go.Proofs.Ytcnafcoifhdigaa
