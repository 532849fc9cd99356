/- The contract of the program's Pack. -/
import Derived.Test.YtcnafcoifhdigaaG3
import Derived.BigRegion
namespace Go.Proofs.Ytcnafcoifhdigaa
open Go.RowKit Go.Deep
set_option linter.unusedVariables false
set_option linter.unusedSimpArgs false

/-- the five fields of a block -/
def fldN (key stripe shard len : Nat) (j : Nat) : Nat := [1413631051, key, stripe, shard, len].getD j 0
def fldW (j : Nat) : Nat := [4, 8, 4, 1, 1].getD j 0
def fldO (j : Nat) : Nat := [0, 4, 12, 16, 17, 18].getD j 0
theorem fld_hd {key stripe shard len : Nat} (hs : shard < 256) (hl : len < 256) (j : Nat) (hj : j < 5) (t : Nat) (ht : t < fldW j) : Blk.hd key stripe shard len (fldO j + t) = Blk.byteOf (fldN key stripe shard len j) (fldW j) t := by
  have h5 : j = 0 ∨ j = 1 ∨ j = 2 ∨ j = 3 ∨ j = 4 := by omega
  rcases h5 with rfl | rfl | rfl | rfl | rfl
  · show Blk.hd key stripe shard len (0 + t) = Blk.byteOf 1413631051 4 t
    have ht' : t < 4 := ht
    unfold Blk.hd; rw [if_pos (by omega), Nat.zero_add]
  · show Blk.hd key stripe shard len (4 + t) = Blk.byteOf key 8 t
    have ht' : t < 8 := ht
    unfold Blk.hd; rw [if_neg (by omega), if_pos (by omega), Nat.add_sub_cancel_left]
  · show Blk.hd key stripe shard len (12 + t) = Blk.byteOf stripe 4 t
    have ht' : t < 4 := ht
    unfold Blk.hd; rw [if_neg (by omega), if_neg (by omega), if_pos (by omega), Nat.add_sub_cancel_left]
  · show Blk.hd key stripe shard len (16 + t) = Blk.byteOf shard 1 t
    have ht' : t < 1 := ht
    have h0 : t = 0 := by omega
    subst h0
    unfold Blk.hd Blk.byteOf; rw [if_neg (by omega), if_neg (by omega), if_neg (by omega), if_pos (by omega)]
    simp; omega
  · show Blk.hd key stripe shard len (17 + t) = Blk.byteOf len 1 t
    have ht' : t < 1 := ht
    have h0 : t = 0 := by omega
    subst h0
    unfold Blk.hd Blk.byteOf; rw [if_neg (by omega), if_neg (by omega), if_neg (by omega), if_neg (by omega), if_pos (by omega)]
    simp; omega

theorem hd_zero {key stripe shard len i : Nat} (h : 18 ≤ i) : Blk.hd key stripe shard len i = 0 := by
  unfold Blk.hd; rw [if_neg (by omega), if_neg (by omega), if_neg (by omega), if_neg (by omega), if_neg (by omega)]
theorem body_cpy {key stripe shard len : Nat} {d : Nat → Int} (hl : len ≤ 96) (i : Nat) : cpyF (cpyF (fun _ => 0) 0 18 (fun i => ((Blk.hd key stripe shard len i : Nat) : Int))) 28 len d i = Blk.body key stripe shard len d i := by
  unfold cpyF Blk.body
  by_cases h1 : i < 28
  · rw [if_neg (by omega), if_pos h1]
    by_cases h2 : i < 18
    · rw [if_pos (by omega), Nat.sub_zero]
    · rw [if_neg (by omega), hd_zero (by omega)]; rfl
  · rw [if_neg h1]
    by_cases h2 : i < 28 + len
    · rw [if_pos (by omega), if_pos h2]
    · rw [if_neg (by omega), if_neg h2, if_neg (by omega)]

theorem laid5 (k s h L : Nat) (hk : k < 18446744073709551616) (hs : s < 4294967296) (hh : h < 256) (hL : L < 256) (g : Nat) (w : World)
    (hB : w.heap[g]? = some (.cells #[.int .u64 1413631051, .int .i64 4, .int .u64 (k : Int), .int .i64 8, .int .u64 (s : Int), .int .i64 4, .int .u64 (h : Int), .int .i64 1, .int .u64 (L : Int), .int .i64 1] 43 (0, 0))) :
    Calls Try.prog 17 #[.slice (some ⟨g, 0, none⟩) 5 5] w fun e w' => ∃ g' cap, e = .returned (.slice (some ⟨g', 0, none⟩) 18 cap) ∧ Own w' g' 18 (fun i => ((Blk.hd k s h L i : Nat) : Int)) ∧ Bw w w' := by
  refine (laid_any g 5 (fldN k s h L) fldW fldO (fun i => ((Blk.hd k s h L i : Nat) : Int)) (by omega) ?_ ?_ rfl ?_ ?_ (fun j hj t ht => by rw [fld_hd hh hL j hj t ht]) w ?_).mono ?_
  · intro j hj
    have h5 : j = 0 ∨ j = 1 ∨ j = 2 ∨ j = 3 ∨ j = 4 := by omega
    rcases h5 with rfl | rfl | rfl | rfl | rfl <;> decide
  · intro j hj
    have h5 : j = 0 ∨ j = 1 ∨ j = 2 ∨ j = 3 ∨ j = 4 := by omega
    rcases h5 with rfl | rfl | rfl | rfl | rfl
    · exact (by decide : 1413631051 < 18446744073709551616)
    · exact hk
    · exact Nat.lt_trans hs (by decide)
    · exact Nat.lt_trans hh (by decide)
    · exact Nat.lt_trans hL (by decide)
  · intro j hj
    have h5 : j = 0 ∨ j = 1 ∨ j = 2 ∨ j = 3 ∨ j = 4 := by omega
    rcases h5 with rfl | rfl | rfl | rfl | rfl <;> rfl
  · intro j hj
    have h5 : j = 0 ∨ j = 1 ∨ j = 2 ∨ j = 3 ∨ j = 4 ∨ j = 5 := by omega
    rcases h5 with rfl | rfl | rfl | rfl | rfl | rfl <;> decide
  · intro j hj
    have h5 : j = 0 ∨ j = 1 ∨ j = 2 ∨ j = 3 ∨ j = 4 := by omega
    rcases h5 with rfl | rfl | rfl | rfl | rfl <;> exact ⟨cell_of_row w g _ _ _ _ hB, cell_of_row w g _ _ _ _ hB⟩
  · rintro e w' ⟨v, rfl, hown, hw⟩
    obtain ⟨g', cap, rfl, _, _, _, ho⟩ := Own.of (n := 18) hown (by omega)
    exact ⟨g', cap, rfl, ho, hw⟩

theorem heap_alloc3_new (w : World) (A B C : Obj) : (((w.alloc A).alloc B).alloc C).heap[w.heap.size + 1 + 1]? = some C := by
  have h := heap_alloc_new ((w.alloc A).alloc B) C
  rwa [size_alloc, size_alloc] at h
theorem heap_alloc3_mid (w : World) (A B C : Obj) : (((w.alloc A).alloc B).alloc C).heap[w.heap.size + 1]? = some B := by
  have h := heap_alloc2_old (w.alloc A) B C
  rwa [size_alloc] at h
theorem heap_alloc3_old (w : World) (A B C : Obj) : (((w.alloc A).alloc B).alloc C).heap[w.heap.size]? = some A := by
  rw [heap_alloc_old _ _ (by rw [size_alloc, size_alloc]; omega)]
  exact heap_alloc2_old w A B

theorem pack_long (K S H : Int) (A : Option Addr) (L ca : Nat) (w : World) (h : 96 < L) :
    Calls Try.prog 9 #[.agg #[.int .u64 K, .int .u32 S, .int .u8 H, .slice A L ca]] w fun e w' => e = .returned (.tuple #[.slice none 0 0, .int .i64 2]) ∧ Bw w w' := by
  go_enter Try.func9, Try.ntmps9
  go_wp2
  go_ret2
  exact ⟨rfl, Below.alloc (Bw.refl _) (Nat.le_refl _) _⟩

set_option maxRecDepth 100000 in
set_option maxHeartbeats 2000000 in
theorem pack_ok (k s h : Nat) (hk : k < 18446744073709551616) (hs : s < 4294967296) (hh : h < 256) (A : Option Addr) (L ca : Nat) (d : Nat → Int) (w : World) (hrow : RowAt w A L d) (hL : L ≤ 96) :
    Calls Try.prog 9 #[.agg #[.int .u64 (k : Int), .int .u32 (s : Int), .int .u8 (h : Int), .slice A L ca]] w fun e w' => ∃ g cap, e = .returned (.tuple #[.slice (some ⟨g, 0, none⟩) 128 cap, .int .i64 0]) ∧ Own w' g 128 (sealF (Blk.body k s h L d) 124) ∧ w.heap.size ≤ g ∧ 128 ≤ cap ∧ cap ≤ maxLen ∧ Bw w w' := by
  obtain ⟨M, hM, hM0, hmk⟩ := made_bytes 124 (by omega)
  have hmk' : ∀ w, (Instr.makeSlice 24 (.int .i64 124) (.int .i64 124)).run Try.prog w = .ok (.slice (some ⟨w.heap.size, 0, none⟩) 124 124) (w.alloc (.cells M 5)) := hmk
  clear hmk
  have hL' : ¬ (96 : Int) < (L : Int) := by omega
  have hFb : ∀ i, 0 ≤ (((Blk.hd k s h L i : Nat) : Int)) ∧ ((Blk.hd k s h L i : Nat) : Int) < 256 := fun i => by have := Blk.hd_lt (key := k) (stripe := s) hh (len := L) (by omega) i; omega
  obtain ⟨F, hF⟩ : ∃ F : Nat → Int, Hid (F = fun i => ((Blk.hd k s h L i : Nat) : Int)) := ⟨_, rfl⟩
  have HM : Hid (∀ i, i < 124 → M[i]? = some (.int .u8 0)) := hM0
  clear hM0
  have hL2 : L < 256 := by omega
  go_enter Try.func9, Try.ntmps9
  go_wp2_with (go_at_call 17; refine (laid5 k s h L hk hs hh hL2 (w.heap.size + 1 + 1) _ ?_).mono ?_; exact heap_alloc3_new _ _ _ _; rintro e w1 ⟨g1, c1, rfl, hown1, hw1⟩; rw [← hF.out] at hown1)
  have hFb' : ∀ i, 0 ≤ F i ∧ F i < 256 := by rw [hF.out]; exact hFb
  have hal : Bw w (((w.alloc (.cells #[.int .u64 (k : Int), .int .u32 (s : Int), .int .u8 (h : Int), .slice A L ca] 26)).alloc (.cells M 5)).alloc (.cells #[.int .u64 1413631051, .int .i64 4, .int .u64 (k : Int), .int .i64 8, .int .u64 (s : Int), .int .i64 4, .int .u64 (h : Int), .int .i64 1, .int .u64 (L : Int), .int .i64 1] 43)) := Below.alloc (Below.alloc (Below.alloc (Bw.refl _) (Nat.le_refl _) _) (by rw [size_alloc]; omega) _) (by rw [size_alloc, size_alloc]; omega) _
  have hbw1 : Bw w w1 := hal.trans hw1
  have hbM : BlockIs w1 (w.heap.size + 1) 124 (fun _ => 0) := ⟨M, (hw1.block _ (by rw [size_alloc, size_alloc, size_alloc]; omega)).trans (heap_alloc3_mid _ _ _ _), hM, HM.out⟩
  have hb0 : w1.heap[w.heap.size]? = some (.cells #[.int .u64 (k : Int), .int .u32 (s : Int), .int .u8 (h : Int), .slice A L ca] 26 (0, 0)) := (hw1.block _ (by rw [size_alloc, size_alloc, size_alloc]; omega)).trans (heap_alloc3_old _ _ _ _)
  obtain ⟨W2, hcp, hblk2, hx2⟩ := copy_ok (w.heap.size + 1) 0 124 124 124 18 c1 3 (fun _ => 0) F _ w1 hbM (by omega) (by omega) (hown1.row hFb')
  have hbw2 : Bw w W2 := Below.trans hbw1 (hx2.below hbw1.size (fun b e => by omega))
  have hb2 : W2.heap[w.heap.size]? = some (.cells #[.int .u64 (k : Int), .int .u32 (s : Int), .int .u8 (h : Int), .slice A L ca] 26 (0, 0)) := (hx2.block _ (Array.getElem?_eq_some_iff.1 hb0).1 (by omega)).trans hb0
  have hc3 := cell_of_row W2 w.heap.size 3 _ _ _ hb2
  obtain ⟨W3, hcp3, hblk3, hx3⟩ := copy_ok (w.heap.size + 1) 28 96 96 124 L ca 3 (cpyF (fun _ => 0) 0 18 F) d A W2.drew (hblk2.keep (Bw.refl W2).drew) (by omega) (by omega) ((hrow.keep hbw2).keep (Bw.refl W2).drew)
  have hbw3 : Bw w W3 := Below.trans hbw2.drew (hx3.below (w := W2.drew) hbw2.size (fun b e => by omega))
  have hrow3 := (hblk3.row (f := cpyF (cpyF (fun _ => 0) 0 18 F) 28 L d) (fun i => cpyF_bd (cpyF_bd (fun _ => ⟨Int.le_refl 0, show (0 : Int) < 256 by decide⟩) hFb') hrow.2 i))
  clear hblk2 hbM hb0 hx2 hb2 hx3 hown1 hal hw1 hbw1 hbw2 hblk3
  rw [hcp]
  clear hcp
  go_wp2
  go_region
  go_wp2_with (go_at_call 18; refine (seal_any _ 124 _ _ (by omega) _ hrow3).mono ?_; rintro e w4 ⟨g4, cap4, rfl, hown4, hg4, hcap4, hcm4, hw4⟩)
  go_ret2
  refine ⟨_, _, rfl, hown4.congr (fun c _ => ?_), ?_, hcap4, hcm4, hbw3.trans hw4⟩
  · rw [show cpyF (cpyF (fun _ => 0) 0 18 F) 28 L d = Blk.body k s h L d from funext fun i => by rw [hF.out]; exact body_cpy hL i]
  · have := hbw3.size; omega
end Go.Proofs.Ytcnafcoifhdigaa
