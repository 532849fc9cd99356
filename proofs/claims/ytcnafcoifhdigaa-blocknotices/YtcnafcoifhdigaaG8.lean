/- Contracts of the program's Parse and Is. -/
import Derived.Test.YtcnafcoifhdigaaG7
namespace Go.Proofs.Ytcnafcoifhdigaa
open Go.RowKit Go.Deep
set_option linter.unusedVariables false
set_option linter.unusedSimpArgs false

theorem rest_iff {f : Nat → Int} (hf : ∀ i, 0 ≤ f i ∧ f i < 256) : Blk.Rest f ↔ nb f 17 ≤ 96 ∧ (∀ i, i < 10 → f (18 + i) = 0) ∧ ∀ i, i < 96 - nb f 17 → f (28 + nb f 17 + i) = 0 := by
  have h := hf 17
  have e : f 17 = (nb f 17 : Int) := nb_eq hf 17
  unfold Blk.Rest Blk.Zer
  constructor
  · rintro ⟨h1, h2, h3⟩
    exact ⟨by omega, fun i hi => h2 _ (by omega) (by omega), fun i hi => h3 _ (by omega) (by omega)⟩
  · rintro ⟨h1, h2, h3⟩
    refine ⟨by omega, fun i hi hj => ?_, fun i hi hj => ?_⟩
    · have := h2 (i - 18) (by omega); rwa [show 18 + (i - 18) = i by omega] at this
    · have := h3 (i - (28 + nb f 17)) (by omega); rwa [show 28 + nb f 17 + (i - (28 + nb f 17)) = i by omega] at this

/-- a function answers a block and an error's number -/
abbrev blkRet (er : Int) (k s h : Nat) (A : Option Addr) (n c : Nat) : Ending := .returned (.tuple #[.agg (blkCells (k : Int) (s : Int) (h : Int) A n c), .int .i64 er])

theorem read_any (b o : Nat) (f : Nat → Int) (w : World) (hrow : RowAt w (some ⟨b, o, none⟩) 124 f) :
    Calls Try.prog 22 #[.slice (some ⟨b, o, none⟩) 124 124] w fun e w' => ∃ er k s h A n c, e = blkRet er k s h A n c ∧ ReadSays f er k s h n ∧ RowAt w' A n (fun i => f (28 + i)) ∧ (n = 0 ∨ ∃ o', A = some ⟨b, o', none⟩) ∧ (A = none → c = 0) ∧ n ≤ c ∧ Bw w w' := by
  have hr := rest_iff hrow.2
  by_cases h1 : nb f 17 ≤ 96
  · by_cases h2 : ∀ i, i < 10 → f (18 + i) = 0
    · by_cases h3 : ∀ i, i < 96 - nb f 17 → f (28 + nb f 17 + i) = 0
      · refine (read_ok b o f w hrow h1 h2 h3).mono ?_
        rintro e w' ⟨o', rfl, hrow', hw⟩
        exact ⟨0, _, _, _, _, _, _, rfl, ⟨fun _ => ⟨rfl, rfl, rfl, rfl, rfl⟩, fun hn => absurd (hr.2 ⟨h1, h2, h3⟩) hn⟩, hrow', Or.inr ⟨o', rfl⟩, (fun e => by cases e), Nat.le_refl _, hw⟩
      · refine (read_no2 b o f w hrow h1 h2 h3).mono ?_
        rintro e w' ⟨rfl, hw⟩
        exact ⟨62, 0, 0, 0, none, 0, 0, rfl, ⟨fun hy => absurd (hr.1 hy).2.2 h3, fun _ => ⟨rfl, rfl, rfl, rfl, rfl⟩⟩, ⟨Or.inl rfl, fun i => hrow.2 _⟩, Or.inl rfl, fun _ => rfl, Nat.le_refl _, hw⟩
    · refine (read_no1 b o f w hrow h1 h2).mono ?_
      rintro e w' ⟨rfl, hw⟩
      exact ⟨62, 0, 0, 0, none, 0, 0, rfl, ⟨fun hy => absurd (hr.1 hy).2.1 h2, fun _ => ⟨rfl, rfl, rfl, rfl, rfl⟩⟩, ⟨Or.inl rfl, fun i => hrow.2 _⟩, Or.inl rfl, fun _ => rfl, Nat.le_refl _, hw⟩
  · refine (read_big b o f w hrow (by omega)).mono ?_
    rintro e w' ⟨rfl, hw⟩
    exact ⟨62, 0, 0, 0, none, 0, 0, rfl, ⟨fun hy => absurd (hr.1 hy).1 h1, fun _ => ⟨rfl, rfl, rfl, rfl, rfl⟩⟩, ⟨Or.inl rfl, fun i => hrow.2 _⟩, Or.inl rfl, fun _ => rfl, Nat.le_refl _, hw⟩

set_option maxRecDepth 100000 in
set_option maxHeartbeats 2000000 in
theorem parse_shape (A : Option Addr) (L ca : Nat) (f : Nat → Int) (w : World) (hrow : RowAt w A L f) (h : L ≠ 128) :
    Calls Try.prog 12 #[.slice A L ca] w fun e w' => ∃ er k s h A' n c, e = blkRet er k s h A' n c ∧ Blk.Says L f er k s h n ∧ NewRow w' w.heap.size A' n (fun i => f (28 + i)) ∧ (A' = none → c = 0) ∧ n ≤ c ∧ Bw w w' := by
  obtain ⟨W0, hW0⟩ : ∃ W0, W0 = w.alloc (.cells #[.int .u64 0, .int .u32 0, .int .u8 0, .slice none 0 0] 26) := ⟨_, rfl⟩
  have hal : Bw w W0 := by rw [hW0]; exact Below.alloc (Bw.refl _) (Nat.le_refl _) _
  have hB0 : BlkAt W0 w.heap.size 0 0 0 none 0 0 := by rw [hW0]; exact heap_alloc_new _ _
  have hrow0 := hrow.keep hal
  have t1 : ((L : Int) != 128) = true := by rw [bne_iff_ne]; omega
  go_enter Try.func12, Try.ntmps12
  go_wp2_with (rw [← hW0]; clear hW0; refine wpList_store_row rfl 26 _ _ rfl w.heap.size (blkCells 0 0 0 none 0 0) rfl rfl 26 _ hB0 (blk_info _ _ _ _ _ _) rfl (blk_all _ _ _ _ _ _) ?_)
  try simp only [Exit.inBlock, Exit.then]
  refine bodyPost_ret (results_row_tmp (p := 2) (u := 3) (by rfl) _ _ w.heap.size 26 (blkCells 0 0 0 none 0 0) (0, 0) _ (by rfl) (setRow_heap _ _ _ _ _ _ hB0) Try.underlying26 rfl (blk_info _ _ _ _ _ _)) rfl ?_
  exact ⟨6, 0, 0, 0, none, 0, 0, rfl, ⟨⟨fun _ => rfl, fun e => absurd e h, fun e => absurd e h, fun e => absurd e h, fun e => absurd e h⟩, (fun h => absurd h (by decide)), fun _ => ⟨rfl, rfl, rfl, rfl⟩⟩, ⟨⟨Or.inl rfl, fun i => hrow.2 _⟩, Or.inl rfl⟩, fun _ => rfl, Nat.le_refl _, bw_setRow hal (Nat.le_refl _) _⟩

set_option maxRecDepth 100000 in
set_option maxHeartbeats 2000000 in
theorem parse_mark (b o ca : Nat) (f : Nat → Int) (w : World) (hrow : RowAt w (some ⟨b, o, none⟩) 128 f) (hca : 128 ≤ ca) (h : ¬ Blk.Mark f) :
    Calls Try.prog 12 #[.slice (some ⟨b, o, none⟩) 128 ca] w fun e w' => ∃ er k s h A' n c, e = blkRet er k s h A' n c ∧ Blk.Says 128 f er k s h n ∧ NewRow w' w.heap.size A' n (fun i => f (28 + i)) ∧ (A' = none → c = 0) ∧ n ≤ c ∧ Bw w w' := by
  obtain ⟨W0, hW0⟩ : ∃ W0, W0 = w.alloc (.cells #[.int .u64 0, .int .u32 0, .int .u8 0, .slice none 0 0] 26) := ⟨_, rfl⟩
  have hal : Bw w W0 := by rw [hW0]; exact Below.alloc (Bw.refl _) (Nat.le_refl _) _
  have hB0 : BlkAt W0 w.heap.size 0 0 0 none 0 0 := by rw [hW0]; exact heap_alloc_new _ _
  have hrow0 := hrow.keep hal
  obtain ⟨N, hN⟩ : ∃ N, Hid (N = Blk.num (nb f) 4) := ⟨_, rfl⟩
  have t1 : ((N : Int) != 1413631051) = true := by rw [bne_iff_ne]; intro e; exact h ((Blk.mark_num hrow.2).1 (by rw [← hN.out]; omega))
  have hr4 := hrow0.less (m := 4) (by omega)
  have hca' : (4 : Int) ≤ (ca : Int) := by omega
  go_enter Try.func12, Try.ntmps12
  go_wp2_with (first | (go_at_call 20; rw [← hW0]; clear hW0; refine (number_any _ 4 _ _ (by omega) _ hr4).mono ?_; rintro e w' ⟨rfl, hw'⟩; subst w'; rw [← hN.out]) | (refine wpList_store_row rfl 26 _ _ rfl w.heap.size (blkCells 0 0 0 none 0 0) rfl rfl 26 _ hB0 (blk_info _ _ _ _ _ _) rfl (blk_all _ _ _ _ _ _) ?_))
  try simp only [Exit.inBlock, Exit.then]
  refine bodyPost_ret (results_row_tmp (p := 2) (u := 3) (by rfl) _ _ w.heap.size 26 (blkCells 0 0 0 none 0 0) (0, 0) _ (by rfl) (setRow_heap _ _ _ _ _ _ hB0) Try.underlying26 rfl (blk_info _ _ _ _ _ _)) rfl ?_
  exact ⟨60, 0, 0, 0, none, 0, 0, rfl, ⟨⟨fun e => absurd rfl e, fun _ _ => rfl, fun _ e => absurd e h, fun _ e => absurd e h, fun _ e => absurd e h⟩, (fun h => absurd h (by decide)), fun _ => ⟨rfl, rfl, rfl, rfl⟩⟩, ⟨⟨Or.inl rfl, fun i => hrow.2 _⟩, Or.inl rfl⟩, fun _ => rfl, Nat.le_refl _, bw_setRow hal (Nat.le_refl _) _⟩

set_option maxRecDepth 100000 in
set_option maxHeartbeats 2000000 in
theorem parse_sum (b o ca : Nat) (f : Nat → Int) (w : World) (hrow : RowAt w (some ⟨b, o, none⟩) 128 f) (hca : 128 ≤ ca) (hm : Blk.Mark f) (h : ¬ Crc.Opens (nb f) 124) :
    Calls Try.prog 12 #[.slice (some ⟨b, o, none⟩) 128 ca] w fun e w' => ∃ er k s h A' n c, e = blkRet er k s h A' n c ∧ Blk.Says 128 f er k s h n ∧ NewRow w' w.heap.size A' n (fun i => f (28 + i)) ∧ (A' = none → c = 0) ∧ n ≤ c ∧ Bw w w' := by
  obtain ⟨W0, hW0⟩ : ∃ W0, W0 = w.alloc (.cells #[.int .u64 0, .int .u32 0, .int .u8 0, .slice none 0 0] 26) := ⟨_, rfl⟩
  have hal : Bw w W0 := by rw [hW0]; exact Below.alloc (Bw.refl _) (Nat.le_refl _) _
  have hB0 : BlkAt W0 w.heap.size 0 0 0 none 0 0 := by rw [hW0]; exact heap_alloc_new _ _
  have hrow0 := hrow.keep hal
  obtain ⟨N, hN⟩ : ∃ N, Hid (N = Blk.num (nb f) 4) := ⟨_, rfl⟩
  have t1 : ((N : Int) != 1413631051) = false := by rw [bne_eq_false_iff_eq, hN.out, (Blk.mark_num hrow.2).2 hm]; rfl
  have hr4 := hrow0.less (m := 4) (by omega)
  have hca' : (4 : Int) ≤ (ca : Int) := by omega
  go_enter Try.func12, Try.ntmps12
  go_wp2_with (first | (go_at_call 20; rw [← hW0]; clear hW0; refine (number_any _ 4 _ _ (by omega) _ hr4).mono ?_; rintro e w' ⟨rfl, hw'⟩; subst w'; rw [← hN.out]) | (go_at_call 21; refine (open_cap _ 128 ca f (by omega) _ hrow0 hca).mono ?_; rintro e w1 ⟨A1, n1, x1, rfl, hx1, hrow1, hw1⟩; obtain rfl : x1 = false := (by cases x1; rfl; exact absurd (hx1.1.1 rfl).2 h); have hB1 := (hw1.block _ (Array.getElem?_eq_some_iff.1 hB0).1).trans hB0) | (refine wpList_store_row rfl 26 _ _ rfl w.heap.size (blkCells 0 0 0 none 0 0) rfl rfl 26 _ hB1 (blk_info _ _ _ _ _ _) rfl (blk_all _ _ _ _ _ _) ?_))
  try simp only [Exit.inBlock, Exit.then]
  refine bodyPost_ret (results_row_tmp (p := 2) (u := 3) (by rfl) _ _ w.heap.size 26 (blkCells 0 0 0 none 0 0) (0, 0) _ (by rfl) (setRow_heap _ _ _ _ _ _ hB1) Try.underlying26 rfl (blk_info _ _ _ _ _ _)) rfl ?_
  exact ⟨61, 0, 0, 0, none, 0, 0, rfl, ⟨⟨fun e => absurd rfl e, fun _ e => absurd hm e, fun _ _ _ => rfl, fun _ _ e => absurd e h, fun _ _ e => absurd e h⟩, (fun h => absurd h (by decide)), fun _ => ⟨rfl, rfl, rfl, rfl⟩⟩, ⟨⟨Or.inl rfl, fun i => hrow.2 _⟩, Or.inl rfl⟩, fun _ => rfl, Nat.le_refl _, bw_setRow (hal.trans hw1) (Nat.le_refl _) _⟩

set_option maxRecDepth 100000 in
set_option maxHeartbeats 2000000 in
theorem parse_read (b o ca : Nat) (f : Nat → Int) (w : World) (hrow : RowAt w (some ⟨b, o, none⟩) 128 f) (hca : 128 ≤ ca) (hm : Blk.Mark f) (ho : Crc.Opens (nb f) 124) :
    Calls Try.prog 12 #[.slice (some ⟨b, o, none⟩) 128 ca] w fun e w' => ∃ er k s h A' n c, e = blkRet er k s h A' n c ∧ Blk.Says 128 f er k s h n ∧ NewRow w' w.heap.size A' n (fun i => f (28 + i)) ∧ (A' = none → c = 0) ∧ n ≤ c ∧ Bw w w' := by
  obtain ⟨W0, hW0⟩ : ∃ W0, W0 = w.alloc (.cells #[.int .u64 0, .int .u32 0, .int .u8 0, .slice none 0 0] 26) := ⟨_, rfl⟩
  have hal : Bw w W0 := by rw [hW0]; exact Below.alloc (Bw.refl _) (Nat.le_refl _) _
  have hB0 : BlkAt W0 w.heap.size 0 0 0 none 0 0 := by rw [hW0]; exact heap_alloc_new _ _
  have hrow0 := hrow.keep hal
  obtain ⟨N, hN⟩ : ∃ N, Hid (N = Blk.num (nb f) 4) := ⟨_, rfl⟩
  have t1 : ((N : Int) != 1413631051) = false := by rw [bne_eq_false_iff_eq, hN.out, (Blk.mark_num hrow.2).2 hm]; rfl
  have hr4 := hrow0.less (m := 4) (by omega)
  have hca' : (4 : Int) ≤ (ca : Int) := by omega
  go_enter Try.func12, Try.ntmps12
  go_wp2_with (first | (go_at_call 20; rw [← hW0]; clear hW0; refine (number_any _ 4 _ _ (by omega) _ hr4).mono ?_; rintro e w' ⟨rfl, hw'⟩; subst w'; rw [← hN.out]) | (go_at_call 21; refine (open_cap _ 128 ca f (by omega) _ hrow0 hca).mono ?_; rintro e w1 ⟨A1, n1, x1, rfl, hx1, hrow1, hw1⟩; obtain ⟨rfl, rfl⟩ := open9 (m := 124) hx1 ho; obtain ⟨b1, o1, rfl, hb1, hb1'⟩ := hrow1.new.resolve_left (by decide)) | (go_at_call 22; refine (read_any b1 o1 f _ hrow1.row).mono ?_; rintro e w2 ⟨er, k, s, h, A2, n2, c2, rfl, hs2, hrow2, hnew2, hnil2, hle2, hw2⟩; have hB2 := ((hw1.trans hw2).block _ (Array.getElem?_eq_some_iff.1 hB0).1).trans hB0) | (refine wpList_store_row rfl 26 _ _ rfl w.heap.size (blkCells (k : Int) (s : Int) (h : Int) A2 n2 c2) rfl rfl 26 _ hB2 (blk_info _ _ _ _ _ _) rfl (blk_all _ _ _ _ _ _) ?_))
  try simp only [Exit.inBlock, Exit.then]
  refine bodyPost_ret (results_row_tmp (p := 2) (u := 3) (by rfl) _ _ w.heap.size 26 (blkCells (k : Int) (s : Int) (h : Int) A2 n2 c2) (0, 0) _ (by rfl) (setRow_heap _ _ _ _ _ _ hB2) Try.underlying26 rfl (blk_info _ _ _ _ _ _)) rfl ?_
  have hbw : Bw w w2 := hal.trans (hw1.trans hw2)
  have hr3 : RowAt (w2.setRow w.heap.size (blkCells (k : Int) (s : Int) (h : Int) A2 n2 c2)) A2 n2 (fun i => f (28 + i)) := hrow2.keepx (S := (· = w.heap.size)) ⟨rfl, rfl, rfl, by rw [size_setRow]; exact Nat.le_refl _, fun x _ hx => setRow_other w2 w.heap.size x _ (by omega)⟩ (fun x y e h0 => by
    rcases hnew2 with h1 | ⟨o', h1⟩
    · omega
    · rw [h1] at e
      cases e
      have := hal.size
      have hs0 : w.heap.size < W0.heap.size := (Array.getElem?_eq_some_iff.1 hB0).1
      show ¬ _ = _
      omega)
  refine ⟨er, k, s, h, A2, n2, c2, rfl, ?_, ⟨hr3, ?_⟩, hnil2, hle2, bw_setRow hbw (Nat.le_refl _) _⟩
  · by_cases hre : Blk.Rest f
    · obtain ⟨rfl, rfl, rfl, rfl, rfl⟩ := hs2.yes hre
      exact ⟨⟨fun e => absurd rfl e, fun _ e => absurd hm e, fun _ _ e => absurd ho e, fun _ _ _ e => absurd hre e, fun _ _ _ _ => rfl⟩, fun _ => ⟨rfl, rfl, rfl, rfl⟩, fun e => absurd rfl e⟩
    · obtain ⟨rfl, rfl, rfl, rfl, rfl⟩ := hs2.no hre
      exact ⟨⟨fun e => absurd rfl e, fun _ e => absurd hm e, fun _ _ e => absurd ho e, fun _ _ _ _ => rfl, fun _ _ _ e => absurd e hre⟩, (fun e => absurd e (by decide)), fun _ => ⟨rfl, rfl, rfl, rfl⟩⟩
  · rcases hnew2 with h1 | ⟨o', h1⟩
    · exact Or.inl h1
    · have := hal.size
      have h2 := hw2.size
      exact Or.inr ⟨b1, o', h1, by omega, by rw [size_setRow]; omega⟩

theorem parse_any (A : Option Addr) (L ca : Nat) (f : Nat → Int) (w : World) (hrow : RowAt w A L f) (hca : L ≤ ca) :
    Calls Try.prog 12 #[.slice A L ca] w fun e w' => ∃ er k s h A' n c, e = blkRet er k s h A' n c ∧ Blk.Says L f er k s h n ∧ NewRow w' w.heap.size A' n (fun i => f (28 + i)) ∧ (A' = none → c = 0) ∧ n ≤ c ∧ Bw w w' := by
  by_cases h1 : L = 128
  · subst h1
    obtain ⟨b, o, rfl, -⟩ := hrow.at (k := 0) (by omega)
    by_cases h2 : Blk.Mark f
    · by_cases h3 : Crc.Opens (nb f) 124
      · exact parse_read b o ca f w hrow hca h2 h3
      · exact parse_sum b o ca f w hrow hca h2 h3
    · exact parse_mark b o ca f w hrow hca h2
  · exact parse_shape A L ca f w hrow h1
end Go.Proofs.Ytcnafcoifhdigaa
