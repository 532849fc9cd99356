/- Contracts of the document's own Parse and Is. -/
import Derived.Test.YtcnafcoifhdigaaG9
import Derived.Deep.MidRow
namespace Go.Proofs.Ytcnafcoifhdigaa
open Go.RowKit Go.Deep
set_option linter.unusedVariables false
set_option linter.unusedSimpArgs false

theorem yieldsIf_build {P : Program} {ops : Array Oper} {S : World → Prop} {op : Oper} {a : Act} (hw : Region.wanted op (yielded ops a.tmps) = true) (t : TypeId) (parts : Array (Nat × Operand)) (ho : op.op = .build t parts)
    (cells : Array Value) (hb : P.built t (parts.map fun (i, x) => (i, a.eval x)).toList = some cells) : YieldsIf P ops S op (.agg cells) a :=
  .inl ⟨hw, fun w _ => by
    unfold execOp
    simp only [ho, Sem.run_bind, run_build w t _ cells hb, Sem.run_pure, Result.andThen_ok]⟩

set_option maxRecDepth 100000 in
set_option maxHeartbeats 2000000 in
theorem rparse_shape (A : Option Addr) (L ca : Nat) (f : Nat → Int) (w : World) (hrow : RowAt w A L f) (h : L ≠ 128) :
    Calls Try.prog 14 #[.slice A L ca] w fun e w' => ∃ er k s h A' n c, e = blkRet er k s h A' n c ∧ Blk.Says L f er k s h n ∧ RowAt w' A' n (fun i => f (28 + i)) ∧ Bw w w' := by
  obtain ⟨W0, hW0⟩ : ∃ W0, W0 = w.alloc (.cells #[.int .u64 0, .int .u32 0, .int .u8 0, .slice none 0 0] 26) := ⟨_, rfl⟩
  have hal : Bw w W0 := by rw [hW0]; exact Below.alloc (Bw.refl _) (Nat.le_refl _) _
  have hB0 : BlkAt W0 w.heap.size 0 0 0 none 0 0 := by rw [hW0]; exact heap_alloc_new _ _
  have hrow0 := hrow.keep hal
  have t1 : ((L : Int) != 128) = true := by rw [bne_iff_ne]; omega
  go_enter Try.func14, Try.ntmps14
  go_wp2_with (rw [← hW0]; clear hW0; refine wpList_store_row rfl 26 _ _ rfl w.heap.size (blkCells 0 0 0 none 0 0) rfl rfl 26 _ hB0 (blk_info _ _ _ _ _ _) rfl (blk_all _ _ _ _ _ _) ?_)
  try simp only [Exit.inBlock, Exit.then]
  refine bodyPost_ret (results_row_tmp (p := 2) (u := 3) (by rfl) _ _ w.heap.size 26 (blkCells 0 0 0 none 0 0) (0, 0) _ (by rfl) (setRow_heap _ _ _ _ _ _ hB0) Try.underlying26 rfl (blk_info _ _ _ _ _ _)) rfl ?_
  exact ⟨6, 0, 0, 0, none, 0, 0, rfl, ⟨⟨fun _ => rfl, fun e => absurd e h, fun e => absurd e h, fun e => absurd e h, fun e => absurd e h⟩, (fun h => absurd h (by decide)), fun _ => ⟨rfl, rfl, rfl, rfl⟩⟩, ⟨Or.inl rfl, fun i => hrow.2 _⟩, bw_setRow hal (Nat.le_refl _) _⟩

set_option maxRecDepth 100000 in
set_option maxHeartbeats 2000000 in
theorem rparse_mark (b o ca : Nat) (f : Nat → Int) (w : World) (hrow : RowAt w (some ⟨b, o, none⟩) 128 f) (hca : 128 ≤ ca) (h : ¬ Blk.Mark f) :
    Calls Try.prog 14 #[.slice (some ⟨b, o, none⟩) 128 ca] w fun e w' => ∃ er k s h A' n c, e = blkRet er k s h A' n c ∧ Blk.Says 128 f er k s h n ∧ RowAt w' A' n (fun i => f (28 + i)) ∧ Bw w w' := by
  obtain ⟨W0, hW0⟩ : ∃ W0, W0 = w.alloc (.cells #[.int .u64 0, .int .u32 0, .int .u8 0, .slice none 0 0] 26) := ⟨_, rfl⟩
  have hal : Bw w W0 := by rw [hW0]; exact Below.alloc (Bw.refl _) (Nat.le_refl _) _
  have hB0 : BlkAt W0 w.heap.size 0 0 0 none 0 0 := by rw [hW0]; exact heap_alloc_new _ _
  have hrow0 := hrow.keep hal
  have hc : ∀ i, i < 128 → W0.cell? ⟨b, o + i, none⟩ = some (.int .u8 (f i)) := by obtain ⟨b', o', e, hc⟩ := hrow0.at (k := 0) (by omega); cases e; exact hc
  have c0 := hc 0 (by omega)
  have c1 := hc 1 (by omega)
  have c2 := hc 2 (by omega)
  have c3 := hc 3 (by omega)
  rw [Nat.add_zero] at c0
  clear hc
  rw [hW0] at c0 c1 c2 c3
  by_cases h0 : f 0 = 84
  · by_cases h1 : f 1 = 66
    · by_cases h2 : f 2 = 76
      · by_cases h3 : f 3 = 75
        · exact absurd ⟨h0, h1, h2, h3⟩ h
        · have e0 : (f 0 != 84) = false := by rw [bne_eq_false_iff_eq]; exact h0
          have e1 : (f 1 != 66) = false := by rw [bne_eq_false_iff_eq]; exact h1
          have e2 : (f 2 != 76) = false := by rw [bne_eq_false_iff_eq]; exact h2
          have e3 : (f 3 != 75) = true := by rw [bne_iff_ne]; exact h3
          clear h0 h1 h2 h3
          go_enter Try.func14, Try.ntmps14
          go_wp2_with (rw [← hW0]; clear hW0; refine wpList_store_row rfl 26 _ _ rfl w.heap.size (blkCells 0 0 0 none 0 0) rfl rfl 26 _ hB0 (blk_info _ _ _ _ _ _) rfl (blk_all _ _ _ _ _ _) ?_)
          try simp only [Exit.inBlock, Exit.then]
          refine bodyPost_ret (results_row_tmp (p := 2) (u := 3) (by rfl) _ _ w.heap.size 26 (blkCells 0 0 0 none 0 0) (0, 0) _ (by rfl) (setRow_heap _ _ _ _ _ _ hB0) Try.underlying26 rfl (blk_info _ _ _ _ _ _)) rfl ?_
          exact ⟨60, 0, 0, 0, none, 0, 0, rfl, ⟨⟨fun e => absurd rfl e, fun _ _ => rfl, fun _ e => absurd e h, fun _ e => absurd e h, fun _ e => absurd e h⟩, (fun h => absurd h (by decide)), fun _ => ⟨rfl, rfl, rfl, rfl⟩⟩, ⟨Or.inl rfl, fun i => hrow.2 _⟩, bw_setRow hal (Nat.le_refl _) _⟩
      · have e0 : (f 0 != 84) = false := by rw [bne_eq_false_iff_eq]; exact h0
        have e1 : (f 1 != 66) = false := by rw [bne_eq_false_iff_eq]; exact h1
        have e2 : (f 2 != 76) = true := by rw [bne_iff_ne]; exact h2
        clear h0 h1 h2
        go_enter Try.func14, Try.ntmps14
        go_wp2_with (rw [← hW0]; clear hW0; refine wpList_store_row rfl 26 _ _ rfl w.heap.size (blkCells 0 0 0 none 0 0) rfl rfl 26 _ hB0 (blk_info _ _ _ _ _ _) rfl (blk_all _ _ _ _ _ _) ?_)
        try simp only [Exit.inBlock, Exit.then]
        refine bodyPost_ret (results_row_tmp (p := 2) (u := 3) (by rfl) _ _ w.heap.size 26 (blkCells 0 0 0 none 0 0) (0, 0) _ (by rfl) (setRow_heap _ _ _ _ _ _ hB0) Try.underlying26 rfl (blk_info _ _ _ _ _ _)) rfl ?_
        exact ⟨60, 0, 0, 0, none, 0, 0, rfl, ⟨⟨fun e => absurd rfl e, fun _ _ => rfl, fun _ e => absurd e h, fun _ e => absurd e h, fun _ e => absurd e h⟩, (fun h => absurd h (by decide)), fun _ => ⟨rfl, rfl, rfl, rfl⟩⟩, ⟨Or.inl rfl, fun i => hrow.2 _⟩, bw_setRow hal (Nat.le_refl _) _⟩
    · have e0 : (f 0 != 84) = false := by rw [bne_eq_false_iff_eq]; exact h0
      have e1 : (f 1 != 66) = true := by rw [bne_iff_ne]; exact h1
      clear h0 h1
      go_enter Try.func14, Try.ntmps14
      go_wp2_with (rw [← hW0]; clear hW0; refine wpList_store_row rfl 26 _ _ rfl w.heap.size (blkCells 0 0 0 none 0 0) rfl rfl 26 _ hB0 (blk_info _ _ _ _ _ _) rfl (blk_all _ _ _ _ _ _) ?_)
      try simp only [Exit.inBlock, Exit.then]
      refine bodyPost_ret (results_row_tmp (p := 2) (u := 3) (by rfl) _ _ w.heap.size 26 (blkCells 0 0 0 none 0 0) (0, 0) _ (by rfl) (setRow_heap _ _ _ _ _ _ hB0) Try.underlying26 rfl (blk_info _ _ _ _ _ _)) rfl ?_
      exact ⟨60, 0, 0, 0, none, 0, 0, rfl, ⟨⟨fun e => absurd rfl e, fun _ _ => rfl, fun _ e => absurd e h, fun _ e => absurd e h, fun _ e => absurd e h⟩, (fun h => absurd h (by decide)), fun _ => ⟨rfl, rfl, rfl, rfl⟩⟩, ⟨Or.inl rfl, fun i => hrow.2 _⟩, bw_setRow hal (Nat.le_refl _) _⟩
  · have e0 : (f 0 != 84) = true := by rw [bne_iff_ne]; exact h0
    clear h0
    go_enter Try.func14, Try.ntmps14
    go_wp2_with (rw [← hW0]; clear hW0; refine wpList_store_row rfl 26 _ _ rfl w.heap.size (blkCells 0 0 0 none 0 0) rfl rfl 26 _ hB0 (blk_info _ _ _ _ _ _) rfl (blk_all _ _ _ _ _ _) ?_)
    try simp only [Exit.inBlock, Exit.then]
    refine bodyPost_ret (results_row_tmp (p := 2) (u := 3) (by rfl) _ _ w.heap.size 26 (blkCells 0 0 0 none 0 0) (0, 0) _ (by rfl) (setRow_heap _ _ _ _ _ _ hB0) Try.underlying26 rfl (blk_info _ _ _ _ _ _)) rfl ?_
    exact ⟨60, 0, 0, 0, none, 0, 0, rfl, ⟨⟨fun e => absurd rfl e, fun _ _ => rfl, fun _ e => absurd e h, fun _ e => absurd e h, fun _ e => absurd e h⟩, (fun h => absurd h (by decide)), fun _ => ⟨rfl, rfl, rfl, rfl⟩⟩, ⟨Or.inl rfl, fun i => hrow.2 _⟩, bw_setRow hal (Nat.le_refl _) _⟩

set_option maxRecDepth 100000 in
set_option maxHeartbeats 2000000 in
theorem rparse_sum (b o ca : Nat) (f : Nat → Int) (w : World) (hrow : RowAt w (some ⟨b, o, none⟩) 128 f) (hca : 128 ≤ ca) (hm : Blk.Mark f) (h : ¬ Crc.Opens (nb f) 124) :
    Calls Try.prog 14 #[.slice (some ⟨b, o, none⟩) 128 ca] w fun e w' => ∃ er k s h A' n c, e = blkRet er k s h A' n c ∧ Blk.Says 128 f er k s h n ∧ RowAt w' A' n (fun i => f (28 + i)) ∧ Bw w w' := by
  obtain ⟨W0, hW0⟩ : ∃ W0, W0 = w.alloc (.cells #[.int .u64 0, .int .u32 0, .int .u8 0, .slice none 0 0] 26) := ⟨_, rfl⟩
  have hal : Bw w W0 := by rw [hW0]; exact Below.alloc (Bw.refl _) (Nat.le_refl _) _
  have hB0 : BlkAt W0 w.heap.size 0 0 0 none 0 0 := by rw [hW0]; exact heap_alloc_new _ _
  have hrow0 := hrow.keep hal
  have hc : ∀ i, i < 128 → W0.cell? ⟨b, o + i, none⟩ = some (.int .u8 (f i)) := by obtain ⟨b', o', e, hc⟩ := hrow0.at (k := 0) (by omega); cases e; exact hc
  have c0 := hc 0 (by omega)
  have c1 := hc 1 (by omega)
  have c2 := hc 2 (by omega)
  have c3 := hc 3 (by omega)
  rw [Nat.add_zero] at c0
  clear hc
  rw [hW0] at c0 c1 c2 c3
  obtain ⟨h0, h1, h2, h3⟩ := hm
  have e0 : (f 0 != 84) = false := by rw [bne_eq_false_iff_eq]; exact h0
  have e1 : (f 1 != 66) = false := by rw [bne_eq_false_iff_eq]; exact h1
  have e2 : (f 2 != 76) = false := by rw [bne_eq_false_iff_eq]; exact h2
  have e3 : (f 3 != 75) = false := by rw [bne_eq_false_iff_eq]; exact h3
  have hmH : Hid (Blk.Mark f) := ⟨h0, h1, h2, h3⟩
  clear h0 h1 h2 h3
  go_enter Try.func14, Try.ntmps14
  go_wp2_with (first | (go_at_call 23; rw [← hW0]; clear hW0; refine (ropen_any _ 128 ca f (by omega) _ hrow0 hca).mono ?_; rintro e w1 ⟨A1, n1, cap1, x1, rfl, hx1, -, hw1⟩; obtain rfl : x1 = false := (by cases x1; rfl; exact absurd (hx1.1.1 rfl).2 h); have hB1 := (hw1.block _ (Array.getElem?_eq_some_iff.1 hB0).1).trans hB0) | (refine wpList_store_row rfl 26 _ _ rfl w.heap.size (blkCells 0 0 0 none 0 0) rfl rfl 26 _ hB1 (blk_info _ _ _ _ _ _) rfl (blk_all _ _ _ _ _ _) ?_))
  try simp only [Exit.inBlock, Exit.then]
  refine bodyPost_ret (results_row_tmp (p := 2) (u := 3) (by rfl) _ _ w.heap.size 26 (blkCells 0 0 0 none 0 0) (0, 0) _ (by rfl) (setRow_heap _ _ _ _ _ _ hB1) Try.underlying26 rfl (blk_info _ _ _ _ _ _)) rfl ?_
  exact ⟨61, 0, 0, 0, none, 0, 0, rfl, ⟨⟨fun e => absurd rfl e, fun _ e => absurd hmH.out e, fun _ _ _ => rfl, fun _ _ e => absurd e h, fun _ _ e => absurd e h⟩, (fun h => absurd h (by decide)), fun _ => ⟨rfl, rfl, rfl, rfl⟩⟩, ⟨Or.inl rfl, fun i => hrow.2 _⟩, bw_setRow (hal.trans hw1) (Nat.le_refl _) _⟩

set_option maxRecDepth 100000 in
set_option maxHeartbeats 2000000 in
theorem rparse_big (b o ca : Nat) (f : Nat → Int) (w : World) (hrow : RowAt w (some ⟨b, o, none⟩) 128 f) (hca : 128 ≤ ca) (hm : Blk.Mark f) (ho : Crc.Opens (nb f) 124) (h17 : ¬ nb f 17 ≤ 96) :
    Calls Try.prog 14 #[.slice (some ⟨b, o, none⟩) 128 ca] w fun e w' => ∃ er k s h A' n c, e = blkRet er k s h A' n c ∧ Blk.Says 128 f er k s h n ∧ RowAt w' A' n (fun i => f (28 + i)) ∧ Bw w w' := by
  obtain ⟨W0, hW0⟩ : ∃ W0, W0 = w.alloc (.cells #[.int .u64 0, .int .u32 0, .int .u8 0, .slice none 0 0] 26) := ⟨_, rfl⟩
  have hal : Bw w W0 := by rw [hW0]; exact Below.alloc (Bw.refl _) (Nat.le_refl _) _
  have hB0 : BlkAt W0 w.heap.size 0 0 0 none 0 0 := by rw [hW0]; exact heap_alloc_new _ _
  have hrow0 := hrow.keep hal
  have hc : ∀ i, i < 128 → W0.cell? ⟨b, o + i, none⟩ = some (.int .u8 (f i)) := by obtain ⟨b', o', e, hc⟩ := hrow0.at (k := 0) (by omega); cases e; exact hc
  have c0 := hc 0 (by omega)
  have c1 := hc 1 (by omega)
  have c2 := hc 2 (by omega)
  have c3 := hc 3 (by omega)
  rw [Nat.add_zero] at c0
  clear hc
  rw [hW0] at c0 c1 c2 c3
  obtain ⟨h0, h1, h2, h3⟩ := hm
  have e0 : (f 0 != 84) = false := by rw [bne_eq_false_iff_eq]; exact h0
  have e1 : (f 1 != 66) = false := by rw [bne_eq_false_iff_eq]; exact h1
  have e2 : (f 2 != 76) = false := by rw [bne_eq_false_iff_eq]; exact h2
  have e3 : (f 3 != 75) = false := by rw [bne_eq_false_iff_eq]; exact h3
  have hmH : Hid (Blk.Mark f) := ⟨h0, h1, h2, h3⟩
  clear h0 h1 h2 h3
  obtain ⟨N, hN⟩ : ∃ N, Hid (N = nb f 17) := ⟨_, rfl⟩
  have hNl : N < 256 := by rw [hN.out]; exact nb_lt hrow.2 17
  have hcc : ∀ W, Bw W0 W → W.cell? ⟨b, o + 17, none⟩ = some (.int .u8 (N : Int)) := fun W hW => by
    obtain ⟨b', o', e, hc⟩ := (hrow0.keep hW).at (k := 0) (by omega)
    cases e
    rw [hc 17 (by omega), nb_eq hrow.2 17, ← hN.out]
  have hcc' : Hid (∀ W, Bw W0 W → W.cell? ⟨b, o + 17, none⟩ = some (.int .u8 (N : Int))) := hcc
  clear hcc
  have h17' : (96 : Int) < (N : Int) := by have := hN.out; omega
  go_enter Try.func14, Try.ntmps14
  go_wp2_with (first | (go_at_call 23; rw [← hW0]; clear hW0; refine (ropen_any _ 128 ca f (by omega) _ hrow0 hca).mono ?_; rintro e w1 ⟨A1, n1, cap1, x1, rfl, hx1, -, hw1⟩; obtain rfl : x1 = true := hx1.1.2 ⟨by omega, ho⟩; have c17 := hcc'.out _ hw1; have hr1 := hrow0.keep hw1; have hB1 := (hw1.block _ (Array.getElem?_eq_some_iff.1 hB0).1).trans hB0) | (refine wpList_store_row rfl 26 _ _ rfl w.heap.size (blkCells 0 0 0 none 0 0) rfl rfl 26 _ hB1 (blk_info _ _ _ _ _ _) rfl (blk_all _ _ _ _ _ _) ?_))
  try simp only [Exit.inBlock, Exit.then]
  refine bodyPost_ret (results_row_tmp (p := 2) (u := 3) (by rfl) _ _ w.heap.size 26 (blkCells 0 0 0 none 0 0) (0, 0) _ (by rfl) (setRow_heap _ _ _ _ _ _ hB1) Try.underlying26 rfl (blk_info _ _ _ _ _ _)) rfl ?_
  exact ⟨62, 0, 0, 0, none, 0, 0, rfl, ⟨⟨fun e => absurd rfl e, fun _ e => absurd hmH.out e, fun _ _ e => absurd ho e, fun _ _ _ _ => rfl, fun _ _ _ e => absurd ((rest_iff hrow.2).1 e).1 h17⟩, (fun h => absurd h (by decide)), fun _ => ⟨rfl, rfl, rfl, rfl⟩⟩, ⟨Or.inl rfl, fun i => hrow.2 _⟩, bw_setRow (hal.trans hw1) (Nat.le_refl _) _⟩

set_option maxRecDepth 100000 in
set_option maxHeartbeats 2000000 in
theorem rparse_no1 (b o ca : Nat) (f : Nat → Int) (w : World) (hrow : RowAt w (some ⟨b, o, none⟩) 128 f) (hca : 128 ≤ ca) (hm : Blk.Mark f) (ho : Crc.Opens (nb f) 124) (h17 : nb f 17 ≤ 96) (hz1 : ¬ ∀ i, i < 10 → f (18 + i) = 0) :
    Calls Try.prog 14 #[.slice (some ⟨b, o, none⟩) 128 ca] w fun e w' => ∃ er k s h A' n c, e = blkRet er k s h A' n c ∧ Blk.Says 128 f er k s h n ∧ RowAt w' A' n (fun i => f (28 + i)) ∧ Bw w w' := by
  obtain ⟨W0, hW0⟩ : ∃ W0, W0 = w.alloc (.cells #[.int .u64 0, .int .u32 0, .int .u8 0, .slice none 0 0] 26) := ⟨_, rfl⟩
  have hal : Bw w W0 := by rw [hW0]; exact Below.alloc (Bw.refl _) (Nat.le_refl _) _
  have hB0 : BlkAt W0 w.heap.size 0 0 0 none 0 0 := by rw [hW0]; exact heap_alloc_new _ _
  have hrow0 := hrow.keep hal
  have hc : ∀ i, i < 128 → W0.cell? ⟨b, o + i, none⟩ = some (.int .u8 (f i)) := by obtain ⟨b', o', e, hc⟩ := hrow0.at (k := 0) (by omega); cases e; exact hc
  have c0 := hc 0 (by omega)
  have c1 := hc 1 (by omega)
  have c2 := hc 2 (by omega)
  have c3 := hc 3 (by omega)
  rw [Nat.add_zero] at c0
  clear hc
  rw [hW0] at c0 c1 c2 c3
  obtain ⟨h0, h1, h2, h3⟩ := hm
  have e0 : (f 0 != 84) = false := by rw [bne_eq_false_iff_eq]; exact h0
  have e1 : (f 1 != 66) = false := by rw [bne_eq_false_iff_eq]; exact h1
  have e2 : (f 2 != 76) = false := by rw [bne_eq_false_iff_eq]; exact h2
  have e3 : (f 3 != 75) = false := by rw [bne_eq_false_iff_eq]; exact h3
  have hmH : Hid (Blk.Mark f) := ⟨h0, h1, h2, h3⟩
  clear h0 h1 h2 h3
  obtain ⟨N, hN⟩ : ∃ N, Hid (N = nb f 17) := ⟨_, rfl⟩
  have hNl : N < 256 := by rw [hN.out]; exact nb_lt hrow.2 17
  have hcc : ∀ W, Bw W0 W → W.cell? ⟨b, o + 17, none⟩ = some (.int .u8 (N : Int)) := fun W hW => by
    obtain ⟨b', o', e, hc⟩ := (hrow0.keep hW).at (k := 0) (by omega)
    cases e
    rw [hc 17 (by omega), nb_eq hrow.2 17, ← hN.out]
  have hcc' : Hid (∀ W, Bw W0 W → W.cell? ⟨b, o + 17, none⟩ = some (.int .u8 (N : Int))) := hcc
  clear hcc
  have h17' : ¬ (96 : Int) < (N : Int) := by have := hN.out; omega
  have hNle : N ≤ 96 := by have := hN.out; omega
  have d1 : ¬ ca = 18 := by omega
  have d2 : ¬ ca = 28 + N := by omega
  have d3 : (28 : Int) ≤ (ca : Int) := by omega
  have d4 : (124 : Int) ≤ (ca : Int) := by omega
  have d5 : (28 : Int) + (N : Int) ≤ 124 := by omega
  have d6 : (0 : Int) ≤ 28 + (N : Int) := by omega
  go_enter Try.func14, Try.ntmps14
  go_wp2_with (first | (go_at_call 23; rw [← hW0]; clear hW0; refine (ropen_any _ 128 ca f (by omega) _ hrow0 hca).mono ?_; rintro e w1 ⟨A1, n1, cap1, x1, rfl, hx1, -, hw1⟩; obtain rfl : x1 = true := hx1.1.2 ⟨by omega, ho⟩; have c17 := hcc'.out _ hw1; have hr1 := hrow0.keep hw1; have hB1 := (hw1.block _ (Array.getElem?_eq_some_iff.1 hB0).1).trans hB0) | (go_at_call 24; refine (zero_any _ 10 _ (fun i => f (18 + i)) (by omega) _ (hr1.sub (p := 18) (m := 10) (by omega) (Or.inl rfl))).mono ?_; rintro e w' ⟨⟨x, rfl, hx⟩, hw'⟩; subst w'; obtain rfl : x = false := (by cases x; rfl; exact absurd (hx.1 rfl) hz1); clear hx) | (refine wpList_store_row rfl 26 _ _ rfl w.heap.size (blkCells 0 0 0 none 0 0) rfl rfl 26 _ hB1 (blk_info _ _ _ _ _ _) rfl (blk_all _ _ _ _ _ _) ?_))
  try simp only [Exit.inBlock, Exit.then]
  refine bodyPost_ret (results_row_tmp (p := 2) (u := 3) (by rfl) _ _ w.heap.size 26 (blkCells 0 0 0 none 0 0) (0, 0) _ (by rfl) (setRow_heap _ _ _ _ _ _ hB1) Try.underlying26 rfl (blk_info _ _ _ _ _ _)) rfl ?_
  exact ⟨62, 0, 0, 0, none, 0, 0, rfl, ⟨⟨fun e => absurd rfl e, fun _ e => absurd hmH.out e, fun _ _ e => absurd ho e, fun _ _ _ _ => rfl, fun _ _ _ e => absurd ((rest_iff hrow.2).1 e).2.1 hz1⟩, (fun h => absurd h (by decide)), fun _ => ⟨rfl, rfl, rfl, rfl⟩⟩, ⟨Or.inl rfl, fun i => hrow.2 _⟩, bw_setRow (hal.trans hw1) (Nat.le_refl _) _⟩

end Go.Proofs.Ytcnafcoifhdigaa
