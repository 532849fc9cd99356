/- Contracts of the document's own Parse, further, and of its Is. -/
import Derived.Test.YtcnafcoifhdigaaGA
namespace Go.Proofs.Ytcnafcoifhdigaa
open Go.RowKit Go.Deep
set_option linter.unusedVariables false
set_option linter.unusedSimpArgs false

set_option maxRecDepth 100000 in
set_option maxHeartbeats 2000000 in
theorem rparse_no2 (b o ca : Nat) (f : Nat → Int) (w : World) (hrow : RowAt w (some ⟨b, o, none⟩) 128 f) (hca : 128 ≤ ca) (hm : Blk.Mark f) (ho : Crc.Opens (nb f) 124) (h17 : nb f 17 ≤ 96) (hz1 : ∀ i, i < 10 → f (18 + i) = 0) (hz2 : ¬ ∀ i, i < 96 - nb f 17 → f (28 + nb f 17 + i) = 0) :
    Calls Try.prog 14 #[.slice (some ⟨b, o, none⟩) 128 ca] w fun e w' => ∃ er k s h A' n c, e = blkRet er k s h A' n c ∧ Blk.Says 128 f er k s h n ∧ RowAt w' A' n (fun i => f (28 + i)) ∧ Bw w w' := by
  obtain ⟨W0, hW0⟩ : ∃ W0, W0 = w.alloc (.cells #[.int .u64 0, .int .u32 0, .int .u8 0, .slice none 0 0] 26) := ⟨_, rfl⟩
  have hal : Bw w W0 := by rw [hW0]; exact Below.alloc (Bw.refl _) (Nat.le_refl _) _
  have hB0 : BlkAt W0 w.heap.size 0 0 0 none 0 0 := by rw [hW0]; exact heap_alloc_new _ _
  have hrow0 := hrow.keep hal
  have hc : ∀ i, i < 128 → W0.cell? ⟨b, o + i, none⟩ = some (.int .u8 (f i)) := by obtain ⟨b', o', e, hc⟩ := hrow0.at (k := 0) (by omega); cases e; exact hc
  have c0 := hc 0 (by omega)
  have c1 := hc 1 (by omega)
  have c2 := hc 2 (by omega)
  have c3 := hc 3 (by omega)
  rw [Nat.add_zero] at c0
  clear hc
  rw [hW0] at c0 c1 c2 c3
  obtain ⟨h0, h1, h2, h3⟩ := hm
  have e0 : (f 0 != 84) = false := by rw [bne_eq_false_iff_eq]; exact h0
  have e1 : (f 1 != 66) = false := by rw [bne_eq_false_iff_eq]; exact h1
  have e2 : (f 2 != 76) = false := by rw [bne_eq_false_iff_eq]; exact h2
  have e3 : (f 3 != 75) = false := by rw [bne_eq_false_iff_eq]; exact h3
  have hmH : Hid (Blk.Mark f) := ⟨h0, h1, h2, h3⟩
  clear h0 h1 h2 h3
  obtain ⟨N, hN⟩ : ∃ N, Hid (N = nb f 17) := ⟨_, rfl⟩
  have hNl : N < 256 := by rw [hN.out]; exact nb_lt hrow.2 17
  have hcc : ∀ W, Bw W0 W → W.cell? ⟨b, o + 17, none⟩ = some (.int .u8 (N : Int)) := fun W hW => by
    obtain ⟨b', o', e, hc⟩ := (hrow0.keep hW).at (k := 0) (by omega)
    cases e
    rw [hc 17 (by omega), nb_eq hrow.2 17, ← hN.out]
  have hcc' : Hid (∀ W, Bw W0 W → W.cell? ⟨b, o + 17, none⟩ = some (.int .u8 (N : Int))) := hcc
  clear hcc
  have h17' : ¬ (96 : Int) < (N : Int) := by have := hN.out; omega
  have hNle : N ≤ 96 := by have := hN.out; omega
  have d1 : ¬ ca = 18 := by omega
  have d2 : ¬ ca = 28 + N := by omega
  have d3 : (28 : Int) ≤ (ca : Int) := by omega
  have d4 : (124 : Int) ≤ (ca : Int) := by omega
  have d5 : (28 : Int) + (N : Int) ≤ 124 := by omega
  have d6 : (0 : Int) ≤ 28 + (N : Int) := by omega
  have hz3 : ¬ ∀ i, i < 124 - (28 + N) → f (28 + N + i) = 0 := by rw [hN.out]; intro hh; exact hz2 (fun i hi => hh i (by omega))
  go_enter Try.func14, Try.ntmps14
  go_wp2_with (first | (go_at_call 23; rw [← hW0]; clear hW0; refine (ropen_any _ 128 ca f (by omega) _ hrow0 hca).mono ?_; rintro e w1 ⟨A1, n1, cap1, x1, rfl, hx1, -, hw1⟩; obtain rfl : x1 = true := hx1.1.2 ⟨by omega, ho⟩; have c17 := hcc'.out _ hw1; have hr1 := hrow0.keep hw1; have hB1 := (hw1.block _ (Array.getElem?_eq_some_iff.1 hB0).1).trans hB0) | (go_at_call_of 24 N; refine (zero_any _ (124 - (28 + N)) _ (fun i => f (28 + N + i)) (by omega) _ (hr1.sub (p := 28 + N) (m := 124 - (28 + N)) (by omega) (Or.inl rfl))).mono ?_; rintro e w' ⟨⟨y, rfl, hy⟩, hw'⟩; subst w'; obtain rfl : y = false := (by cases y; rfl; exact absurd (hy.1 rfl) hz3); clear hy) | (go_at_call 24; refine (zero_any _ 10 _ (fun i => f (18 + i)) (by omega) _ (hr1.sub (p := 18) (m := 10) (by omega) (Or.inl rfl))).mono ?_; rintro e w' ⟨⟨x, rfl, hx⟩, hw'⟩; subst w'; obtain rfl : x = true := hx.2 hz1; clear hx) | (refine wpList_store_row rfl 26 _ _ rfl w.heap.size (blkCells 0 0 0 none 0 0) rfl rfl 26 _ hB1 (blk_info _ _ _ _ _ _) rfl (blk_all _ _ _ _ _ _) ?_))
  try simp only [Exit.inBlock, Exit.then]
  refine bodyPost_ret (results_row_tmp (p := 2) (u := 3) (by rfl) _ _ w.heap.size 26 (blkCells 0 0 0 none 0 0) (0, 0) _ (by rfl) (setRow_heap _ _ _ _ _ _ hB1) Try.underlying26 rfl (blk_info _ _ _ _ _ _)) rfl ?_
  exact ⟨62, 0, 0, 0, none, 0, 0, rfl, ⟨⟨fun e => absurd rfl e, fun _ e => absurd hmH.out e, fun _ _ e => absurd ho e, fun _ _ _ _ => rfl, fun _ _ _ e => absurd ((rest_iff hrow.2).1 e).2.2 hz2⟩, (fun h => absurd h (by decide)), fun _ => ⟨rfl, rfl, rfl, rfl⟩⟩, ⟨Or.inl rfl, fun i => hrow.2 _⟩, bw_setRow (hal.trans hw1) (Nat.le_refl _) _⟩

theorem rfin : True := trivial
set_option maxRecDepth 100000 in
set_option maxHeartbeats 2000000 in
theorem rparse_ok (b o ca : Nat) (f : Nat → Int) (w : World) (hrow : RowAt w (some ⟨b, o, none⟩) 128 f) (hca : 128 ≤ ca) (hm : Blk.Mark f) (ho : Crc.Opens (nb f) 124) (h17 : nb f 17 ≤ 96) (hz1 : ∀ i, i < 10 → f (18 + i) = 0) (hz2 : ∀ i, i < 96 - nb f 17 → f (28 + nb f 17 + i) = 0) :
    Calls Try.prog 14 #[.slice (some ⟨b, o, none⟩) 128 ca] w fun e w' => ∃ er k s h A' n c, e = blkRet er k s h A' n c ∧ Blk.Says 128 f er k s h n ∧ RowAt w' A' n (fun i => f (28 + i)) ∧ Bw w w' := by
  obtain ⟨i0, hi0, hz0, hz1', hz2'⟩ := info_parts info_u8
  have hre : Blk.Rest f := (rest_iff hrow.2).2 ⟨h17, hz1, hz2⟩
  obtain ⟨W0, hW0⟩ : ∃ W0, W0 = w.alloc (.cells #[.int .u64 0, .int .u32 0, .int .u8 0, .slice none 0 0] 26) := ⟨_, rfl⟩
  have hal : Bw w W0 := by rw [hW0]; exact Below.alloc (Bw.refl _) (Nat.le_refl _) _
  have hB0 : BlkAt W0 w.heap.size 0 0 0 none 0 0 := by rw [hW0]; exact heap_alloc_new _ _
  have hrow0 := hrow.keep hal
  have hc : ∀ i, i < 128 → W0.cell? ⟨b, o + i, none⟩ = some (.int .u8 (f i)) := by obtain ⟨b', o', e, hc⟩ := hrow0.at (k := 0) (by omega); cases e; exact hc
  have c0 := hc 0 (by omega)
  have c1 := hc 1 (by omega)
  have c2 := hc 2 (by omega)
  have c3 := hc 3 (by omega)
  rw [Nat.add_zero] at c0
  clear hc
  rw [hW0] at c0 c1 c2 c3
  obtain ⟨h0, h1, h2, h3⟩ := hm
  have e0 : (f 0 != 84) = false := by rw [bne_eq_false_iff_eq]; exact h0
  have e1 : (f 1 != 66) = false := by rw [bne_eq_false_iff_eq]; exact h1
  have e2 : (f 2 != 76) = false := by rw [bne_eq_false_iff_eq]; exact h2
  have e3 : (f 3 != 75) = false := by rw [bne_eq_false_iff_eq]; exact h3
  have hmH : Hid (Blk.Mark f) := ⟨h0, h1, h2, h3⟩
  clear h0 h1 h2 h3
  obtain ⟨N, hN⟩ : ∃ N, Hid (N = nb f 17) := ⟨_, rfl⟩
  have hNl : N < 256 := by rw [hN.out]; exact nb_lt hrow.2 17
  have hcc : ∀ W, Bw W0 W → W.cell? ⟨b, o + 17, none⟩ = some (.int .u8 (N : Int)) := fun W hW => by
    obtain ⟨b', o', e, hc⟩ := (hrow0.keep hW).at (k := 0) (by omega)
    cases e
    rw [hc 17 (by omega), nb_eq hrow.2 17, ← hN.out]
  have hcc' : Hid (∀ W, Bw W0 W → W.cell? ⟨b, o + 17, none⟩ = some (.int .u8 (N : Int))) := hcc
  clear hcc
  have h17' : ¬ (96 : Int) < (N : Int) := by have := hN.out; omega
  have hNle : N ≤ 96 := by have := hN.out; omega
  have d1 : ¬ ca = 18 := by omega
  have d2 : ¬ ca = 28 + N := by omega
  have d3 : (28 : Int) ≤ (ca : Int) := by omega
  have d4 : (124 : Int) ≤ (ca : Int) := by omega
  have d5 : (28 : Int) + (N : Int) ≤ 124 := by omega
  have d6 : (0 : Int) ≤ 28 + (N : Int) := by omega
  have hz3 : ∀ i, i < 124 - (28 + N) → f (28 + N + i) = 0 := by rw [hN.out]; intro i hi; exact hz2 i (by omega)
  obtain ⟨Kn, hKn⟩ : ∃ K, Hid (K = Blk.num (nb fun i => f (4 + i)) 8) := ⟨_, rfl⟩
  obtain ⟨Sn, hSn⟩ : ∃ S, Hid (S = Blk.num (nb fun i => f (12 + i)) 4) := ⟨_, rfl⟩
  obtain ⟨Hn, hHn⟩ : ∃ H, Hid (H = nb f 16) := ⟨_, rfl⟩
  have hSl : Sn < 4294967296 := by rw [hSn.out]; exact Blk.num_lt (fun i => nb_lt (fun i => hrow.2 _) i) 4
  have hcS := conv_u32 Sn hSl
  have d7 : ¬ ca = 4 := by omega
  have d8 : ¬ ca = 12 := by omega
  have d9 : ¬ ca = 28 := by omega
  have d10 : (12 : Int) ≤ (ca : Int) := by omega
  have d11 : (16 : Int) ≤ (ca : Int) := by omega
  have d12 : (28 : Int) + (N : Int) ≤ (ca : Int) := by omega
  have d13 : (28 : Int) ≤ 28 + (N : Int) := by omega
  have d14 : IntKind.i64.wrap (28 + (N : Int)) = 28 + (N : Int) := by rw [IntKind.wrap_i64]; omega
  have d15 : (28 + (N : Int)).toNat = 28 + N := by omega
  go_enter Try.func14, Try.ntmps14
  go_wp2_with (first | (go_at_call 23; rw [← hW0]; clear hW0; refine (ropen_any _ 128 ca f (by omega) _ hrow0 hca).mono ?_; rintro e w1 ⟨A1, n1, cap1, x1, rfl, hx1, -, hw1⟩; obtain rfl : x1 = true := hx1.1.2 ⟨by omega, ho⟩; have c17 := hcc'.out _ hw1; have hr1 := hrow0.keep hw1; have hB1 := (hw1.block _ (Array.getElem?_eq_some_iff.1 hB0).1).trans hB0) | (go_at_call_of 24 N; refine (zero_any _ (124 - (28 + N)) _ (fun i => f (28 + N + i)) (by omega) _ (hr1.sub (p := 28 + N) (m := 124 - (28 + N)) (by omega) (Or.inl rfl))).mono ?_; rintro e w' ⟨⟨y, rfl, hy⟩, hw'⟩; subst w'; obtain rfl : y = true := hy.2 hz3; clear hy) | (go_at_call 24; refine (zero_any _ 10 _ (fun i => f (18 + i)) (by omega) _ (hr1.sub (p := 18) (m := 10) (by omega) (Or.inl rfl))).mono ?_; rintro e w' ⟨⟨x, rfl, hx⟩, hw'⟩; subst w'; obtain rfl : x = true := hx.2 hz1; clear hx))
  have hrd := hr1.sub (o' := o + 28) (p := 28) (m := N) (by omega) (Or.inl rfl)
  have hlt1 : w.heap.size < w1.heap.size := Nat.lt_of_lt_of_le (Array.getElem?_eq_some_iff.1 hB0).1 hw1.size
  have hbl : ¬ b = w.heap.size := by have := hrow.lt (k := 0) (by omega); omega
  have hkr : ∀ W, Bx (· = w.heap.size) w1 W → RowAt W (some ⟨b, o, none⟩) 128 f := fun W hW => hr1.keepx hW (fun b' o' e _ => by cases e; exact hbl)
  have hcd : Hid (∀ W, Bx (· = w.heap.size) w1 W → W.cell? ⟨b, o + 16, none⟩ = some (.int .u8 (Hn : Int))) := fun W hW => by
    obtain ⟨b', o', e, hc⟩ := (hkr W hW).at (k := 0) (by omega)
    cases e
    rw [hc 16 (by omega), nb_eq hrow.2 16, ← hHn.out]
  have HKR : Hid (∀ W, Bx (· = w.heap.size) w1 W → RowAt W (some ⟨b, o, none⟩) 128 f) := hkr
  clear c0 c1 c2 c3 c17 e0 e1 e2 e3 hx1 hz3 hz1 hz2 hkr hrd
  refine wp_region_held_drew (S := fun w' => Bx (· = w.heap.size) w1 w') (by kernel_rfl) ((Bx.refl _ w1).drew) (fun hHeld => ?_)
  refine wpAnyH_take (i := 0) (oi := { dst := some 63, op := Op.move (Operand.tmp 0), type := 24, pos := "ref.go:67", after := #[], guard := none }) (v := ?_) rfl (by kernel_rfl) (by kernel_rfl) (by kernel_rfl) (fun _ _ _ h => h) (Or.inl ⟨by rfl, ?_⟩) (by assumption) ?_
  rotate_left
  · intro w hSw; (try dsimp only at hSw); go_simp; all_goals (with_reducible rfl)
  try simp only [Act.put, List.setIfInBounds_toArray, List.set_cons_zero, List.set_cons_succ]
  refine wpAnyH_take (i := 1) (oi := { dst := some 64, op := Op.slice 24 (Operand.tmp 63) (some (Operand.const (Value.int IntKind.i64 4))) (some (Operand.const (Value.int IntKind.i64 12))) none, type := 24, pos := "ref.go:67", after := #[{ on := 0, ground := Ground.data }], guard := none }) (v := ?_) rfl (by kernel_rfl) (by kernel_rfl) (by kernel_rfl) (fun _ _ _ h => h) (Or.inl ⟨by rfl, ?_⟩) (by assumption) ?_
  rotate_left
  · intro w hSw; (try dsimp only at hSw); go_simp; all_goals (with_reducible rfl)
  try simp only [Act.put, List.setIfInBounds_toArray, List.set_cons_zero, List.set_cons_succ]
  refine wpAnyH_take (i := 3) (oi := { dst := some 66, op := Op.move (Operand.tmp 0), type := 24, pos := "ref.go:67", after := #[], guard := none }) (v := ?_) rfl (by kernel_rfl) (by kernel_rfl) (by kernel_rfl) (fun _ _ _ h => h) (Or.inl ⟨by rfl, ?_⟩) (by assumption) ?_
  rotate_left
  · intro w hSw; (try dsimp only at hSw); go_simp; all_goals (with_reducible rfl)
  try simp only [Act.put, List.setIfInBounds_toArray, List.set_cons_zero, List.set_cons_succ]
  refine wpAnyH_take (i := 4) (oi := { dst := some 67, op := Op.slice 24 (Operand.tmp 66) (some (Operand.const (Value.int IntKind.i64 12))) (some (Operand.const (Value.int IntKind.i64 16))) none, type := 24, pos := "ref.go:67", after := #[{ on := 3, ground := Ground.data }], guard := none }) (v := ?_) rfl (by kernel_rfl) (by kernel_rfl) (by kernel_rfl) (fun _ _ _ h => h) (Or.inl ⟨by rfl, ?_⟩) (by assumption) ?_
  rotate_left
  · intro w hSw; (try dsimp only at hSw); go_simp; all_goals (with_reducible rfl)
  try simp only [Act.put, List.setIfInBounds_toArray, List.set_cons_zero, List.set_cons_succ]
  refine wpAnyH_take (i := 7) (oi := { dst := some 70, op := Op.move (Operand.tmp 0), type := 24, pos := "ref.go:67", after := #[], guard := none }) (v := ?_) rfl (by kernel_rfl) (by kernel_rfl) (by kernel_rfl) (fun _ _ _ h => h) (Or.inl ⟨by rfl, ?_⟩) (by assumption) ?_
  rotate_left
  · intro w hSw; (try dsimp only at hSw); go_simp; all_goals (with_reducible rfl)
  try simp only [Act.put, List.setIfInBounds_toArray, List.set_cons_zero, List.set_cons_succ]
  refine wpAnyH_take (i := 8) (oi := { dst := some 71, op := Op.indexAddr 24 (Operand.tmp 70) (Operand.const (Value.int IntKind.i64 16)), type := 0, pos := "ref.go:67", after := #[{ on := 7, ground := Ground.data }], guard := none }) (v := ?_) rfl (by kernel_rfl) (by kernel_rfl) (by kernel_rfl) (fun _ _ _ h => h) (Or.inl ⟨by rfl, ?_⟩) (by assumption) ?_
  rotate_left
  · intro w hSw; (try dsimp only at hSw); go_simp; all_goals (with_reducible rfl)
  try simp only [Act.put, List.setIfInBounds_toArray, List.set_cons_zero, List.set_cons_succ]
  refine wpAnyH_take (i := 9) (oi := { dst := some 72, op := Op.load 5 (Operand.tmp 71), type := 5, pos := "ref.go:67", after := #[{ on := 8, ground := Ground.data }], guard := none }) (v := ?_) rfl (by kernel_rfl) (by kernel_rfl) (by kernel_rfl) (fun _ _ _ h => h) (Or.inl ⟨by rfl, ?_⟩) (by assumption) ?_
  rotate_left
  · intro w hSw; (try dsimp only at hSw); have c16 := hcd.out _ hSw; go_simp; all_goals (with_reducible rfl)
  try simp only [Act.put, List.setIfInBounds_toArray, List.set_cons_zero, List.set_cons_succ]
  refine wpAnyH_take (i := 11) (oi := { dst := some 74, op := Op.move (Operand.tmp 0), type := 24, pos := "ref.go:67", after := #[], guard := none }) (v := ?_) rfl (by kernel_rfl) (by kernel_rfl) (by kernel_rfl) (fun _ _ _ h => h) (Or.inl ⟨by rfl, ?_⟩) (by assumption) ?_
  rotate_left
  · intro w hSw; (try dsimp only at hSw); go_simp; all_goals (with_reducible rfl)
  try simp only [Act.put, List.setIfInBounds_toArray, List.set_cons_zero, List.set_cons_succ]
  refine wpAnyH_take (i := 12) (oi := { dst := some 75, op := Op.move (Operand.tmp 6), type := 3, pos := "ref.go:67", after := #[], guard := none }) (v := ?_) rfl (by kernel_rfl) (by kernel_rfl) (by kernel_rfl) (fun _ _ _ h => h) (Or.inl ⟨by rfl, ?_⟩) (by assumption) ?_
  rotate_left
  · intro w hSw; (try dsimp only at hSw); go_simp; all_goals (with_reducible rfl)
  try simp only [Act.put, List.setIfInBounds_toArray, List.set_cons_zero, List.set_cons_succ]
  refine wpAnyH_take (i := 13) (oi := { dst := some 76, op := Op.binOp BinOp.add 3 (Operand.const (Value.int IntKind.i64 28)) (Operand.tmp 75) 3, type := 3, pos := "ref.go:67", after := #[{ on := 12, ground := Ground.data }], guard := none }) (v := ?_) rfl (by kernel_rfl) (by kernel_rfl) (by kernel_rfl) (fun _ _ _ h => h) (Or.inl ⟨by rfl, ?_⟩) (by assumption) ?_
  rotate_left
  · intro w hSw; (try dsimp only at hSw); go_simp; all_goals (with_reducible rfl)
  try simp only [Act.put, List.setIfInBounds_toArray, List.set_cons_zero, List.set_cons_succ]
  refine wpAnyH_take (i := 14) (oi := { dst := some 77, op := Op.slice 24 (Operand.tmp 74) (some (Operand.const (Value.int IntKind.i64 28))) (some (Operand.tmp 76)) none, type := 24, pos := "ref.go:67", after := #[{ on := 11, ground := Ground.data }, { on := 13, ground := Ground.data }], guard := none }) (v := ?_) rfl (by kernel_rfl) (by kernel_rfl) (by kernel_rfl) (fun _ _ _ h => h) (Or.inl ⟨by rfl, ?_⟩) (by assumption) ?_
  rotate_left
  · intro w hSw; (try dsimp only at hSw); go_simp; all_goals (with_reducible rfl)
  try simp only [Act.put, List.setIfInBounds_toArray, List.set_cons_zero, List.set_cons_succ]
  refine wpAnyH_ready (rs := [2, 10]) (by kernel_rfl) (by simp) ?_
  refine AllReadyH.cons (o := { dst := some 65, op := Op.call { callee := Callee.value (Operand.func 25), args := #[Operand.tmp 64], argTypes := #[24] }, type := 22, pos := "ref.go:67", after := #[{ on := 1, ground := Ground.data }], guard := none }) rfl (fun K hK => ?_) ?_
  · rw [if_pos (by rfl)]
    go_simp
    refine (rnumber_any _ 8 _ (fun i => f (4 + i)) (by omega) _ ((HKR.out _ hHeld).sub (p := 4) (m := 8) (by omega) (Or.inl rfl))).mono ?_
    rintro e w' ⟨rfl, hw'⟩; subst w'
    rw [← hKn.out]
    refine hK.out _ _ hHeld (fun hHeld => ?_)
    clear hK K
    try simp only [Act.put, List.setIfInBounds_toArray, List.set_cons_zero, List.set_cons_succ]
    refine wpAnyH_ready (rs := [5, 10]) (by kernel_rfl) (by simp) ?_
    refine AllReadyH.cons (o := { dst := some 68, op := Op.call { callee := Callee.value (Operand.func 25), args := #[Operand.tmp 67], argTypes := #[24] }, type := 22, pos := "ref.go:67", after := #[{ on := 4, ground := Ground.data }, { on := 2, ground := Ground.chain }], guard := none }) rfl (fun K hK => ?_) ?_
    · rw [if_pos (by rfl)]
      go_simp
      refine (rnumber_any _ 4 _ (fun i => f (12 + i)) (by omega) _ ((HKR.out _ hHeld).sub (p := 12) (m := 4) (by omega) (Or.inl rfl))).mono ?_
      rintro e w' ⟨rfl, hw'⟩; subst w'
      rw [← hSn.out]
      refine hK.out _ _ hHeld (fun hHeld => ?_)
      clear hK K
      try simp only [Act.put, List.setIfInBounds_toArray, List.set_cons_zero, List.set_cons_succ]
      refine wpAnyH_take (i := 6) (oi := { dst := some 69, op := Op.convert 22 23 (Operand.tmp 68), type := 23, pos := "ref.go:67", after := #[{ on := 5, ground := Ground.data }], guard := none }) (v := ?_) rfl (by kernel_rfl) (by kernel_rfl) (by kernel_rfl) (fun _ _ _ h => h) (Or.inl ⟨by rfl, ?_⟩) (by assumption) ?_
      rotate_left
      · intro w hSw; (try dsimp only at hSw); go_simp; all_goals (with_reducible rfl)
      try simp only [Act.put, List.setIfInBounds_toArray, List.set_cons_zero, List.set_cons_succ]
      refine wpAnyH_ready (rs := [10]) (by kernel_rfl) (by simp) ?_
      refine AllReadyH.cons (o := { dst := some 73, op := Op.buildSlice 24 0 #[], type := 24, pos := "ref.go:67", after := #[], guard := none }) rfl (fun K hK => ?_) AllReadyH.nil
      rw [if_pos (by rfl)]
      go_simp
      refine hK.out _ _ (hHeld.trans (Bx.of_bw (Below.alloc (Bw.refl _) (Nat.le_refl _) _))) (fun hHeld => ?_)
      clear hK K
      try simp only [Act.put, List.setIfInBounds_toArray, List.set_cons_zero, List.set_cons_succ]
      refine wpAnyH_ready (rs := [15]) (by kernel_rfl) (by simp) ?_
      refine AllReadyH.cons (o := { dst := some 78, op := Op.call { callee := Callee.builtin Builtin.append, args := #[Operand.tmp 73, Operand.tmp 77], argTypes := #[24, 24] }, type := 24, pos := "ref.go:67", after := #[{ on := 10, ground := Ground.data }, { on := 14, ground := Ground.data }, { on := 5, ground := Ground.chain }], guard := none }) rfl (fun K hK => ?_) AllReadyH.nil
      rw [if_pos (by rfl)]
      refine wp_append_own _ (.tmp 73) (.tmp 77) 24 (by rfl) w1.heap.size 5 i0 _ 1 1 Try.underlying24 hi0 hz0 hz1' hz2' rfl (by decide) _ 0 [] (by rfl) (own_empty w1.drew w1.heap.size _ (Nat.le_refl _)) ⟨b, o + 28, none⟩ N (ca - 28) (cellsU (fun i => f (28 + i)) N) (by rfl) (by rw [cellsU_len, Nat.mul_one]) (rowat_news ((HKR.out _ hHeld).sub (o' := o + 28) (p := 28) (m := N) (by omega) (Or.inl rfl))) (cellsU_one _ _) (by unfold maxLen; omega) (by omega) hHeld.size ?_
      intro v2 w2 hown2 hgrow2 _
      simp only [Nat.zero_add, List.nil_append] at hown2
      have hw2 : Bw w1.drew w2 := bw_fresh hgrow2
      obtain ⟨A2, c2, rfl, hcap2, hcm2, hrow2, hnew2⟩ := row_of_own (fun i => hrow.2 (28 + i)) hown2
      refine hK.out _ _ ((Bx.refl _ w1).drew.trans (Bx.of_bw hw2)) (fun hHeld => ?_)
      clear hK K
      try simp only [Act.put, List.setIfInBounds_toArray, List.set_cons_zero, List.set_cons_succ]
      refine wpAnyH_take (i := 16) (oi := { dst := some 79, op := Op.build 26 #[(0, Operand.tmp 65), (1, Operand.tmp 69), (2, Operand.tmp 72), (3, Operand.tmp 78)], type := 26, pos := "ref.go:67", after := #[{ on := 2, ground := Ground.data }, { on := 6, ground := Ground.data }, { on := 9, ground := Ground.data }, { on := 15, ground := Ground.data }], guard := none }) (v := .agg (blkCells (Kn : Int) (Sn : Int) (Hn : Int) A2 N c2)) rfl (by kernel_rfl) (by kernel_rfl) (by kernel_rfl) (fun _ _ _ h => h) (yieldsIf_build (by rfl) 26 _ rfl (blkCells (Kn : Int) (Sn : Int) (Hn : Int) A2 N c2) (by kernel_rfl)) (by assumption) ?_
      try simp only [Act.put, List.setIfInBounds_toArray, List.set_cons_zero, List.set_cons_succ]
      have hB2 := (hw2.block _ (Array.getElem?_eq_some_iff.1 hB1).1).trans hB1
      refine wpAnyH_ready (rs := [17]) (by kernel_rfl) (by simp) ?_
      refine AllReadyH.cons (o := { dst := none, op := Op.store 26 (Operand.tmp 2) (Operand.tmp 79), type := 0, pos := "ref.go:67", after := #[{ on := 16, ground := Ground.data }, { on := 15, ground := Ground.chain }, { on := 0, ground := Ground.phase }, { on := 1, ground := Ground.phase }, { on := 2, ground := Ground.phase }, { on := 3, ground := Ground.phase }, { on := 4, ground := Ground.phase }, { on := 5, ground := Ground.phase }, { on := 6, ground := Ground.phase }, { on := 7, ground := Ground.phase }, { on := 8, ground := Ground.phase }, { on := 9, ground := Ground.phase }, { on := 10, ground := Ground.phase }, { on := 11, ground := Ground.phase }, { on := 12, ground := Ground.phase }, { on := 13, ground := Ground.phase }, { on := 14, ground := Ground.phase }, { on := 15, ground := Ground.phase }, { on := 16, ground := Ground.phase }], guard := none }) rfl (fun K hK => ?_) AllReadyH.nil
      rw [if_pos (by rfl)]
      refine wp_store_row 26 _ _ rfl w.heap.size (blkCells (Kn : Int) (Sn : Int) (Hn : Int) A2 N c2) rfl rfl 26 _ hB2 (blk_info _ _ _ _ _ _) rfl (blk_all _ _ _ _ _ _) ?_
      refine hK.out _ _ (hHeld.trans ⟨rfl, rfl, rfl, by rw [size_setRow]; exact Nat.le_refl _, fun x _ hx => setRow_other w2 w.heap.size x _ (by omega)⟩) (fun hHeld => ?_)
      clear hK K
      try simp only [Act.put, List.setIfInBounds_toArray, List.set_cons_zero, List.set_cons_succ]
      refine wpAnyH_take (i := 18) (oi := { dst := some 3, op := Op.assign (Operand.const (Value.int IntKind.i64 0)), type := 28, pos := "ref.go:67", after := #[{ on := 17, ground := Ground.chain }, { on := 0, ground := Ground.phase }, { on := 1, ground := Ground.phase }, { on := 2, ground := Ground.phase }, { on := 3, ground := Ground.phase }, { on := 4, ground := Ground.phase }, { on := 5, ground := Ground.phase }, { on := 6, ground := Ground.phase }, { on := 7, ground := Ground.phase }, { on := 8, ground := Ground.phase }, { on := 9, ground := Ground.phase }, { on := 10, ground := Ground.phase }, { on := 11, ground := Ground.phase }, { on := 12, ground := Ground.phase }, { on := 13, ground := Ground.phase }, { on := 14, ground := Ground.phase }, { on := 15, ground := Ground.phase }, { on := 16, ground := Ground.phase }, { on := 17, ground := Ground.phase }], guard := none }) (v := ?_) rfl (by kernel_rfl) (by kernel_rfl) (by kernel_rfl) (fun _ _ _ h => h) (Or.inl ⟨by rfl, ?_⟩) (by assumption) ?_
      rotate_left
      · intro w hSw; (try dsimp only at hSw); go_simp; all_goals (with_reducible rfl)
      try simp only [Act.put, List.setIfInBounds_toArray, List.set_cons_zero, List.set_cons_succ]
      refine wpAnyH_done (by kernel_rfl) ?_ _
      go_wp2
      try simp only [Exit.inBlock, Exit.then]
      refine bodyPost_ret (results_row_tmp (p := 2) (u := 3) (by rfl) _ _ w.heap.size 26 (blkCells (Kn : Int) (Sn : Int) (Hn : Int) A2 N c2) (0, 0) _ (by rfl) (setRow_heap _ _ _ _ _ _ hB2) Try.underlying26 rfl (blk_info _ _ _ _ _ _)) rfl ?_
      have hbw : Bw w w2 := hal.trans (hw1.trans (Bw.trans (Bw.refl w1).drew hw2))
      have hr3 : RowAt (w2.setRow w.heap.size (blkCells (Kn : Int) (Sn : Int) (Hn : Int) A2 N c2)) A2 N (fun i => f (28 + i)) := hrow2.keepx (S := (· = w.heap.size)) ⟨rfl, rfl, rfl, by rw [size_setRow]; exact Nat.le_refl _, fun x _ hx => setRow_other w2 w.heap.size x _ (by omega)⟩ (fun x y e h0 => by have := (hnew2 _ e).1; show ¬ _ = _; simp only at this; omega)
      exact ⟨0, Kn, Sn, Hn, A2, N, c2, rfl, ⟨⟨fun e => absurd rfl e, fun _ e => absurd hmH.out e, fun _ _ e => absurd ho e, fun _ _ _ e => absurd hre e, fun _ _ _ _ => rfl⟩, fun _ => ⟨hKn.out, hSn.out, hHn.out, hN.out⟩, fun e => absurd rfl e⟩, hr3, bw_setRow hbw (Nat.le_refl _) _⟩
    refine AllReadyH.cons (o := { dst := some 73, op := Op.buildSlice 24 0 #[], type := 24, pos := "ref.go:67", after := #[], guard := none }) rfl (fun K hK => ?_) AllReadyH.nil
    rw [if_pos (by rfl)]
    go_simp
    refine hK.out _ _ (hHeld.trans (Bx.of_bw (Below.alloc (Bw.refl _) (Nat.le_refl _) _))) (fun hHeld => ?_)
    clear hK K
    try simp only [Act.put, List.setIfInBounds_toArray, List.set_cons_zero, List.set_cons_succ]
    refine wpAnyH_ready (rs := [5]) (by kernel_rfl) (by simp) ?_
    refine AllReadyH.cons (o := { dst := some 68, op := Op.call { callee := Callee.value (Operand.func 25), args := #[Operand.tmp 67], argTypes := #[24] }, type := 22, pos := "ref.go:67", after := #[{ on := 4, ground := Ground.data }, { on := 2, ground := Ground.chain }], guard := none }) rfl (fun K hK => ?_) AllReadyH.nil
    rw [if_pos (by rfl)]
    go_simp
    refine (rnumber_any _ 4 _ (fun i => f (12 + i)) (by omega) _ ((HKR.out _ hHeld).sub (p := 12) (m := 4) (by omega) (Or.inl rfl))).mono ?_
    rintro e w' ⟨rfl, hw'⟩; subst w'
    rw [← hSn.out]
    refine hK.out _ _ hHeld (fun hHeld => ?_)
    clear hK K
    try simp only [Act.put, List.setIfInBounds_toArray, List.set_cons_zero, List.set_cons_succ]
    refine wpAnyH_take (i := 6) (oi := { dst := some 69, op := Op.convert 22 23 (Operand.tmp 68), type := 23, pos := "ref.go:67", after := #[{ on := 5, ground := Ground.data }], guard := none }) (v := ?_) rfl (by kernel_rfl) (by kernel_rfl) (by kernel_rfl) (fun _ _ _ h => h) (Or.inl ⟨by rfl, ?_⟩) (by assumption) ?_
    rotate_left
    · intro w hSw; (try dsimp only at hSw); go_simp; all_goals (with_reducible rfl)
    try simp only [Act.put, List.setIfInBounds_toArray, List.set_cons_zero, List.set_cons_succ]
    refine wpAnyH_ready (rs := [15]) (by kernel_rfl) (by simp) ?_
    refine AllReadyH.cons (o := { dst := some 78, op := Op.call { callee := Callee.builtin Builtin.append, args := #[Operand.tmp 73, Operand.tmp 77], argTypes := #[24, 24] }, type := 24, pos := "ref.go:67", after := #[{ on := 10, ground := Ground.data }, { on := 14, ground := Ground.data }, { on := 5, ground := Ground.chain }], guard := none }) rfl (fun K hK => ?_) AllReadyH.nil
    rw [if_pos (by rfl)]
    refine wp_append_own _ (.tmp 73) (.tmp 77) 24 (by rfl) w1.heap.size 5 i0 _ 1 1 Try.underlying24 hi0 hz0 hz1' hz2' rfl (by decide) _ 0 [] (by rfl) (own_empty w1.drew w1.heap.size _ (Nat.le_refl _)) ⟨b, o + 28, none⟩ N (ca - 28) (cellsU (fun i => f (28 + i)) N) (by rfl) (by rw [cellsU_len, Nat.mul_one]) (rowat_news ((HKR.out _ hHeld).sub (o' := o + 28) (p := 28) (m := N) (by omega) (Or.inl rfl))) (cellsU_one _ _) (by unfold maxLen; omega) (by omega) hHeld.size ?_
    intro v2 w2 hown2 hgrow2 _
    simp only [Nat.zero_add, List.nil_append] at hown2
    have hw2 : Bw w1.drew w2 := bw_fresh hgrow2
    obtain ⟨A2, c2, rfl, hcap2, hcm2, hrow2, hnew2⟩ := row_of_own (fun i => hrow.2 (28 + i)) hown2
    refine hK.out _ _ ((Bx.refl _ w1).drew.trans (Bx.of_bw hw2)) (fun hHeld => ?_)
    clear hK K
    try simp only [Act.put, List.setIfInBounds_toArray, List.set_cons_zero, List.set_cons_succ]
    refine wpAnyH_take (i := 16) (oi := { dst := some 79, op := Op.build 26 #[(0, Operand.tmp 65), (1, Operand.tmp 69), (2, Operand.tmp 72), (3, Operand.tmp 78)], type := 26, pos := "ref.go:67", after := #[{ on := 2, ground := Ground.data }, { on := 6, ground := Ground.data }, { on := 9, ground := Ground.data }, { on := 15, ground := Ground.data }], guard := none }) (v := .agg (blkCells (Kn : Int) (Sn : Int) (Hn : Int) A2 N c2)) rfl (by kernel_rfl) (by kernel_rfl) (by kernel_rfl) (fun _ _ _ h => h) (yieldsIf_build (by rfl) 26 _ rfl (blkCells (Kn : Int) (Sn : Int) (Hn : Int) A2 N c2) (by kernel_rfl)) (by assumption) ?_
    try simp only [Act.put, List.setIfInBounds_toArray, List.set_cons_zero, List.set_cons_succ]
    have hB2 := (hw2.block _ (Array.getElem?_eq_some_iff.1 hB1).1).trans hB1
    refine wpAnyH_ready (rs := [17]) (by kernel_rfl) (by simp) ?_
    refine AllReadyH.cons (o := { dst := none, op := Op.store 26 (Operand.tmp 2) (Operand.tmp 79), type := 0, pos := "ref.go:67", after := #[{ on := 16, ground := Ground.data }, { on := 15, ground := Ground.chain }, { on := 0, ground := Ground.phase }, { on := 1, ground := Ground.phase }, { on := 2, ground := Ground.phase }, { on := 3, ground := Ground.phase }, { on := 4, ground := Ground.phase }, { on := 5, ground := Ground.phase }, { on := 6, ground := Ground.phase }, { on := 7, ground := Ground.phase }, { on := 8, ground := Ground.phase }, { on := 9, ground := Ground.phase }, { on := 10, ground := Ground.phase }, { on := 11, ground := Ground.phase }, { on := 12, ground := Ground.phase }, { on := 13, ground := Ground.phase }, { on := 14, ground := Ground.phase }, { on := 15, ground := Ground.phase }, { on := 16, ground := Ground.phase }], guard := none }) rfl (fun K hK => ?_) AllReadyH.nil
    rw [if_pos (by rfl)]
    refine wp_store_row 26 _ _ rfl w.heap.size (blkCells (Kn : Int) (Sn : Int) (Hn : Int) A2 N c2) rfl rfl 26 _ hB2 (blk_info _ _ _ _ _ _) rfl (blk_all _ _ _ _ _ _) ?_
    refine hK.out _ _ (hHeld.trans ⟨rfl, rfl, rfl, by rw [size_setRow]; exact Nat.le_refl _, fun x _ hx => setRow_other w2 w.heap.size x _ (by omega)⟩) (fun hHeld => ?_)
    clear hK K
    try simp only [Act.put, List.setIfInBounds_toArray, List.set_cons_zero, List.set_cons_succ]
    refine wpAnyH_take (i := 18) (oi := { dst := some 3, op := Op.assign (Operand.const (Value.int IntKind.i64 0)), type := 28, pos := "ref.go:67", after := #[{ on := 17, ground := Ground.chain }, { on := 0, ground := Ground.phase }, { on := 1, ground := Ground.phase }, { on := 2, ground := Ground.phase }, { on := 3, ground := Ground.phase }, { on := 4, ground := Ground.phase }, { on := 5, ground := Ground.phase }, { on := 6, ground := Ground.phase }, { on := 7, ground := Ground.phase }, { on := 8, ground := Ground.phase }, { on := 9, ground := Ground.phase }, { on := 10, ground := Ground.phase }, { on := 11, ground := Ground.phase }, { on := 12, ground := Ground.phase }, { on := 13, ground := Ground.phase }, { on := 14, ground := Ground.phase }, { on := 15, ground := Ground.phase }, { on := 16, ground := Ground.phase }, { on := 17, ground := Ground.phase }], guard := none }) (v := ?_) rfl (by kernel_rfl) (by kernel_rfl) (by kernel_rfl) (fun _ _ _ h => h) (Or.inl ⟨by rfl, ?_⟩) (by assumption) ?_
    rotate_left
    · intro w hSw; (try dsimp only at hSw); go_simp; all_goals (with_reducible rfl)
    try simp only [Act.put, List.setIfInBounds_toArray, List.set_cons_zero, List.set_cons_succ]
    refine wpAnyH_done (by kernel_rfl) ?_ _
    go_wp2
    try simp only [Exit.inBlock, Exit.then]
    refine bodyPost_ret (results_row_tmp (p := 2) (u := 3) (by rfl) _ _ w.heap.size 26 (blkCells (Kn : Int) (Sn : Int) (Hn : Int) A2 N c2) (0, 0) _ (by rfl) (setRow_heap _ _ _ _ _ _ hB2) Try.underlying26 rfl (blk_info _ _ _ _ _ _)) rfl ?_
    have hbw : Bw w w2 := hal.trans (hw1.trans (Bw.trans (Bw.refl w1).drew hw2))
    have hr3 : RowAt (w2.setRow w.heap.size (blkCells (Kn : Int) (Sn : Int) (Hn : Int) A2 N c2)) A2 N (fun i => f (28 + i)) := hrow2.keepx (S := (· = w.heap.size)) ⟨rfl, rfl, rfl, by rw [size_setRow]; exact Nat.le_refl _, fun x _ hx => setRow_other w2 w.heap.size x _ (by omega)⟩ (fun x y e h0 => by have := (hnew2 _ e).1; show ¬ _ = _; simp only at this; omega)
    exact ⟨0, Kn, Sn, Hn, A2, N, c2, rfl, ⟨⟨fun e => absurd rfl e, fun _ e => absurd hmH.out e, fun _ _ e => absurd ho e, fun _ _ _ e => absurd hre e, fun _ _ _ _ => rfl⟩, fun _ => ⟨hKn.out, hSn.out, hHn.out, hN.out⟩, fun e => absurd rfl e⟩, hr3, bw_setRow hbw (Nat.le_refl _) _⟩
  refine AllReadyH.cons (o := { dst := some 73, op := Op.buildSlice 24 0 #[], type := 24, pos := "ref.go:67", after := #[], guard := none }) rfl (fun K hK => ?_) AllReadyH.nil
  rw [if_pos (by rfl)]
  go_simp
  refine hK.out _ _ (hHeld.trans (Bx.of_bw (Below.alloc (Bw.refl _) (Nat.le_refl _) _))) (fun hHeld => ?_)
  clear hK K
  try simp only [Act.put, List.setIfInBounds_toArray, List.set_cons_zero, List.set_cons_succ]
  refine wpAnyH_ready (rs := [2]) (by kernel_rfl) (by simp) ?_
  refine AllReadyH.cons (o := { dst := some 65, op := Op.call { callee := Callee.value (Operand.func 25), args := #[Operand.tmp 64], argTypes := #[24] }, type := 22, pos := "ref.go:67", after := #[{ on := 1, ground := Ground.data }], guard := none }) rfl (fun K hK => ?_) AllReadyH.nil
  rw [if_pos (by rfl)]
  go_simp
  refine (rnumber_any _ 8 _ (fun i => f (4 + i)) (by omega) _ ((HKR.out _ hHeld).sub (p := 4) (m := 8) (by omega) (Or.inl rfl))).mono ?_
  rintro e w' ⟨rfl, hw'⟩; subst w'
  rw [← hKn.out]
  refine hK.out _ _ hHeld (fun hHeld => ?_)
  clear hK K
  try simp only [Act.put, List.setIfInBounds_toArray, List.set_cons_zero, List.set_cons_succ]
  refine wpAnyH_ready (rs := [5]) (by kernel_rfl) (by simp) ?_
  refine AllReadyH.cons (o := { dst := some 68, op := Op.call { callee := Callee.value (Operand.func 25), args := #[Operand.tmp 67], argTypes := #[24] }, type := 22, pos := "ref.go:67", after := #[{ on := 4, ground := Ground.data }, { on := 2, ground := Ground.chain }], guard := none }) rfl (fun K hK => ?_) AllReadyH.nil
  rw [if_pos (by rfl)]
  go_simp
  refine (rnumber_any _ 4 _ (fun i => f (12 + i)) (by omega) _ ((HKR.out _ hHeld).sub (p := 12) (m := 4) (by omega) (Or.inl rfl))).mono ?_
  rintro e w' ⟨rfl, hw'⟩; subst w'
  rw [← hSn.out]
  refine hK.out _ _ hHeld (fun hHeld => ?_)
  clear hK K
  try simp only [Act.put, List.setIfInBounds_toArray, List.set_cons_zero, List.set_cons_succ]
  refine wpAnyH_take (i := 6) (oi := { dst := some 69, op := Op.convert 22 23 (Operand.tmp 68), type := 23, pos := "ref.go:67", after := #[{ on := 5, ground := Ground.data }], guard := none }) (v := ?_) rfl (by kernel_rfl) (by kernel_rfl) (by kernel_rfl) (fun _ _ _ h => h) (Or.inl ⟨by rfl, ?_⟩) (by assumption) ?_
  rotate_left
  · intro w hSw; (try dsimp only at hSw); go_simp; all_goals (with_reducible rfl)
  try simp only [Act.put, List.setIfInBounds_toArray, List.set_cons_zero, List.set_cons_succ]
  refine wpAnyH_ready (rs := [15]) (by kernel_rfl) (by simp) ?_
  refine AllReadyH.cons (o := { dst := some 78, op := Op.call { callee := Callee.builtin Builtin.append, args := #[Operand.tmp 73, Operand.tmp 77], argTypes := #[24, 24] }, type := 24, pos := "ref.go:67", after := #[{ on := 10, ground := Ground.data }, { on := 14, ground := Ground.data }, { on := 5, ground := Ground.chain }], guard := none }) rfl (fun K hK => ?_) AllReadyH.nil
  rw [if_pos (by rfl)]
  refine wp_append_own _ (.tmp 73) (.tmp 77) 24 (by rfl) w1.heap.size 5 i0 _ 1 1 Try.underlying24 hi0 hz0 hz1' hz2' rfl (by decide) _ 0 [] (by rfl) (own_empty w1.drew w1.heap.size _ (Nat.le_refl _)) ⟨b, o + 28, none⟩ N (ca - 28) (cellsU (fun i => f (28 + i)) N) (by rfl) (by rw [cellsU_len, Nat.mul_one]) (rowat_news ((HKR.out _ hHeld).sub (o' := o + 28) (p := 28) (m := N) (by omega) (Or.inl rfl))) (cellsU_one _ _) (by unfold maxLen; omega) (by omega) hHeld.size ?_
  intro v2 w2 hown2 hgrow2 _
  simp only [Nat.zero_add, List.nil_append] at hown2
  have hw2 : Bw w1.drew w2 := bw_fresh hgrow2
  obtain ⟨A2, c2, rfl, hcap2, hcm2, hrow2, hnew2⟩ := row_of_own (fun i => hrow.2 (28 + i)) hown2
  refine hK.out _ _ ((Bx.refl _ w1).drew.trans (Bx.of_bw hw2)) (fun hHeld => ?_)
  clear hK K
  try simp only [Act.put, List.setIfInBounds_toArray, List.set_cons_zero, List.set_cons_succ]
  refine wpAnyH_take (i := 16) (oi := { dst := some 79, op := Op.build 26 #[(0, Operand.tmp 65), (1, Operand.tmp 69), (2, Operand.tmp 72), (3, Operand.tmp 78)], type := 26, pos := "ref.go:67", after := #[{ on := 2, ground := Ground.data }, { on := 6, ground := Ground.data }, { on := 9, ground := Ground.data }, { on := 15, ground := Ground.data }], guard := none }) (v := .agg (blkCells (Kn : Int) (Sn : Int) (Hn : Int) A2 N c2)) rfl (by kernel_rfl) (by kernel_rfl) (by kernel_rfl) (fun _ _ _ h => h) (yieldsIf_build (by rfl) 26 _ rfl (blkCells (Kn : Int) (Sn : Int) (Hn : Int) A2 N c2) (by kernel_rfl)) (by assumption) ?_
  try simp only [Act.put, List.setIfInBounds_toArray, List.set_cons_zero, List.set_cons_succ]
  have hB2 := (hw2.block _ (Array.getElem?_eq_some_iff.1 hB1).1).trans hB1
  refine wpAnyH_ready (rs := [17]) (by kernel_rfl) (by simp) ?_
  refine AllReadyH.cons (o := { dst := none, op := Op.store 26 (Operand.tmp 2) (Operand.tmp 79), type := 0, pos := "ref.go:67", after := #[{ on := 16, ground := Ground.data }, { on := 15, ground := Ground.chain }, { on := 0, ground := Ground.phase }, { on := 1, ground := Ground.phase }, { on := 2, ground := Ground.phase }, { on := 3, ground := Ground.phase }, { on := 4, ground := Ground.phase }, { on := 5, ground := Ground.phase }, { on := 6, ground := Ground.phase }, { on := 7, ground := Ground.phase }, { on := 8, ground := Ground.phase }, { on := 9, ground := Ground.phase }, { on := 10, ground := Ground.phase }, { on := 11, ground := Ground.phase }, { on := 12, ground := Ground.phase }, { on := 13, ground := Ground.phase }, { on := 14, ground := Ground.phase }, { on := 15, ground := Ground.phase }, { on := 16, ground := Ground.phase }], guard := none }) rfl (fun K hK => ?_) AllReadyH.nil
  rw [if_pos (by rfl)]
  refine wp_store_row 26 _ _ rfl w.heap.size (blkCells (Kn : Int) (Sn : Int) (Hn : Int) A2 N c2) rfl rfl 26 _ hB2 (blk_info _ _ _ _ _ _) rfl (blk_all _ _ _ _ _ _) ?_
  refine hK.out _ _ (hHeld.trans ⟨rfl, rfl, rfl, by rw [size_setRow]; exact Nat.le_refl _, fun x _ hx => setRow_other w2 w.heap.size x _ (by omega)⟩) (fun hHeld => ?_)
  clear hK K
  try simp only [Act.put, List.setIfInBounds_toArray, List.set_cons_zero, List.set_cons_succ]
  refine wpAnyH_take (i := 18) (oi := { dst := some 3, op := Op.assign (Operand.const (Value.int IntKind.i64 0)), type := 28, pos := "ref.go:67", after := #[{ on := 17, ground := Ground.chain }, { on := 0, ground := Ground.phase }, { on := 1, ground := Ground.phase }, { on := 2, ground := Ground.phase }, { on := 3, ground := Ground.phase }, { on := 4, ground := Ground.phase }, { on := 5, ground := Ground.phase }, { on := 6, ground := Ground.phase }, { on := 7, ground := Ground.phase }, { on := 8, ground := Ground.phase }, { on := 9, ground := Ground.phase }, { on := 10, ground := Ground.phase }, { on := 11, ground := Ground.phase }, { on := 12, ground := Ground.phase }, { on := 13, ground := Ground.phase }, { on := 14, ground := Ground.phase }, { on := 15, ground := Ground.phase }, { on := 16, ground := Ground.phase }, { on := 17, ground := Ground.phase }], guard := none }) (v := ?_) rfl (by kernel_rfl) (by kernel_rfl) (by kernel_rfl) (fun _ _ _ h => h) (Or.inl ⟨by rfl, ?_⟩) (by assumption) ?_
  rotate_left
  · intro w hSw; (try dsimp only at hSw); go_simp; all_goals (with_reducible rfl)
  try simp only [Act.put, List.setIfInBounds_toArray, List.set_cons_zero, List.set_cons_succ]
  refine wpAnyH_done (by kernel_rfl) ?_ _
  go_wp2
  try simp only [Exit.inBlock, Exit.then]
  refine bodyPost_ret (results_row_tmp (p := 2) (u := 3) (by rfl) _ _ w.heap.size 26 (blkCells (Kn : Int) (Sn : Int) (Hn : Int) A2 N c2) (0, 0) _ (by rfl) (setRow_heap _ _ _ _ _ _ hB2) Try.underlying26 rfl (blk_info _ _ _ _ _ _)) rfl ?_
  have hbw : Bw w w2 := hal.trans (hw1.trans (Bw.trans (Bw.refl w1).drew hw2))
  have hr3 : RowAt (w2.setRow w.heap.size (blkCells (Kn : Int) (Sn : Int) (Hn : Int) A2 N c2)) A2 N (fun i => f (28 + i)) := hrow2.keepx (S := (· = w.heap.size)) ⟨rfl, rfl, rfl, by rw [size_setRow]; exact Nat.le_refl _, fun x _ hx => setRow_other w2 w.heap.size x _ (by omega)⟩ (fun x y e h0 => by have := (hnew2 _ e).1; show ¬ _ = _; simp only at this; omega)
  exact ⟨0, Kn, Sn, Hn, A2, N, c2, rfl, ⟨⟨fun e => absurd rfl e, fun _ e => absurd hmH.out e, fun _ _ e => absurd ho e, fun _ _ _ e => absurd hre e, fun _ _ _ _ => rfl⟩, fun _ => ⟨hKn.out, hSn.out, hHn.out, hN.out⟩, fun e => absurd rfl e⟩, hr3, bw_setRow hbw (Nat.le_refl _) _⟩

end Go.Proofs.Ytcnafcoifhdigaa
