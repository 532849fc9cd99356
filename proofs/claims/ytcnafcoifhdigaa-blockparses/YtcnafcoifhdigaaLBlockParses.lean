/- Proved: for every row of bytes and every block the statement BlockParses answers true (the document's P6.2 and P6.3: any bytes, and the same with their sum made right, are read as the block that they are, or refused), with no condition but the reach. -/
import Derived.Test.YtcnafcoifhdigaaGH
import Derived.BigRegion
import Derived.Test.YtcnafcoifhdigaaFk
import Derived.ShutString
import Derived.ChangeOld
namespace Go.Proofs.Ytcnafcoifhdigaa.blockParses
open Go.ChangeShapes Go.WideShapes Go.ChangeAt Go.RowKit
set_option linter.unusedVariables false

set_option linter.unusedSimpArgs false
attribute [local go_sem] List.getElem?_cons_zero Option.getD_some
theorem own_nil6 {W : World} {base : Nat} {e : TypeId} {size n c m : Nat} {A : Option Addr} {xs : List Value} (h : W.ownsRow base e size (.slice A n c) m xs) : A = none → c = 0 := by
  rcases h.2 with ⟨e1, _⟩ | ⟨g, cap, cur, e1, _⟩
  · cases e1; intro _; rfl
  · cases e1; intro e2; cases e2
theorem neq_bool6 (W : World) (a : Bool) : (binOp .neq 4 (.bool a) (.bool a)).run Try.prog W = .ok (.bool false) W := by
  have h : (Op.equal 4 (.bool a) (.bool a)).run Try.prog W = .ok (a == a) W := equalIn_bool6 W 9999 a a
  simp only [binOp]
  simp [h]
set_option maxRecDepth 100000 in
set_option maxHeartbeats 4000000 in
theorem parses_great (B : Option Addr) (L ca : Nat) (f : Nat → Int) (kk ss hh : Nat) (D : Option Addr) (ld cd : Nat) (dd : Nat → Int) (w : World) (hb : InRow w B L ca f) (hi : InBlk w kk ss hh D ld cd dd) (h1 : 4096 < L) :
    Calls Try.prog 4 #[.slice B L ca, .agg #[.int .u64 (kk : Int), .int .u32 (ss : Int), .int .u8 (hh : Int), .slice D ld cd]] w fun e w' => e = .returned (.bool true) ∧ Bw w w' := by
  have hal : Bw w (w.alloc (.cells #[.int .u64 (kk : Int), .int .u32 (ss : Int), .int .u8 (hh : Int), .slice D ld cd] 26)) := bw_alloc (Bw.refl _) _
  have h1' : (4096 : Int) < (L : Int) := by omega
  go_enter Try.func4, Try.ntmps4
  go_wp2_with (go_at_call 8; refine (wakes6_any _).mono ?_; rintro e w99 ⟨rfl, hw99⟩)
  go_ret
  exact ⟨rfl, hal.trans hw99⟩

set_option maxRecDepth 100000 in
set_option maxHeartbeats 4000000 in
theorem parses_other (B : Option Addr) (L ca : Nat) (f : Nat → Int) (kk ss hh : Nat) (D : Option Addr) (ld cd : Nat) (dd : Nat → Int) (w : World) (hb : InRow w B L ca f) (hi : InBlk w kk ss hh D ld cd dd) (h1 : L ≤ 4096) (h2 : ¬ L = 128) :
    Calls Try.prog 4 #[.slice B L ca, .agg #[.int .u64 (kk : Int), .int .u32 (ss : Int), .int .u8 (hh : Int), .slice D ld cd]] w fun e w' => e = .returned (.bool true) ∧ Bw w w' := by
  obtain ⟨i0, hi0, hz0, hz1, hz2⟩ := info_parts info_u8
  obtain ⟨W0, hW0⟩ : ∃ W0, W0 = w.alloc (.cells #[.int .u64 (kk : Int), .int .u32 (ss : Int), .int .u8 (hh : Int), .slice D ld cd] 26) := ⟨_, rfl⟩
  have hal : Bw w W0 := by rw [hW0]; exact bw_alloc (Bw.refl _) _
  have hBo : BlkAt W0 w.heap.size (kk : Int) (ss : Int) (hh : Int) D ld cd := by rw [hW0]; exact heap_alloc_new _ _
  have hs0 : Hid (W0.heap.size = w.heap.size + 1) := by show _ = _; rw [hW0, size_alloc]
  have hoe : Hid ((W0.alloc (.cells #[] 5)).ownsRow (w.heap.size + 1) 5 1 (.slice (some ⟨w.heap.size + 1, 0, none⟩) 0 0) 0 []) := by
    have := own_empty W0 W0.heap.size 5 (Nat.le_refl _)
    rw [hs0.out] at this
    exact this
  have hra := hb.row.keep hal
  have hnil := hb.nil
  have hmx : 0 + L ≤ maxLen := by unfold maxLen; omega
  have h1' : ¬ (4096 : Int) < (L : Int) := by omega
  have h2' : ((L : Int) == 128) = false := by rw [beq_eq_false_iff_ne]; omega
  go_enter Try.func4, Try.ntmps4
  go_wp2_with (at_builtin; rw [← hW0]; clear hW0; refine wpList_append_rowat _ (by rfl) (.tmp 19) (.tmp 20) _ (by rfl) (w.heap.size + 1) 5 i0 _ 1 Try.underlying24 hi0 hz0 hz1 hz2 rfl _ _ _ (by rfl) hoe.out B L ca f (by rfl) (hra.keep (bw_alloc (Bw.refl _) _)) hnil hmx (by omega) (by rw [size_alloc]; have := hs0.out; omega) ?_; intro v1 w1 hown1 hgrow1; simp only [Nat.zero_add, List.nil_append] at hown1; rw [← hs0.out] at hgrow1; have hw1 := bw_fresh hgrow1; obtain ⟨A1, c1, rfl, hc1, hmine1⟩ := mine_of6 hb.row.2 hown1; have hc0 : Hid (A1 = none → c1 = 0) := own_nil6 hown1; clear hown1 hgrow1)
  have hnilA : A1 = none → c1 = 0 := hc0.out
  have hw3 := bw_alloc (Bw.refl w1) (.cells #[.slice B L ca, .slice A1 L c1] 24)
  have hgb := heap_alloc_new w1 (.cells #[.slice B L ca, .slice A1 L c1] 24)
  generalize w1.alloc (.cells #[.slice B L ca, .slice A1 L c1] 24) = W3 at hw3 hgb ⊢
  have hbw3 : Bw W0 W3 := hw1.trans hw3
  have hboth : Hid (∀ j, j < 2 → ∃ (B1 : Option Addr) (n cb : Nat) (R : Nat → Int), (∀ W, Bw W3 W → W.cell? ⟨w1.heap.size, j, none⟩ = some (.slice B1 n cb)) ∧ RowAt W3 B1 n R ∧ n ≤ cb ∧ (B1 = none → cb = 0) ∧ n ≤ 4096) := fun j hj => by
    have hj2 : j = 0 ∨ j = 1 := by omega
    rcases hj2 with rfl | rfl
    · exact ⟨B, L, ca, f, fun W hW => (cell_later hW (cell_of_row W3 _ 0 _ _ _ hgb)), hra.keep hbw3, hb.le, hb.nil, by omega⟩
    · exact ⟨A1, L, c1, f, fun W hW => (cell_later hW (cell_of_row W3 _ 1 _ _ _ hgb)), (hmine1.row).keep hw3, hmine1.le, hnilA, by omega⟩
  have hBo3 := hBo.keep hbw3
  obtain ⟨gb, hgbe⟩ : ∃ gb, gb = w1.heap.size := ⟨_, rfl⟩
  rw [← hgbe] at hboth ⊢
  have hgb3 : gb < W3.heap.size := by rw [hgbe]; exact (Array.getElem?_eq_some_iff.1 hgb).1
  clear hgbe hgb
  clear hra hBo
  go_loopw [4, 7] (fun v i wr => ∃ j : Nat, j ≤ 2 ∧ v = .bool false ∧ i = .int .i64 j ∧ Bw W3 wr) (fun _ i _ => 2 - (intOf i).toNat)
  case atStart => exact ⟨0, by omega, rfl, rfl, Bw.refl _⟩
  case round =>
    obtain ⟨j, hj, rfl, rfl, hwo⟩ := hrel
    rename World => wo
    by_cases hlt : j < 2
    · obtain ⟨B1, n, cb, R, hcell, hrB, hle1, hnil1, hn4⟩ := hboth.out j hlt
      have hcH : Hid (∀ W, Bw W3 W → W.cell? ⟨gb, j, none⟩ = some (.slice B1 n cb)) := hcell
      have cq0 := hcell _ (hwo.trans (bw_alloc (Bw.refl wo) (.cells #[] 5)))
      clear hcell
      have j0 : (0 : Int) ≤ (j : Int) := Int.natCast_nonneg _
      have j1 : (j : Int) < 2 := by omega
      have hmx1 : 0 + n ≤ maxLen := by unfold maxLen; omega
      have hrBo := hrB.keep hwo
      have hBoo := hBo3.keep hwo
      go_wp2_with (first | (at_builtin; refine wpList_append_rowat _ (by rfl) (.tmp 37) (.tmp 41) _ (by rfl) wo.heap.size 5 i0 _ 1 Try.underlying24 hi0 hz0 hz1 hz2 rfl _ _ _ (by rfl) (own_empty wo wo.heap.size _ (Nat.le_refl _)) B1 n cb R (by rfl) (hrBo.keep (bw_alloc (Bw.refl _) _)) hnil1 hmx1 (by omega) (by simp) ?_; intro v5 w1' hown5 hgrow5; simp only [Nat.zero_add, List.nil_append] at hown5; have hw1' := bw_fresh hgrow5; obtain ⟨A5, c5, rfl, hc5, hmine5⟩ := mine_of6 hrB.2 hown5; clear hown5 hgrow5 cq0) | (go_at_call 12; refine (parse_any A5 n c5 R _ hmine5.row hmine5.le).mono ?_; rintro e w2 ⟨er, k, s, h, A2, n2, c2, rfl, hs2, hrow2, -, -, hw2⟩) | (refine wpList_store_row rfl 26 _ _ rfl w2.heap.size (blkCells (k : Int) (s : Int) (h : Int) A2 n2 c2) rfl rfl 26 _ (heap_alloc_new _ _) (blk_info _ _ _ _ _ _) rfl (blk_all _ _ _ _ _ _) ?_; rw [setRow_alloc_new]; have hBb3 := blk_new w2 (k : Int) (s : Int) (h : Int) A2 n2 c2; have hw3' := bw_alloc (Bw.refl w2) (.cells (blkCells (k : Int) (s : Int) (h : Int) A2 n2 c2) 26); generalize w2.alloc (.cells (blkCells (k : Int) (s : Int) (h : Int) A2 n2 c2) 26) = w3 at hBb3 hw3' ⊢; have hb3 : Bw wo w3 := hw1'.trans (hw2.trans hw3'); obtain ⟨ko0, ko1, ko2, ko3⟩ := BlkAt.cells (hBoo.keep hb3)) | (go_at_call 13; refine (is_any A5 n c5 R kk ss hh _ (hmine5.row.keep (hw2.trans hw3')) hmine5.le).mono ?_; rintro e w4 ⟨⟨x, rfl, hxi'⟩, hw4⟩; have hxi : Hid (x = true ↔ IsOf n R kk ss hh) := hxi'; clear hxi' ko0 ko1 ko2 ko3))
      have hb4 : Bw wo w4 := hb3.trans hw4
      have hrm4 := hmine5.row.keep (hw2.trans (hw3'.trans hw4))
      have hrB4 := hrBo.keep hb4
      have hcb4 : Hid (∀ W, Bw w4 W → W.cell? ⟨gb, j, none⟩ = some (.slice B1 n cb)) := fun W hW => hcH.out W (hwo.trans (hb4.trans hW))
      refine wp_region_held_drew (S := fun w' => Bw w4 w') (by kernel_rfl) ((Below.refl _ _).drew) (fun hHeld => ?_)
      refine wpAnyH_take (i := 0) (oi := { dst := some 56, op := Op.move (Operand.tmp 8), type := 24, pos := "law.go:50", after := #[], guard := none }) (v := ?_) rfl (by kernel_rfl) (by kernel_rfl) (by kernel_rfl) (fun _ _ _ h => h) (Or.inl ⟨by rfl, ?_⟩) (by assumption) ?_
      rotate_left
      · intro w hSw; (try dsimp only at hSw); go_simp; all_goals (with_reducible rfl)
      try simp only [Act.put, List.setIfInBounds_toArray, List.set_cons_zero, List.set_cons_succ]
      refine wpAnyH_take (i := 1) (oi := { dst := some 57, op := Op.convert 24 9 (Operand.tmp 56), type := 9, pos := "law.go:50", after := #[{ on := 0, ground := Ground.data }], guard := none }) (v := ?_) rfl (by kernel_rfl) (by kernel_rfl) (by kernel_rfl) (fun _ _ _ h => h) (Or.inl ⟨by rfl, ?_⟩) (by assumption) ?_
      rotate_left
      · intro w hSw; (try dsimp only at hSw); have cv := conv_row (C := c5) (hrm4.keep hSw); go_simp; all_goals (with_reducible rfl)
      try simp only [Act.put, List.setIfInBounds_toArray, List.set_cons_zero, List.set_cons_succ]
      refine wpAnyH_take (i := 2) (oi := { dst := some 58, op := Op.move (Operand.tmp 6), type := 33, pos := "law.go:50", after := #[], guard := none }) (v := ?_) rfl (by kernel_rfl) (by kernel_rfl) (by kernel_rfl) (fun _ _ _ h => h) (Or.inl ⟨by rfl, ?_⟩) (by assumption) ?_
      rotate_left
      · intro w hSw; (try dsimp only at hSw); go_simp; all_goals (with_reducible rfl)
      try simp only [Act.put, List.setIfInBounds_toArray, List.set_cons_zero, List.set_cons_succ]
      refine wpAnyH_take (i := 3) (oi := { dst := some 59, op := Op.move (Operand.tmp 7), type := 3, pos := "law.go:50", after := #[], guard := none }) (v := ?_) rfl (by kernel_rfl) (by kernel_rfl) (by kernel_rfl) (fun _ _ _ h => h) (Or.inl ⟨by rfl, ?_⟩) (by assumption) ?_
      rotate_left
      · intro w hSw; (try dsimp only at hSw); go_simp; all_goals (with_reducible rfl)
      try simp only [Act.put, List.setIfInBounds_toArray, List.set_cons_zero, List.set_cons_succ]
      refine wpAnyH_take (i := 4) (oi := { dst := some 60, op := Op.indexAddr 33 (Operand.tmp 58) (Operand.tmp 59), type := 0, pos := "law.go:50", after := #[{ on := 2, ground := Ground.data }, { on := 3, ground := Ground.data }], guard := none }) (v := ?_) rfl (by kernel_rfl) (by kernel_rfl) (by kernel_rfl) (fun _ _ _ h => h) (Or.inl ⟨by rfl, ?_⟩) (by assumption) ?_
      rotate_left
      · intro w hSw; (try dsimp only at hSw); go_simp; all_goals (with_reducible rfl)
      try simp only [Act.put, List.setIfInBounds_toArray, List.set_cons_zero, List.set_cons_succ]
      refine wpAnyH_take (i := 5) (oi := { dst := some 61, op := Op.load 24 (Operand.tmp 60), type := 24, pos := "law.go:50", after := #[{ on := 4, ground := Ground.data }], guard := none }) (v := ?_) rfl (by kernel_rfl) (by kernel_rfl) (by kernel_rfl) (fun _ _ _ h => h) (Or.inl ⟨by rfl, ?_⟩) (by assumption) ?_
      rotate_left
      · intro w hSw; (try dsimp only at hSw); have cq := hcb4.out _ hSw; go_simp; all_goals (with_reducible rfl)
      try simp only [Act.put, List.setIfInBounds_toArray, List.set_cons_zero, List.set_cons_succ]
      refine wpAnyH_take (i := 6) (oi := { dst := some 62, op := Op.convert 24 9 (Operand.tmp 61), type := 9, pos := "law.go:50", after := #[{ on := 5, ground := Ground.data }], guard := none }) (v := ?_) rfl (by kernel_rfl) (by kernel_rfl) (by kernel_rfl) (fun _ _ _ h => h) (Or.inl ⟨by rfl, ?_⟩) (by assumption) ?_
      rotate_left
      · intro w hSw; (try dsimp only at hSw); have cv := conv_row (C := cb) (hrB4.keep hSw); go_simp; all_goals (with_reducible rfl)
      try simp only [Act.put, List.setIfInBounds_toArray, List.set_cons_zero, List.set_cons_succ]
      refine wpAnyH_take (i := 7) (oi := { dst := some 63, op := Op.binOp BinOp.neq 9 (Operand.tmp 57) (Operand.tmp 62) 9, type := 4, pos := "law.go:50", after := #[{ on := 1, ground := Ground.data }, { on := 6, ground := Ground.data }], guard := none }) (v := ?_) rfl (by kernel_rfl) (by kernel_rfl) (by kernel_rfl) (fun _ _ _ h => h) (Or.inl ⟨by rfl, ?_⟩) (by assumption) ?_
      rotate_left
      · intro w hSw; (try dsimp only at hSw); go_simp; all_goals (with_reducible rfl)
      try simp only [Act.put, List.setIfInBounds_toArray, List.set_cons_zero, List.set_cons_succ]
      refine wpAnyH_done (by kernel_rfl) ?_ _
      have hown4' : Hid (0 < n → ∃ g F, A5 = some ⟨g, 0, none⟩ ∧ wo.heap.size ≤ g ∧ Own w4.drew g n F) := fun hp => by
        obtain ⟨g, e, hg, hl, ho⟩ := hmine5.own hp
        exact ⟨g, R, e, hg, (ho.keep (hw2.trans (hw3'.trans hw4))).keep (Bw.refl w4).drew⟩
      have hS : Hid (∀ b, (0 < n ∧ A5 = some ⟨b, 0, none⟩) → wo.heap.size ≤ b ∧ b < w1'.heap.size) := fun b hbb => by
        obtain ⟨g, e, hg, hl, ho⟩ := hmine5.own hbb.1
        rw [hbb.2] at e
        cases e
        exact ⟨hg, hl⟩
      have sz2 := hw2.size
      have sz3 := hw3'.size
      have sz4 := hw4.size
      have szo := hwo.size
      clear hmine5 hrm4 hcb4 hmx1 hrBo
      go_wp2
      go_loopw [12] (fun i wr => ∃ m : Nat, m ≤ n ∧ i = .int .i64 m ∧ Hid (0 < n → ∃ g F, A5 = some ⟨g, 0, none⟩ ∧ wo.heap.size ≤ g ∧ Own wr g n F) ∧ Bx (fun b => 0 < n ∧ A5 = some ⟨b, 0, none⟩) w4 wr) (fun i _ => n - (intOf i).toNat)
      case atStart => exact ⟨0, Nat.zero_le _, rfl, hown4', (Bx.refl _ w4).drew⟩
      case round =>
        obtain ⟨m, hm, rfl, hown, hx⟩ := hrel
        by_cases hlt2 : m < n
        · obtain ⟨g, F, e1, hg, ho⟩ := hown.out (by omega)
          obtain ⟨d1, d2⟩ := ho.cell hlt2
          clear hown hown4'
          subst e1
          go_wp2
          generalize bits BinOp.xor IntKind.u8 (if IntKind.u8.signed = true then -1 else IntKind.u8.max) (F m) = z
          go_roundw
          case rel =>
            refine ⟨m + 1, by omega, by go_num, fun _ => ⟨g, fun c => if c = m then z else F c, rfl, hg, ho.set hlt2 (by rw [if_pos rfl]) (fun c _ hc => by rw [if_neg hc])⟩, hx.put ⟨by omega, rfl⟩⟩
          case measure => simp [intOf]; omega
        · have em : n = m := by omega
          subst em
          have hbr : Bw wo wr := Below.trans hb4 (hx.below hb4.size (fun b hbb => (hS.out b hbb).1))
          have hcbr : Hid (∀ W, Bw wr W → W.cell? ⟨gb, j, none⟩ = some (.slice B1 n cb)) := fun W hW => hcH.out W (hwo.trans (hbr.trans hW))
          have cqr := hcbr.out _ (Bw.refl wr)
          have hrBr := (hrB.keep hwo).keep hbr
          have hrbr := hrow2.row.keep hw3' |>.keep hw4
          have hrbr2 := hrbr.keepx hx (fun b o e hp hbb => by
            rcases hrow2.new with h1 | ⟨g3, o3, e3, h1, h2⟩
            · omega
            · rw [e] at e3
              cases e3
              have := (hS.out b hbb).2
              omega)
          have hBbr := (hBb3.keep hw4).keepx hx (fun hbb => by have := (hS.out _ hbb).2; omega)
          have hBor := hBoo.keep hbr
          have hsm : Hid (Blk.Says n R er k s h n2) := hs2
          clear hown hown4' hx hS hs2 hrow2 hrbr hrB4 hBb3
          go_wp2_with (first | (go_at_call 14; refine (rparse_any B1 n cb R _ hrBr hle1).mono ?_; rintro e w6 ⟨er6, k6, s6, h6, A6, n6, c6, rfl, hs6, hrow6, hw6⟩; obtain ⟨rfl, rfl, rfl, rfl, rfl⟩ := Blk.says_unique hsm.out hs6; clear hs6 cqr) | (refine wpList_store_row rfl 26 _ _ rfl w6.heap.size (blkCells (k : Int) (s : Int) (h : Int) A6 n2 c6) rfl rfl 26 _ (heap_alloc_new _ _) (blk_info _ _ _ _ _ _) rfl (blk_all _ _ _ _ _ _) ?_; rw [setRow_alloc_new]; have hBc7 := blk_new w6 (k : Int) (s : Int) (h : Int) A6 n2 c6; have hw7 := bw_alloc (Bw.refl w6) (.cells (blkCells (k : Int) (s : Int) (h : Int) A6 n2 c6) 26); generalize w6.alloc (.cells (blkCells (k : Int) (s : Int) (h : Int) A6 n2 c6) 26) = w7 at hBc7 hw7 ⊢))
          have hb7 := hw6.trans hw7
          have hBb7 := hBbr.keep hb7
          have hrb7 := hrbr2.keep hb7
          have hrc7 := hrow6.keep hw7
          have hBo7 := hBor.keep hb7
          have hrB7 := hrBr.keep hb7
          have hcb7 : Hid (∀ W, Bw w7 W → W.cell? ⟨gb, j, none⟩ = some (.slice B1 n cb)) := fun W hW => hcbr.out W (hb7.trans hW)
          clear hcbr hBbr hrbr2 hrow6 hBor hrBr
          refine wp_region_held_drew (S := fun w' => Bw w7 w') (by kernel_rfl) ((Below.refl _ _).drew) (fun hHeld => ?_)
          have hdrew : Bw w7 w7.drew := (Bw.refl _).drew
          refine wpAnyH_take (i := 0) (oi := { dst := some 86, op := Op.move (Operand.tmp 10), type := 28, pos := "law.go:57", after := #[], guard := none }) (v := ?_) rfl (by kernel_rfl) (by kernel_rfl) (by kernel_rfl) (fun _ _ _ h => h) (Or.inl ⟨by rfl, ?_⟩) (by assumption) ?_
          rotate_left
          · intro w hSw; (try dsimp only at hSw); go_simp; all_goals (with_reducible rfl)
          try simp only [Act.put, List.setIfInBounds_toArray, List.set_cons_zero, List.set_cons_succ]
          refine wpAnyH_take (i := 1) (oi := { dst := some 87, op := Op.move (Operand.tmp 14), type := 28, pos := "law.go:57", after := #[], guard := none }) (v := ?_) rfl (by kernel_rfl) (by kernel_rfl) (by kernel_rfl) (fun _ _ _ h => h) (Or.inl ⟨by rfl, ?_⟩) (by assumption) ?_
          rotate_left
          · intro w hSw; (try dsimp only at hSw); go_simp; all_goals (with_reducible rfl)
          try simp only [Act.put, List.setIfInBounds_toArray, List.set_cons_zero, List.set_cons_succ]
          refine wpAnyH_take (i := 2) (oi := { dst := some 88, op := Op.binOp BinOp.neq 28 (Operand.tmp 86) (Operand.tmp 87) 28, type := 4, pos := "law.go:57", after := #[{ on := 0, ground := Ground.data }, { on := 1, ground := Ground.data }], guard := none }) (v := ?_) rfl (by kernel_rfl) (by kernel_rfl) (by kernel_rfl) (fun _ _ _ h => h) (Or.inl ⟨by rfl, ?_⟩) (by assumption) ?_
          rotate_left
          · intro w hSw; (try dsimp only at hSw); have hne : (er != er) = false := bne_self_eq_false' er; go_simp; all_goals (with_reducible rfl)
          try simp only [Act.put, List.setIfInBounds_toArray, List.set_cons_zero, List.set_cons_succ]
          refine wpAnyH_take (i := 3) (oi := { dst := some 89, op := Op.move (Operand.tmp 88), type := 4, pos := "law.go:57", after := #[{ on := 2, ground := Ground.data }], guard := none }) (v := ?_) rfl (by kernel_rfl) (by kernel_rfl) (by kernel_rfl) (fun _ _ _ h => h) (Or.inl ⟨by rfl, ?_⟩) (by assumption) ?_
          rotate_left
          · intro w hSw; (try dsimp only at hSw); go_simp; all_goals (with_reducible rfl)
          try simp only [Act.put, List.setIfInBounds_toArray, List.set_cons_zero, List.set_cons_succ]
          refine wpAnyH_take (i := 4) (oi := { dst := some 90, op := Op.load 26 (Operand.tmp 9), type := 26, pos := "law.go:57", after := #[{ on := 3, ground := Ground.guard }], guard := some (3, false) }) (v := _) rfl (by kernel_rfl) (by kernel_rfl) (by kernel_rfl) (fun _ _ _ h => h) (yieldsIf_load_blk (by rfl) _ rfl w2.heap.size rfl (fun w' h' => hBb7.keep h')) (by assumption) ?_
          try simp only [Act.put, List.setIfInBounds_toArray, List.set_cons_zero, List.set_cons_succ]
          refine wpAnyH_take (i := 5) (oi := { dst := some 91, op := Op.load 26 (Operand.tmp 13), type := 26, pos := "law.go:57", after := #[{ on := 3, ground := Ground.guard }], guard := some (3, false) }) (v := _) rfl (by kernel_rfl) (by kernel_rfl) (by kernel_rfl) (fun _ _ _ h => h) (yieldsIf_load_blk (by rfl) _ rfl w6.heap.size rfl (fun w' h' => hBc7.keep h')) (by assumption) ?_
          try simp only [Act.put, List.setIfInBounds_toArray, List.set_cons_zero, List.set_cons_succ]
          refine wpAnyH_ready (rs := [6]) (by kernel_rfl) (by simp) ?_
          refine AllReadyH.cons (o := { dst := some 92, op := Op.call { callee := Callee.value (Operand.func 15), args := #[Operand.tmp 90, Operand.tmp 91], argTypes := #[26, 26] }, type := 4, pos := "law.go:57", after := #[{ on := 4, ground := Ground.data }, { on := 5, ground := Ground.data }, { on := 3, ground := Ground.chain }, { on := 3, ground := Ground.guard }], guard := some (3, false) }) rfl (fun K hK => ?_) AllReadyH.nil
          go_simp
          refine (same_any k s h k s h A2 A6 n2 n2 c2 c6 (fun i => R (28 + i)) (fun i => R (28 + i)) _ (hrb7.keep hdrew) (hrc7.keep hdrew)).mono ?_
          rintro e w8 ⟨⟨y, rfl, hy⟩, hw8⟩
          obtain rfl : y = true := hy.2 ⟨rfl, rfl, rfl, rfl, fun _ _ => rfl⟩
          clear hy
          have hb8 := Bw.trans hdrew hw8
          refine hK.out _ _ hb8 (fun hHeld => ?_)
          clear hK K
          try simp only [Act.put, List.setIfInBounds_toArray, List.set_cons_zero, List.set_cons_succ]
          refine wpAnyH_take (i := 7) (oi := { dst := some 93, op := Op.unOp UnOp.not 4 (Operand.tmp 92), type := 4, pos := "law.go:57", after := #[{ on := 6, ground := Ground.data }, { on := 3, ground := Ground.guard }], guard := some (3, false) }) (v := ?_) rfl (by kernel_rfl) (by kernel_rfl) (by kernel_rfl) (fun _ _ _ h => h) (Or.inl ⟨by rfl, ?_⟩) (by assumption) ?_
          rotate_left
          · intro w hSw; (try dsimp only at hSw); go_simp; all_goals (with_reducible rfl)
          try simp only [Act.put, List.setIfInBounds_toArray, List.set_cons_zero, List.set_cons_succ]
          refine wpAnyH_take (i := 8) (oi := { dst := some 94, op := Op.pick (Operand.tmp 89) (Operand.const (Value.bool true)) (Operand.tmp 93), type := 4, pos := "law.go:57", after := #[{ on := 3, ground := Ground.data }, { on := 7, ground := Ground.data }], guard := none }) (v := ?_) rfl (by kernel_rfl) (by kernel_rfl) (by kernel_rfl) (fun _ _ _ h => h) (Or.inl ⟨by rfl, ?_⟩) (by assumption) ?_
          rotate_left
          · intro w hSw; (try dsimp only at hSw); go_simp; all_goals (with_reducible rfl)
          try simp only [Act.put, List.setIfInBounds_toArray, List.set_cons_zero, List.set_cons_succ]
          refine wpAnyH_take (i := 9) (oi := { dst := some 95, op := Op.move (Operand.tmp 94), type := 4, pos := "law.go:57", after := #[{ on := 8, ground := Ground.data }, { on := 6, ground := Ground.chain }], guard := none }) (v := ?_) rfl (by kernel_rfl) (by kernel_rfl) (by kernel_rfl) (fun _ _ _ h => h) (Or.inl ⟨by rfl, ?_⟩) (by assumption) ?_
          rotate_left
          · intro w hSw; (try dsimp only at hSw); go_simp; all_goals (with_reducible rfl)
          try simp only [Act.put, List.setIfInBounds_toArray, List.set_cons_zero, List.set_cons_succ]
          refine wpAnyH_take (i := 10) (oi := { dst := some 96, op := Op.move (Operand.tmp 11), type := 4, pos := "law.go:57", after := #[{ on := 9, ground := Ground.guard }], guard := some (9, false) }) (v := ?_) rfl (by kernel_rfl) (by kernel_rfl) (by kernel_rfl) (fun _ _ _ h => h) (Or.inl ⟨by rfl, ?_⟩) (by assumption) ?_
          rotate_left
          · intro w hSw; (try dsimp only at hSw); go_simp; all_goals (with_reducible rfl)
          try simp only [Act.put, List.setIfInBounds_toArray, List.set_cons_zero, List.set_cons_succ]
          refine wpAnyH_take (i := 11) (oi := { dst := some 97, op := Op.move (Operand.tmp 6), type := 33, pos := "law.go:57", after := #[{ on := 9, ground := Ground.guard }], guard := some (9, false) }) (v := ?_) rfl (by kernel_rfl) (by kernel_rfl) (by kernel_rfl) (fun _ _ _ h => h) (Or.inl ⟨by rfl, ?_⟩) (by assumption) ?_
          rotate_left
          · intro w hSw; (try dsimp only at hSw); go_simp; all_goals (with_reducible rfl)
          try simp only [Act.put, List.setIfInBounds_toArray, List.set_cons_zero, List.set_cons_succ]
          refine wpAnyH_take (i := 12) (oi := { dst := some 98, op := Op.move (Operand.tmp 7), type := 3, pos := "law.go:57", after := #[{ on := 9, ground := Ground.guard }], guard := some (9, false) }) (v := ?_) rfl (by kernel_rfl) (by kernel_rfl) (by kernel_rfl) (fun _ _ _ h => h) (Or.inl ⟨by rfl, ?_⟩) (by assumption) ?_
          rotate_left
          · intro w hSw; (try dsimp only at hSw); go_simp; all_goals (with_reducible rfl)
          try simp only [Act.put, List.setIfInBounds_toArray, List.set_cons_zero, List.set_cons_succ]
          refine wpAnyH_take (i := 13) (oi := { dst := some 99, op := Op.indexAddr 33 (Operand.tmp 97) (Operand.tmp 98), type := 0, pos := "law.go:57", after := #[{ on := 11, ground := Ground.data }, { on := 12, ground := Ground.data }, { on := 9, ground := Ground.guard }], guard := some (9, false) }) (v := ?_) rfl (by kernel_rfl) (by kernel_rfl) (by kernel_rfl) (fun _ _ _ h => h) (Or.inl ⟨by rfl, ?_⟩) (by assumption) ?_
          rotate_left
          · intro w hSw; (try dsimp only at hSw); go_simp; all_goals (with_reducible rfl)
          try simp only [Act.put, List.setIfInBounds_toArray, List.set_cons_zero, List.set_cons_succ]
          refine wpAnyH_take (i := 14) (oi := { dst := some 100, op := Op.load 24 (Operand.tmp 99), type := 24, pos := "law.go:57", after := #[{ on := 13, ground := Ground.data }, { on := 9, ground := Ground.guard }], guard := some (9, false) }) (v := ?_) rfl (by kernel_rfl) (by kernel_rfl) (by kernel_rfl) (fun _ _ _ h => h) (Or.inl ⟨by rfl, ?_⟩) (by assumption) ?_
          rotate_left
          · intro w hSw; (try dsimp only at hSw); have cq := hcb7.out _ hSw; go_simp; all_goals (with_reducible rfl)
          try simp only [Act.put, List.setIfInBounds_toArray, List.set_cons_zero, List.set_cons_succ]
          refine wpAnyH_take (i := 15) (oi := { dst := some 101, op := Op.fieldAddr 26 (Operand.tmp 3) 0, type := 0, pos := "law.go:57", after := #[{ on := 9, ground := Ground.guard }], guard := some (9, false) }) (v := ?_) rfl (by kernel_rfl) (by kernel_rfl) (by kernel_rfl) (fun _ _ _ h => h) (Or.inl ⟨by rfl, ?_⟩) (by assumption) ?_
          rotate_left
          · intro w hSw; (try dsimp only at hSw); go_simp; all_goals (with_reducible rfl)
          try simp only [Act.put, List.setIfInBounds_toArray, List.set_cons_zero, List.set_cons_succ]
          refine wpAnyH_take (i := 16) (oi := { dst := some 102, op := Op.load 22 (Operand.tmp 101), type := 22, pos := "law.go:57", after := #[{ on := 15, ground := Ground.data }, { on := 9, ground := Ground.guard }], guard := some (9, false) }) (v := ?_) rfl (by kernel_rfl) (by kernel_rfl) (by kernel_rfl) (fun _ _ _ h => h) (Or.inl ⟨by rfl, ?_⟩) (by assumption) ?_
          rotate_left
          · intro w hSw; (try dsimp only at hSw); have cq := (BlkAt.cells (hBo7.keep hSw)).1; go_simp; all_goals (with_reducible rfl)
          try simp only [Act.put, List.setIfInBounds_toArray, List.set_cons_zero, List.set_cons_succ]
          refine wpAnyH_take (i := 17) (oi := { dst := some 103, op := Op.fieldAddr 26 (Operand.tmp 3) 1, type := 0, pos := "law.go:57", after := #[{ on := 9, ground := Ground.guard }], guard := some (9, false) }) (v := ?_) rfl (by kernel_rfl) (by kernel_rfl) (by kernel_rfl) (fun _ _ _ h => h) (Or.inl ⟨by rfl, ?_⟩) (by assumption) ?_
          rotate_left
          · intro w hSw; (try dsimp only at hSw); go_simp; all_goals (with_reducible rfl)
          try simp only [Act.put, List.setIfInBounds_toArray, List.set_cons_zero, List.set_cons_succ]
          refine wpAnyH_take (i := 18) (oi := { dst := some 104, op := Op.load 23 (Operand.tmp 103), type := 23, pos := "law.go:57", after := #[{ on := 17, ground := Ground.data }, { on := 9, ground := Ground.guard }], guard := some (9, false) }) (v := ?_) rfl (by kernel_rfl) (by kernel_rfl) (by kernel_rfl) (fun _ _ _ h => h) (Or.inl ⟨by rfl, ?_⟩) (by assumption) ?_
          rotate_left
          · intro w hSw; (try dsimp only at hSw); have cq := (BlkAt.cells (hBo7.keep hSw)).2.1; go_simp; all_goals (with_reducible rfl)
          try simp only [Act.put, List.setIfInBounds_toArray, List.set_cons_zero, List.set_cons_succ]
          refine wpAnyH_take (i := 19) (oi := { dst := some 105, op := Op.fieldAddr 26 (Operand.tmp 3) 2, type := 0, pos := "law.go:57", after := #[{ on := 9, ground := Ground.guard }], guard := some (9, false) }) (v := ?_) rfl (by kernel_rfl) (by kernel_rfl) (by kernel_rfl) (fun _ _ _ h => h) (Or.inl ⟨by rfl, ?_⟩) (by assumption) ?_
          rotate_left
          · intro w hSw; (try dsimp only at hSw); go_simp; all_goals (with_reducible rfl)
          try simp only [Act.put, List.setIfInBounds_toArray, List.set_cons_zero, List.set_cons_succ]
          refine wpAnyH_take (i := 20) (oi := { dst := some 106, op := Op.load 5 (Operand.tmp 105), type := 5, pos := "law.go:57", after := #[{ on := 19, ground := Ground.data }, { on := 9, ground := Ground.guard }], guard := some (9, false) }) (v := ?_) rfl (by kernel_rfl) (by kernel_rfl) (by kernel_rfl) (fun _ _ _ h => h) (Or.inl ⟨by rfl, ?_⟩) (by assumption) ?_
          rotate_left
          · intro w hSw; (try dsimp only at hSw); have cq := (BlkAt.cells (hBo7.keep hSw)).2.2.1; go_simp; all_goals (with_reducible rfl)
          try simp only [Act.put, List.setIfInBounds_toArray, List.set_cons_zero, List.set_cons_succ]
          refine wpAnyH_ready (rs := [21]) (by kernel_rfl) (by simp) ?_
          refine AllReadyH.cons (o := { dst := some 107, op := Op.call { callee := Callee.value (Operand.func 16), args := #[Operand.tmp 100, Operand.tmp 102, Operand.tmp 104, Operand.tmp 106], argTypes := #[24, 22, 23, 5] }, type := 4, pos := "law.go:57", after := #[{ on := 14, ground := Ground.data }, { on := 16, ground := Ground.data }, { on := 18, ground := Ground.data }, { on := 20, ground := Ground.data }, { on := 9, ground := Ground.chain }, { on := 9, ground := Ground.guard }], guard := some (9, false) }) rfl (fun K hK => ?_) AllReadyH.nil
          go_simp
          refine (ris_any B1 n cb R kk ss hh _ (hrB7.keep hb8) hle1).mono ?_
          rintro e w9 ⟨⟨y, rfl, hy⟩, hw9⟩
          obtain rfl : y = x := by rw [Bool.eq_iff_iff, hy, hxi.out]
          clear hy
          have hb9 := Bw.trans hb8 hw9
          refine hK.out _ _ hb9 (fun hHeld => ?_)
          clear hK K
          try simp only [Act.put, List.setIfInBounds_toArray, List.set_cons_zero, List.set_cons_succ]
          refine wpAnyH_take (i := 22) (oi := { dst := some 108, op := Op.binOp BinOp.neq 4 (Operand.tmp 96) (Operand.tmp 107) 4, type := 4, pos := "law.go:57", after := #[{ on := 10, ground := Ground.data }, { on := 21, ground := Ground.data }, { on := 9, ground := Ground.guard }], guard := some (9, false) }) (v := ?_) rfl (by kernel_rfl) (by kernel_rfl) (by kernel_rfl) (fun _ _ _ h => h) (Or.inl ⟨by rfl, ?_⟩) (by assumption) ?_
          rotate_left
          · intro w hSw; (try dsimp only at hSw); have hbb := neq_bool6 w y; go_simp; all_goals (with_reducible rfl)
          try simp only [Act.put, List.setIfInBounds_toArray, List.set_cons_zero, List.set_cons_succ]
          refine wpAnyH_take (i := 23) (oi := { dst := some 109, op := Op.pick (Operand.tmp 95) (Operand.const (Value.bool true)) (Operand.tmp 108), type := 4, pos := "law.go:57", after := #[{ on := 9, ground := Ground.data }, { on := 22, ground := Ground.data }], guard := none }) (v := ?_) rfl (by kernel_rfl) (by kernel_rfl) (by kernel_rfl) (fun _ _ _ h => h) (Or.inl ⟨by rfl, ?_⟩) (by assumption) ?_
          rotate_left
          · intro w hSw; (try dsimp only at hSw); go_simp; all_goals (with_reducible rfl)
          try simp only [Act.put, List.setIfInBounds_toArray, List.set_cons_zero, List.set_cons_succ]
          refine wpAnyH_done (by kernel_rfl) ?_ _
          go_wp2
          go_roundw
          case rel => exact ⟨j + 1, by omega, rfl, by go_num, hwo.trans (hbr.trans (hb7.trans hb9))⟩
          case measure => simp [intOf]; omega
    · have ej : j = 2 := by omega
      subst ej
      go_wp2_with (go_at_call 8; refine (wakes6_any _).mono ?_; rintro e w99 ⟨rfl, hw99⟩)
      go_ret
      exact ⟨rfl, hal.trans (hbw3.trans (hwo.trans hw99))⟩

set_option maxRecDepth 100000 in
set_option maxHeartbeats 4000000 in
theorem parses_seal (b o ca : Nat) (f : Nat → Int) (kk ss hh : Nat) (D : Option Addr) (ld cd : Nat) (dd : Nat → Int) (w : World) (hb : InRow w (some ⟨b, o, none⟩) 128 ca f) (hi : InBlk w kk ss hh D ld cd dd) :
    Calls Try.prog 4 #[.slice (some ⟨b, o, none⟩) 128 ca, .agg #[.int .u64 (kk : Int), .int .u32 (ss : Int), .int .u8 (hh : Int), .slice D ld cd]] w fun e w' => e = .returned (.bool true) ∧ Bw w w' := by
  obtain ⟨i0, hi0, hz0, hz1, hz2⟩ := info_parts info_u8
  obtain ⟨W0, hW0⟩ : ∃ W0, W0 = w.alloc (.cells #[.int .u64 (kk : Int), .int .u32 (ss : Int), .int .u8 (hh : Int), .slice D ld cd] 26) := ⟨_, rfl⟩
  have hal : Bw w W0 := by rw [hW0]; exact bw_alloc (Bw.refl _) _
  have hBo : BlkAt W0 w.heap.size (kk : Int) (ss : Int) (hh : Int) D ld cd := by rw [hW0]; exact heap_alloc_new _ _
  have hs0 : Hid (W0.heap.size = w.heap.size + 1) := by show _ = _; rw [hW0, size_alloc]
  have hoe : Hid ((W0.alloc (.cells #[] 5)).ownsRow (w.heap.size + 1) 5 1 (.slice (some ⟨w.heap.size + 1, 0, none⟩) 0 0) 0 []) := by
    have := own_empty W0 W0.heap.size 5 (Nat.le_refl _)
    rw [hs0.out] at this
    exact this
  have hra := hb.row.keep hal
  have hnil := hb.nil
  have hmx : 0 + 128 ≤ maxLen := by unfold maxLen; omega
  go_enter Try.func4, Try.ntmps4
  go_wp2_with (first | (at_builtin; rw [← hW0]; clear hW0; refine wpList_append_rowat _ (by rfl) (.tmp 19) (.tmp 20) _ (by rfl) (w.heap.size + 1) 5 i0 _ 1 Try.underlying24 hi0 hz0 hz1 hz2 rfl _ _ _ (by rfl) hoe.out (some ⟨b, o, none⟩) 128 ca f (by rfl) (hra.keep (bw_alloc (Bw.refl _) _)) hnil hmx (by omega) (by rw [size_alloc]; have := hs0.out; omega) ?_; intro v1 w1 hown1 hgrow1; simp only [Nat.zero_add, List.nil_append] at hown1; rw [← hs0.out] at hgrow1; have hw1 := bw_fresh hgrow1; obtain ⟨A1, c1, rfl, hc1, hmine1⟩ := mine_of6 hb.row.2 hown1; have hc0 : Hid (A1 = none → c1 = 0) := own_nil6 hown1; clear hown1 hgrow1; have hc124 : (124 : Int) ≤ (c1 : Int) := (by have := hmine1.le; omega)) | (go_at_call 11; refine (rseal_cap A1 124 c1 f (by omega) _ (hmine1.row.less (by omega)) hc0.out).mono ?_; rintro e w1s ⟨g1s, c1s, rfl, hrow1s, hcap1s, hw1s⟩))
  have hw3 := bw_alloc (Bw.refl w1s) (.cells #[.slice (some ⟨b, o, none⟩) 128 ca, .slice (some ⟨g1s, 0, none⟩) 128 c1s] 24)
  have hgb := heap_alloc_new w1s (.cells #[.slice (some ⟨b, o, none⟩) 128 ca, .slice (some ⟨g1s, 0, none⟩) 128 c1s] 24)
  generalize w1s.alloc (.cells #[.slice (some ⟨b, o, none⟩) 128 ca, .slice (some ⟨g1s, 0, none⟩) 128 c1s] 24) = W3 at hw3 hgb ⊢
  have hbw3 : Bw W0 W3 := (hw1.trans hw1s).trans hw3
  have hboth : Hid (∀ j, j < 2 → ∃ (B1 : Option Addr) (n cb : Nat) (R : Nat → Int), (∀ W, Bw W3 W → W.cell? ⟨w1s.heap.size, j, none⟩ = some (.slice B1 n cb)) ∧ RowAt W3 B1 n R ∧ n ≤ cb ∧ (B1 = none → cb = 0) ∧ n ≤ 4096) := fun j hj => by
    have hj2 : j = 0 ∨ j = 1 := by omega
    rcases hj2 with rfl | rfl
    · exact ⟨(some ⟨b, o, none⟩), 128, ca, f, fun W hW => (cell_later hW (cell_of_row W3 _ 0 _ _ _ hgb)), hra.keep hbw3, hb.le, hb.nil, by omega⟩
    · exact ⟨(some ⟨g1s, 0, none⟩), 128, c1s, (sealF f 124), fun W hW => (cell_later hW (cell_of_row W3 _ 1 _ _ _ hgb)), (hrow1s).keep hw3, hcap1s, (fun e => by cases e), by omega⟩
  have hBo3 := hBo.keep hbw3
  obtain ⟨gb, hgbe⟩ : ∃ gb, gb = w1s.heap.size := ⟨_, rfl⟩
  rw [← hgbe] at hboth ⊢
  have hgb3 : gb < W3.heap.size := by rw [hgbe]; exact (Array.getElem?_eq_some_iff.1 hgb).1
  clear hgbe hgb
  clear hra hBo
  go_loopw [4, 7] (fun v i wr => ∃ j : Nat, j ≤ 2 ∧ v = .bool false ∧ i = .int .i64 j ∧ Bw W3 wr) (fun _ i _ => 2 - (intOf i).toNat)
  case atStart => exact ⟨0, by omega, rfl, rfl, Bw.refl _⟩
  case round =>
    obtain ⟨j, hj, rfl, rfl, hwo⟩ := hrel
    rename World => wo
    by_cases hlt : j < 2
    · obtain ⟨B1, n, cb, R, hcell, hrB, hle1, hnil1, hn4⟩ := hboth.out j hlt
      have hcH : Hid (∀ W, Bw W3 W → W.cell? ⟨gb, j, none⟩ = some (.slice B1 n cb)) := hcell
      have cq0 := hcell _ (hwo.trans (bw_alloc (Bw.refl wo) (.cells #[] 5)))
      clear hcell
      have j0 : (0 : Int) ≤ (j : Int) := Int.natCast_nonneg _
      have j1 : (j : Int) < 2 := by omega
      have hmx1 : 0 + n ≤ maxLen := by unfold maxLen; omega
      have hrBo := hrB.keep hwo
      have hBoo := hBo3.keep hwo
      go_wp2_with (first | (at_builtin; refine wpList_append_rowat _ (by rfl) (.tmp 37) (.tmp 41) _ (by rfl) wo.heap.size 5 i0 _ 1 Try.underlying24 hi0 hz0 hz1 hz2 rfl _ _ _ (by rfl) (own_empty wo wo.heap.size _ (Nat.le_refl _)) B1 n cb R (by rfl) (hrBo.keep (bw_alloc (Bw.refl _) _)) hnil1 hmx1 (by omega) (by simp) ?_; intro v5 w1' hown5 hgrow5; simp only [Nat.zero_add, List.nil_append] at hown5; have hw1' := bw_fresh hgrow5; obtain ⟨A5, c5, rfl, hc5, hmine5⟩ := mine_of6 hrB.2 hown5; clear hown5 hgrow5 cq0) | (go_at_call 12; refine (parse_any A5 n c5 R _ hmine5.row hmine5.le).mono ?_; rintro e w2 ⟨er, k, s, h, A2, n2, c2, rfl, hs2, hrow2, -, -, hw2⟩) | (refine wpList_store_row rfl 26 _ _ rfl w2.heap.size (blkCells (k : Int) (s : Int) (h : Int) A2 n2 c2) rfl rfl 26 _ (heap_alloc_new _ _) (blk_info _ _ _ _ _ _) rfl (blk_all _ _ _ _ _ _) ?_; rw [setRow_alloc_new]; have hBb3 := blk_new w2 (k : Int) (s : Int) (h : Int) A2 n2 c2; have hw3' := bw_alloc (Bw.refl w2) (.cells (blkCells (k : Int) (s : Int) (h : Int) A2 n2 c2) 26); generalize w2.alloc (.cells (blkCells (k : Int) (s : Int) (h : Int) A2 n2 c2) 26) = w3 at hBb3 hw3' ⊢; have hb3 : Bw wo w3 := hw1'.trans (hw2.trans hw3'); obtain ⟨ko0, ko1, ko2, ko3⟩ := BlkAt.cells (hBoo.keep hb3)) | (go_at_call 13; refine (is_any A5 n c5 R kk ss hh _ (hmine5.row.keep (hw2.trans hw3')) hmine5.le).mono ?_; rintro e w4 ⟨⟨x, rfl, hxi'⟩, hw4⟩; have hxi : Hid (x = true ↔ IsOf n R kk ss hh) := hxi'; clear hxi' ko0 ko1 ko2 ko3))
      have hb4 : Bw wo w4 := hb3.trans hw4
      have hrm4 := hmine5.row.keep (hw2.trans (hw3'.trans hw4))
      have hrB4 := hrBo.keep hb4
      have hcb4 : Hid (∀ W, Bw w4 W → W.cell? ⟨gb, j, none⟩ = some (.slice B1 n cb)) := fun W hW => hcH.out W (hwo.trans (hb4.trans hW))
      refine wp_region_held_drew (S := fun w' => Bw w4 w') (by kernel_rfl) ((Below.refl _ _).drew) (fun hHeld => ?_)
      refine wpAnyH_take (i := 0) (oi := { dst := some 56, op := Op.move (Operand.tmp 8), type := 24, pos := "law.go:50", after := #[], guard := none }) (v := ?_) rfl (by kernel_rfl) (by kernel_rfl) (by kernel_rfl) (fun _ _ _ h => h) (Or.inl ⟨by rfl, ?_⟩) (by assumption) ?_
      rotate_left
      · intro w hSw; (try dsimp only at hSw); go_simp; all_goals (with_reducible rfl)
      try simp only [Act.put, List.setIfInBounds_toArray, List.set_cons_zero, List.set_cons_succ]
      refine wpAnyH_take (i := 1) (oi := { dst := some 57, op := Op.convert 24 9 (Operand.tmp 56), type := 9, pos := "law.go:50", after := #[{ on := 0, ground := Ground.data }], guard := none }) (v := ?_) rfl (by kernel_rfl) (by kernel_rfl) (by kernel_rfl) (fun _ _ _ h => h) (Or.inl ⟨by rfl, ?_⟩) (by assumption) ?_
      rotate_left
      · intro w hSw; (try dsimp only at hSw); have cv := conv_row (C := c5) (hrm4.keep hSw); go_simp; all_goals (with_reducible rfl)
      try simp only [Act.put, List.setIfInBounds_toArray, List.set_cons_zero, List.set_cons_succ]
      refine wpAnyH_take (i := 2) (oi := { dst := some 58, op := Op.move (Operand.tmp 6), type := 33, pos := "law.go:50", after := #[], guard := none }) (v := ?_) rfl (by kernel_rfl) (by kernel_rfl) (by kernel_rfl) (fun _ _ _ h => h) (Or.inl ⟨by rfl, ?_⟩) (by assumption) ?_
      rotate_left
      · intro w hSw; (try dsimp only at hSw); go_simp; all_goals (with_reducible rfl)
      try simp only [Act.put, List.setIfInBounds_toArray, List.set_cons_zero, List.set_cons_succ]
      refine wpAnyH_take (i := 3) (oi := { dst := some 59, op := Op.move (Operand.tmp 7), type := 3, pos := "law.go:50", after := #[], guard := none }) (v := ?_) rfl (by kernel_rfl) (by kernel_rfl) (by kernel_rfl) (fun _ _ _ h => h) (Or.inl ⟨by rfl, ?_⟩) (by assumption) ?_
      rotate_left
      · intro w hSw; (try dsimp only at hSw); go_simp; all_goals (with_reducible rfl)
      try simp only [Act.put, List.setIfInBounds_toArray, List.set_cons_zero, List.set_cons_succ]
      refine wpAnyH_take (i := 4) (oi := { dst := some 60, op := Op.indexAddr 33 (Operand.tmp 58) (Operand.tmp 59), type := 0, pos := "law.go:50", after := #[{ on := 2, ground := Ground.data }, { on := 3, ground := Ground.data }], guard := none }) (v := ?_) rfl (by kernel_rfl) (by kernel_rfl) (by kernel_rfl) (fun _ _ _ h => h) (Or.inl ⟨by rfl, ?_⟩) (by assumption) ?_
      rotate_left
      · intro w hSw; (try dsimp only at hSw); go_simp; all_goals (with_reducible rfl)
      try simp only [Act.put, List.setIfInBounds_toArray, List.set_cons_zero, List.set_cons_succ]
      refine wpAnyH_take (i := 5) (oi := { dst := some 61, op := Op.load 24 (Operand.tmp 60), type := 24, pos := "law.go:50", after := #[{ on := 4, ground := Ground.data }], guard := none }) (v := ?_) rfl (by kernel_rfl) (by kernel_rfl) (by kernel_rfl) (fun _ _ _ h => h) (Or.inl ⟨by rfl, ?_⟩) (by assumption) ?_
      rotate_left
      · intro w hSw; (try dsimp only at hSw); have cq := hcb4.out _ hSw; go_simp; all_goals (with_reducible rfl)
      try simp only [Act.put, List.setIfInBounds_toArray, List.set_cons_zero, List.set_cons_succ]
      refine wpAnyH_take (i := 6) (oi := { dst := some 62, op := Op.convert 24 9 (Operand.tmp 61), type := 9, pos := "law.go:50", after := #[{ on := 5, ground := Ground.data }], guard := none }) (v := ?_) rfl (by kernel_rfl) (by kernel_rfl) (by kernel_rfl) (fun _ _ _ h => h) (Or.inl ⟨by rfl, ?_⟩) (by assumption) ?_
      rotate_left
      · intro w hSw; (try dsimp only at hSw); have cv := conv_row (C := cb) (hrB4.keep hSw); go_simp; all_goals (with_reducible rfl)
      try simp only [Act.put, List.setIfInBounds_toArray, List.set_cons_zero, List.set_cons_succ]
      refine wpAnyH_take (i := 7) (oi := { dst := some 63, op := Op.binOp BinOp.neq 9 (Operand.tmp 57) (Operand.tmp 62) 9, type := 4, pos := "law.go:50", after := #[{ on := 1, ground := Ground.data }, { on := 6, ground := Ground.data }], guard := none }) (v := ?_) rfl (by kernel_rfl) (by kernel_rfl) (by kernel_rfl) (fun _ _ _ h => h) (Or.inl ⟨by rfl, ?_⟩) (by assumption) ?_
      rotate_left
      · intro w hSw; (try dsimp only at hSw); go_simp; all_goals (with_reducible rfl)
      try simp only [Act.put, List.setIfInBounds_toArray, List.set_cons_zero, List.set_cons_succ]
      refine wpAnyH_done (by kernel_rfl) ?_ _
      have hown4' : Hid (0 < n → ∃ g F, A5 = some ⟨g, 0, none⟩ ∧ wo.heap.size ≤ g ∧ Own w4.drew g n F) := fun hp => by
        obtain ⟨g, e, hg, hl, ho⟩ := hmine5.own hp
        exact ⟨g, R, e, hg, (ho.keep (hw2.trans (hw3'.trans hw4))).keep (Bw.refl w4).drew⟩
      have hS : Hid (∀ b, (0 < n ∧ A5 = some ⟨b, 0, none⟩) → wo.heap.size ≤ b ∧ b < w1'.heap.size) := fun b hbb => by
        obtain ⟨g, e, hg, hl, ho⟩ := hmine5.own hbb.1
        rw [hbb.2] at e
        cases e
        exact ⟨hg, hl⟩
      have sz2 := hw2.size
      have sz3 := hw3'.size
      have sz4 := hw4.size
      have szo := hwo.size
      clear hmine5 hrm4 hcb4 hmx1 hrBo
      go_wp2
      go_loopw [12] (fun i wr => ∃ m : Nat, m ≤ n ∧ i = .int .i64 m ∧ Hid (0 < n → ∃ g F, A5 = some ⟨g, 0, none⟩ ∧ wo.heap.size ≤ g ∧ Own wr g n F) ∧ Bx (fun b => 0 < n ∧ A5 = some ⟨b, 0, none⟩) w4 wr) (fun i _ => n - (intOf i).toNat)
      case atStart => exact ⟨0, Nat.zero_le _, rfl, hown4', (Bx.refl _ w4).drew⟩
      case round =>
        obtain ⟨m, hm, rfl, hown, hx⟩ := hrel
        by_cases hlt2 : m < n
        · obtain ⟨g, F, e1, hg, ho⟩ := hown.out (by omega)
          obtain ⟨d1, d2⟩ := ho.cell hlt2
          clear hown hown4'
          subst e1
          go_wp2
          generalize bits BinOp.xor IntKind.u8 (if IntKind.u8.signed = true then -1 else IntKind.u8.max) (F m) = z
          go_roundw
          case rel =>
            refine ⟨m + 1, by omega, by go_num, fun _ => ⟨g, fun c => if c = m then z else F c, rfl, hg, ho.set hlt2 (by rw [if_pos rfl]) (fun c _ hc => by rw [if_neg hc])⟩, hx.put ⟨by omega, rfl⟩⟩
          case measure => simp [intOf]; omega
        · have em : n = m := by omega
          subst em
          have hbr : Bw wo wr := Below.trans hb4 (hx.below hb4.size (fun b hbb => (hS.out b hbb).1))
          have hcbr : Hid (∀ W, Bw wr W → W.cell? ⟨gb, j, none⟩ = some (.slice B1 n cb)) := fun W hW => hcH.out W (hwo.trans (hbr.trans hW))
          have cqr := hcbr.out _ (Bw.refl wr)
          have hrBr := (hrB.keep hwo).keep hbr
          have hrbr := hrow2.row.keep hw3' |>.keep hw4
          have hrbr2 := hrbr.keepx hx (fun b o e hp hbb => by
            rcases hrow2.new with h1 | ⟨g3, o3, e3, h1, h2⟩
            · omega
            · rw [e] at e3
              cases e3
              have := (hS.out b hbb).2
              omega)
          have hBbr := (hBb3.keep hw4).keepx hx (fun hbb => by have := (hS.out _ hbb).2; omega)
          have hBor := hBoo.keep hbr
          have hsm : Hid (Blk.Says n R er k s h n2) := hs2
          clear hown hown4' hx hS hs2 hrow2 hrbr hrB4 hBb3
          go_wp2_with (first | (go_at_call 14; refine (rparse_any B1 n cb R _ hrBr hle1).mono ?_; rintro e w6 ⟨er6, k6, s6, h6, A6, n6, c6, rfl, hs6, hrow6, hw6⟩; obtain ⟨rfl, rfl, rfl, rfl, rfl⟩ := Blk.says_unique hsm.out hs6; clear hs6 cqr) | (refine wpList_store_row rfl 26 _ _ rfl w6.heap.size (blkCells (k : Int) (s : Int) (h : Int) A6 n2 c6) rfl rfl 26 _ (heap_alloc_new _ _) (blk_info _ _ _ _ _ _) rfl (blk_all _ _ _ _ _ _) ?_; rw [setRow_alloc_new]; have hBc7 := blk_new w6 (k : Int) (s : Int) (h : Int) A6 n2 c6; have hw7 := bw_alloc (Bw.refl w6) (.cells (blkCells (k : Int) (s : Int) (h : Int) A6 n2 c6) 26); generalize w6.alloc (.cells (blkCells (k : Int) (s : Int) (h : Int) A6 n2 c6) 26) = w7 at hBc7 hw7 ⊢))
          have hb7 := hw6.trans hw7
          have hBb7 := hBbr.keep hb7
          have hrb7 := hrbr2.keep hb7
          have hrc7 := hrow6.keep hw7
          have hBo7 := hBor.keep hb7
          have hrB7 := hrBr.keep hb7
          have hcb7 : Hid (∀ W, Bw w7 W → W.cell? ⟨gb, j, none⟩ = some (.slice B1 n cb)) := fun W hW => hcbr.out W (hb7.trans hW)
          clear hcbr hBbr hrbr2 hrow6 hBor hrBr
          refine wp_region_held_drew (S := fun w' => Bw w7 w') (by kernel_rfl) ((Below.refl _ _).drew) (fun hHeld => ?_)
          have hdrew : Bw w7 w7.drew := (Bw.refl _).drew
          refine wpAnyH_take (i := 0) (oi := { dst := some 86, op := Op.move (Operand.tmp 10), type := 28, pos := "law.go:57", after := #[], guard := none }) (v := ?_) rfl (by kernel_rfl) (by kernel_rfl) (by kernel_rfl) (fun _ _ _ h => h) (Or.inl ⟨by rfl, ?_⟩) (by assumption) ?_
          rotate_left
          · intro w hSw; (try dsimp only at hSw); go_simp; all_goals (with_reducible rfl)
          try simp only [Act.put, List.setIfInBounds_toArray, List.set_cons_zero, List.set_cons_succ]
          refine wpAnyH_take (i := 1) (oi := { dst := some 87, op := Op.move (Operand.tmp 14), type := 28, pos := "law.go:57", after := #[], guard := none }) (v := ?_) rfl (by kernel_rfl) (by kernel_rfl) (by kernel_rfl) (fun _ _ _ h => h) (Or.inl ⟨by rfl, ?_⟩) (by assumption) ?_
          rotate_left
          · intro w hSw; (try dsimp only at hSw); go_simp; all_goals (with_reducible rfl)
          try simp only [Act.put, List.setIfInBounds_toArray, List.set_cons_zero, List.set_cons_succ]
          refine wpAnyH_take (i := 2) (oi := { dst := some 88, op := Op.binOp BinOp.neq 28 (Operand.tmp 86) (Operand.tmp 87) 28, type := 4, pos := "law.go:57", after := #[{ on := 0, ground := Ground.data }, { on := 1, ground := Ground.data }], guard := none }) (v := ?_) rfl (by kernel_rfl) (by kernel_rfl) (by kernel_rfl) (fun _ _ _ h => h) (Or.inl ⟨by rfl, ?_⟩) (by assumption) ?_
          rotate_left
          · intro w hSw; (try dsimp only at hSw); have hne : (er != er) = false := bne_self_eq_false' er; go_simp; all_goals (with_reducible rfl)
          try simp only [Act.put, List.setIfInBounds_toArray, List.set_cons_zero, List.set_cons_succ]
          refine wpAnyH_take (i := 3) (oi := { dst := some 89, op := Op.move (Operand.tmp 88), type := 4, pos := "law.go:57", after := #[{ on := 2, ground := Ground.data }], guard := none }) (v := ?_) rfl (by kernel_rfl) (by kernel_rfl) (by kernel_rfl) (fun _ _ _ h => h) (Or.inl ⟨by rfl, ?_⟩) (by assumption) ?_
          rotate_left
          · intro w hSw; (try dsimp only at hSw); go_simp; all_goals (with_reducible rfl)
          try simp only [Act.put, List.setIfInBounds_toArray, List.set_cons_zero, List.set_cons_succ]
          refine wpAnyH_take (i := 4) (oi := { dst := some 90, op := Op.load 26 (Operand.tmp 9), type := 26, pos := "law.go:57", after := #[{ on := 3, ground := Ground.guard }], guard := some (3, false) }) (v := _) rfl (by kernel_rfl) (by kernel_rfl) (by kernel_rfl) (fun _ _ _ h => h) (yieldsIf_load_blk (by rfl) _ rfl w2.heap.size rfl (fun w' h' => hBb7.keep h')) (by assumption) ?_
          try simp only [Act.put, List.setIfInBounds_toArray, List.set_cons_zero, List.set_cons_succ]
          refine wpAnyH_take (i := 5) (oi := { dst := some 91, op := Op.load 26 (Operand.tmp 13), type := 26, pos := "law.go:57", after := #[{ on := 3, ground := Ground.guard }], guard := some (3, false) }) (v := _) rfl (by kernel_rfl) (by kernel_rfl) (by kernel_rfl) (fun _ _ _ h => h) (yieldsIf_load_blk (by rfl) _ rfl w6.heap.size rfl (fun w' h' => hBc7.keep h')) (by assumption) ?_
          try simp only [Act.put, List.setIfInBounds_toArray, List.set_cons_zero, List.set_cons_succ]
          refine wpAnyH_ready (rs := [6]) (by kernel_rfl) (by simp) ?_
          refine AllReadyH.cons (o := { dst := some 92, op := Op.call { callee := Callee.value (Operand.func 15), args := #[Operand.tmp 90, Operand.tmp 91], argTypes := #[26, 26] }, type := 4, pos := "law.go:57", after := #[{ on := 4, ground := Ground.data }, { on := 5, ground := Ground.data }, { on := 3, ground := Ground.chain }, { on := 3, ground := Ground.guard }], guard := some (3, false) }) rfl (fun K hK => ?_) AllReadyH.nil
          go_simp
          refine (same_any k s h k s h A2 A6 n2 n2 c2 c6 (fun i => R (28 + i)) (fun i => R (28 + i)) _ (hrb7.keep hdrew) (hrc7.keep hdrew)).mono ?_
          rintro e w8 ⟨⟨y, rfl, hy⟩, hw8⟩
          obtain rfl : y = true := hy.2 ⟨rfl, rfl, rfl, rfl, fun _ _ => rfl⟩
          clear hy
          have hb8 := Bw.trans hdrew hw8
          refine hK.out _ _ hb8 (fun hHeld => ?_)
          clear hK K
          try simp only [Act.put, List.setIfInBounds_toArray, List.set_cons_zero, List.set_cons_succ]
          refine wpAnyH_take (i := 7) (oi := { dst := some 93, op := Op.unOp UnOp.not 4 (Operand.tmp 92), type := 4, pos := "law.go:57", after := #[{ on := 6, ground := Ground.data }, { on := 3, ground := Ground.guard }], guard := some (3, false) }) (v := ?_) rfl (by kernel_rfl) (by kernel_rfl) (by kernel_rfl) (fun _ _ _ h => h) (Or.inl ⟨by rfl, ?_⟩) (by assumption) ?_
          rotate_left
          · intro w hSw; (try dsimp only at hSw); go_simp; all_goals (with_reducible rfl)
          try simp only [Act.put, List.setIfInBounds_toArray, List.set_cons_zero, List.set_cons_succ]
          refine wpAnyH_take (i := 8) (oi := { dst := some 94, op := Op.pick (Operand.tmp 89) (Operand.const (Value.bool true)) (Operand.tmp 93), type := 4, pos := "law.go:57", after := #[{ on := 3, ground := Ground.data }, { on := 7, ground := Ground.data }], guard := none }) (v := ?_) rfl (by kernel_rfl) (by kernel_rfl) (by kernel_rfl) (fun _ _ _ h => h) (Or.inl ⟨by rfl, ?_⟩) (by assumption) ?_
          rotate_left
          · intro w hSw; (try dsimp only at hSw); go_simp; all_goals (with_reducible rfl)
          try simp only [Act.put, List.setIfInBounds_toArray, List.set_cons_zero, List.set_cons_succ]
          refine wpAnyH_take (i := 9) (oi := { dst := some 95, op := Op.move (Operand.tmp 94), type := 4, pos := "law.go:57", after := #[{ on := 8, ground := Ground.data }, { on := 6, ground := Ground.chain }], guard := none }) (v := ?_) rfl (by kernel_rfl) (by kernel_rfl) (by kernel_rfl) (fun _ _ _ h => h) (Or.inl ⟨by rfl, ?_⟩) (by assumption) ?_
          rotate_left
          · intro w hSw; (try dsimp only at hSw); go_simp; all_goals (with_reducible rfl)
          try simp only [Act.put, List.setIfInBounds_toArray, List.set_cons_zero, List.set_cons_succ]
          refine wpAnyH_take (i := 10) (oi := { dst := some 96, op := Op.move (Operand.tmp 11), type := 4, pos := "law.go:57", after := #[{ on := 9, ground := Ground.guard }], guard := some (9, false) }) (v := ?_) rfl (by kernel_rfl) (by kernel_rfl) (by kernel_rfl) (fun _ _ _ h => h) (Or.inl ⟨by rfl, ?_⟩) (by assumption) ?_
          rotate_left
          · intro w hSw; (try dsimp only at hSw); go_simp; all_goals (with_reducible rfl)
          try simp only [Act.put, List.setIfInBounds_toArray, List.set_cons_zero, List.set_cons_succ]
          refine wpAnyH_take (i := 11) (oi := { dst := some 97, op := Op.move (Operand.tmp 6), type := 33, pos := "law.go:57", after := #[{ on := 9, ground := Ground.guard }], guard := some (9, false) }) (v := ?_) rfl (by kernel_rfl) (by kernel_rfl) (by kernel_rfl) (fun _ _ _ h => h) (Or.inl ⟨by rfl, ?_⟩) (by assumption) ?_
          rotate_left
          · intro w hSw; (try dsimp only at hSw); go_simp; all_goals (with_reducible rfl)
          try simp only [Act.put, List.setIfInBounds_toArray, List.set_cons_zero, List.set_cons_succ]
          refine wpAnyH_take (i := 12) (oi := { dst := some 98, op := Op.move (Operand.tmp 7), type := 3, pos := "law.go:57", after := #[{ on := 9, ground := Ground.guard }], guard := some (9, false) }) (v := ?_) rfl (by kernel_rfl) (by kernel_rfl) (by kernel_rfl) (fun _ _ _ h => h) (Or.inl ⟨by rfl, ?_⟩) (by assumption) ?_
          rotate_left
          · intro w hSw; (try dsimp only at hSw); go_simp; all_goals (with_reducible rfl)
          try simp only [Act.put, List.setIfInBounds_toArray, List.set_cons_zero, List.set_cons_succ]
          refine wpAnyH_take (i := 13) (oi := { dst := some 99, op := Op.indexAddr 33 (Operand.tmp 97) (Operand.tmp 98), type := 0, pos := "law.go:57", after := #[{ on := 11, ground := Ground.data }, { on := 12, ground := Ground.data }, { on := 9, ground := Ground.guard }], guard := some (9, false) }) (v := ?_) rfl (by kernel_rfl) (by kernel_rfl) (by kernel_rfl) (fun _ _ _ h => h) (Or.inl ⟨by rfl, ?_⟩) (by assumption) ?_
          rotate_left
          · intro w hSw; (try dsimp only at hSw); go_simp; all_goals (with_reducible rfl)
          try simp only [Act.put, List.setIfInBounds_toArray, List.set_cons_zero, List.set_cons_succ]
          refine wpAnyH_take (i := 14) (oi := { dst := some 100, op := Op.load 24 (Operand.tmp 99), type := 24, pos := "law.go:57", after := #[{ on := 13, ground := Ground.data }, { on := 9, ground := Ground.guard }], guard := some (9, false) }) (v := ?_) rfl (by kernel_rfl) (by kernel_rfl) (by kernel_rfl) (fun _ _ _ h => h) (Or.inl ⟨by rfl, ?_⟩) (by assumption) ?_
          rotate_left
          · intro w hSw; (try dsimp only at hSw); have cq := hcb7.out _ hSw; go_simp; all_goals (with_reducible rfl)
          try simp only [Act.put, List.setIfInBounds_toArray, List.set_cons_zero, List.set_cons_succ]
          refine wpAnyH_take (i := 15) (oi := { dst := some 101, op := Op.fieldAddr 26 (Operand.tmp 3) 0, type := 0, pos := "law.go:57", after := #[{ on := 9, ground := Ground.guard }], guard := some (9, false) }) (v := ?_) rfl (by kernel_rfl) (by kernel_rfl) (by kernel_rfl) (fun _ _ _ h => h) (Or.inl ⟨by rfl, ?_⟩) (by assumption) ?_
          rotate_left
          · intro w hSw; (try dsimp only at hSw); go_simp; all_goals (with_reducible rfl)
          try simp only [Act.put, List.setIfInBounds_toArray, List.set_cons_zero, List.set_cons_succ]
          refine wpAnyH_take (i := 16) (oi := { dst := some 102, op := Op.load 22 (Operand.tmp 101), type := 22, pos := "law.go:57", after := #[{ on := 15, ground := Ground.data }, { on := 9, ground := Ground.guard }], guard := some (9, false) }) (v := ?_) rfl (by kernel_rfl) (by kernel_rfl) (by kernel_rfl) (fun _ _ _ h => h) (Or.inl ⟨by rfl, ?_⟩) (by assumption) ?_
          rotate_left
          · intro w hSw; (try dsimp only at hSw); have cq := (BlkAt.cells (hBo7.keep hSw)).1; go_simp; all_goals (with_reducible rfl)
          try simp only [Act.put, List.setIfInBounds_toArray, List.set_cons_zero, List.set_cons_succ]
          refine wpAnyH_take (i := 17) (oi := { dst := some 103, op := Op.fieldAddr 26 (Operand.tmp 3) 1, type := 0, pos := "law.go:57", after := #[{ on := 9, ground := Ground.guard }], guard := some (9, false) }) (v := ?_) rfl (by kernel_rfl) (by kernel_rfl) (by kernel_rfl) (fun _ _ _ h => h) (Or.inl ⟨by rfl, ?_⟩) (by assumption) ?_
          rotate_left
          · intro w hSw; (try dsimp only at hSw); go_simp; all_goals (with_reducible rfl)
          try simp only [Act.put, List.setIfInBounds_toArray, List.set_cons_zero, List.set_cons_succ]
          refine wpAnyH_take (i := 18) (oi := { dst := some 104, op := Op.load 23 (Operand.tmp 103), type := 23, pos := "law.go:57", after := #[{ on := 17, ground := Ground.data }, { on := 9, ground := Ground.guard }], guard := some (9, false) }) (v := ?_) rfl (by kernel_rfl) (by kernel_rfl) (by kernel_rfl) (fun _ _ _ h => h) (Or.inl ⟨by rfl, ?_⟩) (by assumption) ?_
          rotate_left
          · intro w hSw; (try dsimp only at hSw); have cq := (BlkAt.cells (hBo7.keep hSw)).2.1; go_simp; all_goals (with_reducible rfl)
          try simp only [Act.put, List.setIfInBounds_toArray, List.set_cons_zero, List.set_cons_succ]
          refine wpAnyH_take (i := 19) (oi := { dst := some 105, op := Op.fieldAddr 26 (Operand.tmp 3) 2, type := 0, pos := "law.go:57", after := #[{ on := 9, ground := Ground.guard }], guard := some (9, false) }) (v := ?_) rfl (by kernel_rfl) (by kernel_rfl) (by kernel_rfl) (fun _ _ _ h => h) (Or.inl ⟨by rfl, ?_⟩) (by assumption) ?_
          rotate_left
          · intro w hSw; (try dsimp only at hSw); go_simp; all_goals (with_reducible rfl)
          try simp only [Act.put, List.setIfInBounds_toArray, List.set_cons_zero, List.set_cons_succ]
          refine wpAnyH_take (i := 20) (oi := { dst := some 106, op := Op.load 5 (Operand.tmp 105), type := 5, pos := "law.go:57", after := #[{ on := 19, ground := Ground.data }, { on := 9, ground := Ground.guard }], guard := some (9, false) }) (v := ?_) rfl (by kernel_rfl) (by kernel_rfl) (by kernel_rfl) (fun _ _ _ h => h) (Or.inl ⟨by rfl, ?_⟩) (by assumption) ?_
          rotate_left
          · intro w hSw; (try dsimp only at hSw); have cq := (BlkAt.cells (hBo7.keep hSw)).2.2.1; go_simp; all_goals (with_reducible rfl)
          try simp only [Act.put, List.setIfInBounds_toArray, List.set_cons_zero, List.set_cons_succ]
          refine wpAnyH_ready (rs := [21]) (by kernel_rfl) (by simp) ?_
          refine AllReadyH.cons (o := { dst := some 107, op := Op.call { callee := Callee.value (Operand.func 16), args := #[Operand.tmp 100, Operand.tmp 102, Operand.tmp 104, Operand.tmp 106], argTypes := #[24, 22, 23, 5] }, type := 4, pos := "law.go:57", after := #[{ on := 14, ground := Ground.data }, { on := 16, ground := Ground.data }, { on := 18, ground := Ground.data }, { on := 20, ground := Ground.data }, { on := 9, ground := Ground.chain }, { on := 9, ground := Ground.guard }], guard := some (9, false) }) rfl (fun K hK => ?_) AllReadyH.nil
          go_simp
          refine (ris_any B1 n cb R kk ss hh _ (hrB7.keep hb8) hle1).mono ?_
          rintro e w9 ⟨⟨y, rfl, hy⟩, hw9⟩
          obtain rfl : y = x := by rw [Bool.eq_iff_iff, hy, hxi.out]
          clear hy
          have hb9 := Bw.trans hb8 hw9
          refine hK.out _ _ hb9 (fun hHeld => ?_)
          clear hK K
          try simp only [Act.put, List.setIfInBounds_toArray, List.set_cons_zero, List.set_cons_succ]
          refine wpAnyH_take (i := 22) (oi := { dst := some 108, op := Op.binOp BinOp.neq 4 (Operand.tmp 96) (Operand.tmp 107) 4, type := 4, pos := "law.go:57", after := #[{ on := 10, ground := Ground.data }, { on := 21, ground := Ground.data }, { on := 9, ground := Ground.guard }], guard := some (9, false) }) (v := ?_) rfl (by kernel_rfl) (by kernel_rfl) (by kernel_rfl) (fun _ _ _ h => h) (Or.inl ⟨by rfl, ?_⟩) (by assumption) ?_
          rotate_left
          · intro w hSw; (try dsimp only at hSw); have hbb := neq_bool6 w y; go_simp; all_goals (with_reducible rfl)
          try simp only [Act.put, List.setIfInBounds_toArray, List.set_cons_zero, List.set_cons_succ]
          refine wpAnyH_take (i := 23) (oi := { dst := some 109, op := Op.pick (Operand.tmp 95) (Operand.const (Value.bool true)) (Operand.tmp 108), type := 4, pos := "law.go:57", after := #[{ on := 9, ground := Ground.data }, { on := 22, ground := Ground.data }], guard := none }) (v := ?_) rfl (by kernel_rfl) (by kernel_rfl) (by kernel_rfl) (fun _ _ _ h => h) (Or.inl ⟨by rfl, ?_⟩) (by assumption) ?_
          rotate_left
          · intro w hSw; (try dsimp only at hSw); go_simp; all_goals (with_reducible rfl)
          try simp only [Act.put, List.setIfInBounds_toArray, List.set_cons_zero, List.set_cons_succ]
          refine wpAnyH_done (by kernel_rfl) ?_ _
          go_wp2
          go_roundw
          case rel => exact ⟨j + 1, by omega, rfl, by go_num, hwo.trans (hbr.trans (hb7.trans hb9))⟩
          case measure => simp [intOf]; omega
    · have ej : j = 2 := by omega
      subst ej
      go_wp2_with (go_at_call 8; refine (wakes6_any _).mono ?_; rintro e w99 ⟨rfl, hw99⟩)
      go_ret
      exact ⟨rfl, hal.trans (hbw3.trans (hwo.trans hw99))⟩

theorem walk (a0 : Option Addr) (len0 cap0 : Nat) (f0 : Nat → Int) (kk1 ss1 hh1 : Nat) (a1 : Option Addr) (len1 cap1 : Nat) (f1 : Nat → Int) (w : World) (w0 : InRow w a0 len0 cap0 f0) (w1 : InBlk w kk1 ss1 hh1 a1 len1 cap1 f1) :
    Calls Try.prog 4 #[.slice a0 len0 cap0, .agg #[.int .u64 (kk1 : Int), .int .u32 (ss1 : Int), .int .u8 (hh1 : Int), .slice a1 len1 cap1]] w fun e w' => e = .returned (.bool true) ∧ Below w.heap.size w w' := by
  by_cases h1 : 4096 < len0
  · exact parses_great _ _ _ _ _ _ _ _ _ _ _ w w0 w1 h1
  · by_cases h2 : len0 = 128
    · subst h2
      obtain ⟨b, o, rfl, -⟩ := w0.row.at (k := 0) (by omega)
      exact parses_seal _ _ _ _ _ _ _ _ _ _ _ w w0 w1
    · exact parses_other _ _ _ _ _ _ _ _ _ _ _ w w0 w1 (by omega) h2

set_option maxRecDepth 100000 in
theorem lifted (os : Os) (started : os.Started) (H : Type) (enc : TypeId × Value → H) :
    ReturnsInHanded {} Try.checked os 4 .any (Rows.blockParsesSpec.pre6 enc Try.prog Try.f4 Rows.blockParsesRow.domain false) (Rows.blockParsesSpec.post enc Try.prog Try.f4 false true false false) := by
  refine returnsInHanded_of_change_sized (C := Try.checked) own started (by kernel_rfl) Try.func4
    (ChangeSpec.witness6 (enc := enc) (C := Try.checked) false ⟨#[], #[.slice none 0 0, .agg #[.int .u64 0, .int .u32 0, .int .u8 0, .slice none 0 0]], []⟩ 8 (by kernel_rfl) (by kernel_rfl) (by kernel_rfl) (by kernel_rfl)) ?_
  intro W base args ds gs before hval0 hW hcnd hsz0 _
  have hval : ∀ (j : Nat) t v, Try.f4.params[j]? = some t → args[j]? = some v → Value.okWide Try.prog W .any base t v := hval0
  have hW' := hW
  obtain ⟨p, q, hA0, hV, rfl, hfz, hnd⟩ := hW
  have hA : DataW.TrodAll enc Try.prog W 0 (fun _ => true) true Try.f4.params.toList args.toList ds p := hA0
  have hsz : (DataW.weightsEach Try.prog (Try.f4.params.toList ++ Rows.blockParsesSpec.plain.varTypes Try.prog) (ds ++ gs)).all (· ≤ reachBytes) = true := hsz0
  rw [Try.params4] at hA hval hsz
  obtain ⟨v0, vs0, d0, ds0, p0, q0, hargs, rfl, rfl, h0, r0⟩ := trodAll_cons hA
  obtain ⟨v1, vs1, d1, ds1, p1, q1, rfl, rfl, rfl, h1, r1⟩ := trodAll_cons r0
  obtain ⟨rfl, rfl, rfl⟩ := trodAll_nil r1
  obtain rfl : args = #[v0, v1] := by cases args; simp_all
  obtain ⟨rfl, rfl⟩ := trodVars_none hV
  obtain ⟨a0, len0, cap0, rfl⟩ := okWide_slice Try.underlying24 (hval 0 24 v0 rfl rfl)
  have k0 := h0
  have lt0 : ∀ x ∈ p0, x.block < W.heap.size := by obtain ⟨m, hm⟩ := k0; exact DataW.trod_lt m _ _ _ hm
  obtain ⟨f0, w0⟩ := open_bytes h0 (fun x hx => by simpa using List.all_eq_true.1 hsz x (DataW.weights_mem_each (j := 0) (t := 24) rfl rfl x hx))
  have k1 := h1
  have lt1 : ∀ x ∈ p1, x.block < W.heap.size := by obtain ⟨m, hm⟩ := k1; exact DataW.trod_lt m _ _ _ hm
  obtain ⟨kk1, ss1, hh1, a1, len1, cap1, f1, rfl, w1⟩ := open_block (hval 1 26 v1 rfl rfl) h1 (fun x hx => by simpa using List.all_eq_true.1 hsz x (DataW.weights_mem_each (j := 1) (t := 26) rfl rfl x hx))
  clear hA0 hval0
  refine (walk a0 len0 cap0 f0 kk1 ss1 hh1 a1 len1 cap1 f1 W w0 w1).mono fun e W' ⟨he, bel⟩ => ?_
  subst he
  exact ⟨_, rfl, _, _, _, [], _, [], hW', trodAll_mk1 (shut_bool Try.underlying4 _), (trodAll_cons_mk (Below.trod laidOut (by kernel_rfl) (of_decide_eq_true (by kernel_rfl)) k0 bel lt0) (trodAll_cons_mk (Below.trod laidOut (by kernel_rfl) (of_decide_eq_true (by kernel_rfl)) k1 bel lt1) trodAll_mk0)), rfl, bel.frame _, fun h => by cases h⟩

theorem over : Rows.blockParsesRow.holds Try.pinned (OpenSpec.ofChange Rows.blockParsesSpec) :=
  OpenClaim.holds_of_wide 4 Try.f4 rfl rfl rfl rfl rfl rfl rfl ⟨rfl, rfl, rfl, rfl, rfl⟩ rfl rfl rfl rfl rfl (by kernel_rfl) Try.func4 (by kernel_rfl)
    (of_decide_eq_true (by kernel_rfl)) (by unfold Func.isWrapper; first | (rw [if_pos (by decide +kernel)]; kernel_rfl) | (rw [if_neg (by decide +kernel)]; exact ⟨rfl, rfl⟩))
    (fun os started H enc _ => lifted os started H enc)

theorem proved : Rows.BlockParsesSaid := over
#print axioms proved
end Go.Proofs.Ytcnafcoifhdigaa.blockParses
