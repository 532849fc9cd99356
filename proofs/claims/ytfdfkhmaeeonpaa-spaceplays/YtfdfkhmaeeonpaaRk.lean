/- Layer 16: cut. -/
import Derived.Test.YtfdfkhmaeeonpaaRj
import Derived.Deep.CutRange
namespace Go.Proofs.Ytfdfkhmaeeonpaa
open Go.RowKit Go.Deep
set_option linter.unusedVariables false
set_option linter.unusedSimpArgs false

/-- what a call leaves that changes the free runs -/
def SpEnds (g n b : Nat) (M : List Sp.Rn) (w w' : World) : Prop := ∃ b' c', SpAt w' g n b' c' M ∧ (b' = b ∨ w.heap.size ≤ b') ∧ Bx (fun y => y = g ∨ y = b) w w'
/-- a box of a run -/
structure Box1 (W : World) (p : Nat) (r : Sp.Rn) : Prop where
  a0 : W.cell? ⟨p, 0, none⟩ = some (.int .i64 (r.1 : Int))
  a1 : W.cell? ⟨p, 1, none⟩ = some (.int .i64 (r.2 : Int))
theorem Box1.keep {W W' : World} {p : Nat} {r : Sp.Rn} (h : Box1 W p r) (k : Bw W W') : Box1 W' p r := ⟨keep_cell16 h.a0 k, keep_cell16 h.a1 k⟩
theorem Box1.lt {W : World} {p : Nat} {r : Sp.Rn} (h : Box1 W p r) : p < W.heap.size := block_lt_of_cell h.a0
theorem box1_new (w : World) (r : Sp.Rn) (t : Nat) : Box1 (w.alloc (.cells #[.int .i64 (r.1 : Int), .int .i64 (r.2 : Int)] t)) w.heap.size r := by
  obtain ⟨h1, h2⟩ := cells2_new w (.int .i64 (r.1 : Int)) (.int .i64 (r.2 : Int)) t
  exact ⟨h1, h2⟩
theorem box1_row {w : World} {p : Nat} {r : Sp.Rn} {t : Nat} (h : w.heap[p]? = some (.cells #[.int .i64 (r.1 : Int), .int .i64 (r.2 : Int)] t (0, 0))) : Box1 w p r := ⟨cell_of_row _ _ 0 _ _ _ h, cell_of_row _ _ 1 _ _ _ h⟩
theorem fresh16 {W w' : World} {C : Array Value} {t : Nat} (_ : Bw W (w'.alloc (.cells C t))) : (w'.alloc (.cells C t)).heap[w'.heap.size]? = some (.cells C t (0, 0)) := heap_alloc_new _ _
theorem fresh16d {W w' : World} {C : Array Value} {t : Nat} (_ : Bw W (w'.alloc (.cells C t)).drew) : (w'.alloc (.cells C t)).drew.heap[w'.heap.size]? = some (.cells C t (0, 0)) := heap_alloc_new _ _
theorem setRow_bw16 {W w' : World} {g : Nat} (h : Bw W w') (hg : W.heap.size ≤ g) (C : Array Value) : Bw W (w'.setRow g C) := by
  refine ⟨h.os, h.tape, h.output, ?_, fun k hk => ?_⟩
  · have := h.size; simp only [World.setRow, Array.size_modify, size_setRow] at this ⊢; exact this
  · rw [setRow_other w' g k _ (by omega)]; exact h.block k hk
theorem rb_new2 (w : World) (r o : Sp.Rn) : RB (w.alloc (.cells #[.int .i64 (r.1 : Int), .int .i64 (r.2 : Int), .int .i64 (o.1 : Int), .int .i64 (o.2 : Int)] 48)) 48 w.heap.size 2 [r, o] :=
  ⟨_, (Go.MapKept.heap_alloc w _).1, rfl, Nat.le_refl _, by unfold maxLen; omega, rfl⟩
theorem rb_new1 (w : World) (r : Sp.Rn) : RB (w.alloc (.cells #[.int .i64 (r.1 : Int), .int .i64 (r.2 : Int)] 48)) 48 w.heap.size 1 [r] :=
  ⟨_, (Go.MapKept.heap_alloc w _).1, rfl, Nat.le_refl _, by unfold maxLen; omega, rfl⟩
theorem Bw.alloc16x (u : World) (o : Obj) : Bw u (u.alloc o) := bw_alloc16 (Bw.refl u) o
theorem Box1.keepx {S : Nat → Prop} {W W' : World} {p : Nat} {r : Sp.Rn} (h : Box1 W p r) (k : Bx S W W') (hS : ¬ S p) : Box1 W' p r := by
  have e := k.block p h.lt hS
  exact ⟨(World.cell?_of_block e).trans h.a0, (World.cell?_of_block e).trans h.a1⟩
theorem SpAt.stored {w : World} {g n b c : Nat} {M : List Sp.Rn} {y : Value} (hg : w.heap[g]? = some (.cells #[.int .i64 (n : Int), y] 50 (0, 0))) (hR : RB w 48 b c M) (hne : g ≠ b) (hN : Sp.Norm n M) (hn : n ≤ 65536) :
    SpAt (w.setCell ⟨g, 1, none⟩ (.slice (some ⟨b, 0, none⟩) M.length c)) g n b c M :=
  ⟨heap_setCell_same w g _ _ _ _ hg, hR.keepx ((Bx.refl (· = g) w).put rfl) (fun e => hne e.symm), hN, hn⟩
theorem Sp.split_at {L : List Sp.Rn} {i : Nat} {r : Sp.Rn} (hi : L[i]? = some r) : L.take i ++ r :: L.drop (i + 1) = L := by
  have hlt := (List.getElem?_eq_some_iff.1 hi).1
  have h3 := List.getElem_cons_drop hlt
  rw [(List.getElem?_eq_some_iff.1 hi).2] at h3
  rw [h3, List.take_append_drop]
def CutB (W : World) (r : Sp.Rn) (v : Value) (wc : World) : Prop := ∃ q : Nat, v = .pointer (some ⟨q, 0, none⟩) ∧ Box1 wc q r ∧ W.heap.size ≤ q ∧ Bw W wc
set_option maxRecDepth 100000 in
set_option maxHeartbeats 4000000 in
theorem cut_any {w : World} {g n b c : Nat} {L : List Sp.Rn} (hs : SpAt w g n b c L) {i : Nat} {r : Sp.Rn} (hi : L[i]? = some r) (x k : Nat) (h1 : r.1 ≤ x) (h2 : x + k ≤ r.1 + r.2) (hk : 1 ≤ k) :
    Calls Try.prog 25 #[.pointer (some ⟨g, 0, none⟩), .int .i64 (i : Int), rv (x, k)] w fun e w' => e = .returned (.tuple #[]) ∧ SpEnds g n b (L.take i ++ Sp.wc [(r.1, x - r.1), (x + k, r.1 + r.2 - (x + k))] ++ L.drop (i + 1)) w w' := by
  have hN := (Sp.cut_norm (n := n) (A := L.take i) (B := L.drop (i + 1)) (r := r) (x := x) (k := k) (by rw [Sp.split_at hi]; exact hs.norm) h1 h2 hk).1
  obtain ⟨M, hM⟩ : ∃ M, Hid (L.take i ++ Sp.wc [(r.1, x - r.1), (x + k, r.1 + r.2 - (x + k))] ++ L.drop (i + 1) = M) := ⟨_, rfl⟩
  rw [hM.out] at hN ⊢
  have hri := hs.norm.ok r (List.mem_of_getElem? hi)
  have hn1 := hs.n1
  have hli := (List.getElem?_eq_some_iff.1 hi).1
  have hfew := hs.few
  obtain ⟨ra, rc⟩ := r
  dsimp only at h1 h2 hri hM
  obtain ⟨y0, y1⟩ := hs.row.cells hi
  have HS : Hid (SpAt w g n b c L) := hs
  obtain ⟨m, hm⟩ : ∃ m, Hid (L.length = m) := ⟨_, rfl⟩
  have HC : Hid (∀ v, Bw w v → v.cell? ⟨g, 1, none⟩ = some (.slice (some ⟨b, 0, none⟩) m c) ∧ v.cell? ⟨b, i * 2, none⟩ = some (.int .i64 (ra : Int)) ∧ v.cell? ⟨b, i * 2 + 1, none⟩ = some (.int .i64 (rc : Int))) := fun v kv => ⟨by rw [← hm.out]; exact (HS.out.keep kv).c1, keep_cell16 y0 kv, keep_cell16 y1 kv⟩
  rw [hm.out] at hli hfew
  have i0 : (0 : Int) ≤ (i : Int) := Int.natCast_nonneg _
  have i1 : (i : Int) < (m : Int) := by omega
  clear hs y0 y1
  obtain ⟨W0, hW0⟩ : ∃ W, W = w.alloc (.cells #[.int .i64 (x : Int), .int .i64 (k : Int)] 48) := ⟨_, rfl⟩
  have k0 : Bw w W0 := by rw [hW0]; exact bw_alloc16 (Bw.refl _) _
  have B0 : Box1 W0 w.heap.size (x, k) := by rw [hW0]; exact box1_new w (x, k) _
  obtain ⟨c1, y0, y1⟩ := HC.out W0 k0
  go_enter Try.func25, Try.ntmps25
  go_upto_region 1 with fail
  rw [← hW0]
  clear hW0
  obtain ⟨W1, hW1⟩ : ∃ W, W = W0.alloc (.cells #[.int .i64 (ra : Int), .int .i64 (rc : Int)] 48) := ⟨_, rfl⟩
  have k1 : Bw W0 W1 := by rw [hW1]; exact bw_alloc16 (Bw.refl _) _
  have B1 : Box1 W1 W0.heap.size (ra, rc) := by rw [hW1]; exact box1_new W0 (ra, rc) _
  go_upto_region 2 with fail
  rw [← hW1]
  clear hW1 c1 y0 y1
  have B01 := B0.keep k1
  have B1' := B1
  obtain ⟨x0, x1⟩ := B01
  obtain ⟨z0, z1⟩ := B1
  dsimp only at x0 x1 z0 z1
  have d0 : (0 : Int) ≤ (x : Int) - (ra : Int) := by omega
  have d1 : (x : Int) - (ra : Int) ≤ 65536 := by omega
  go_upto_region 3 with fail
  obtain ⟨W2, hW2⟩ : ∃ W, W = W1.alloc (.cells #[.int .i64 (ra : Int), .int .i64 ((x : Int) - (ra : Int))] 48) := ⟨_, rfl⟩
  have k2 : Bw W1 W2 := by rw [hW2]; exact bw_alloc16 (Bw.refl _) _
  have B2 : Box1 W2 W1.heap.size (ra, x - ra) := by
    have hh := box1_new W1 (ra, x - ra) 48
    dsimp only at hh
    rw [show ((x - ra : Nat) : Int) = (x : Int) - (ra : Int) by omega, ← hW2] at hh
    exact hh
  rw [← hW2]
  clear hW2 x0 x1 z0 z1
  have HB : Hid (∀ v, Bw W2 v → Box1 v w.heap.size (x, k) ∧ Box1 v W0.heap.size (ra, rc)) := fun v kv => ⟨(B0.keep k1).keep (k2.trans kv), B1'.keep (k2.trans kv)⟩
  obtain ⟨q1, hq1⟩ : ∃ q, Hid (x + k = q) := ⟨_, rfl⟩
  obtain ⟨q2, hq2⟩ : ∃ q, Hid (ra + rc = q) := ⟨_, rfl⟩
  have HE1 : Hid (∀ u, Calls Try.prog 37 #[.agg #[.int .i64 (x : Int), .int .i64 (k : Int)]] u fun e w' => e = .returned (.int .i64 (q1 : Int)) ∧ Bw u w') := fun u => by rw [← hq1.out]; exact end_any (x, k) (by dsimp only; omega) u
  have HE2 : Hid (∀ u, Calls Try.prog 37 #[.agg #[.int .i64 (ra : Int), .int .i64 (rc : Int)]] u fun e w' => e = .returned (.int .i64 (q2 : Int)) ∧ Bw u w') := fun u => by rw [← hq2.out]; exact end_any (ra, rc) (by dsimp only; omega) u
  rw [hq1.out] at h2 hM
  rw [hq2.out] at h2 hri hM
  have hw : IntKind.i64.wrap ((q2 : Int) - (q1 : Int)) = (q2 : Int) - (q1 : Int) := by rw [IntKind.wrap_i64]; omega
  have HX : Hid (((q2 - q1 : Nat) : Int) = (q2 : Int) - (q1 : Int)) := by refine (?_ : _ = _); omega
  have tok1 : Hid (w = w) := rfl
  go_cut [8] from 9 to 47 (fun v wc => CutB W2 (q1, q2 - q1) v wc)
  case first =>
    refine wp_region_held_drew (S := fun v => Bw W2 v) (by kernel_rfl) ((Below.refl _ _).drew) (fun hHeld => ?_)
    refine wpAnyH_take (i := 0) (v := ?_) rfl (by kernel_rfl) (by kernel_rfl) (by kernel_rfl) (fun _ _ _ h => h) (Or.inl ⟨by rfl, ?_⟩) (by assumption) ?_
    rotate_left
    · intro w hSw; (try dsimp only at hSw); obtain ⟨⟨x0, x1⟩, ⟨z0, z1⟩⟩ := HB.out _ hSw; dsimp only at x0 x1 z0 z1; go_simp; all_goals (with_reducible rfl)
    try simp only [Act.put, List.setIfInBounds_toArray, List.set_cons_zero, List.set_cons_succ, List.getElem_toArray, List.getElem_cons_succ, List.getElem_cons_zero]
    refine wpAnyH_take (i := 2) (v := ?_) rfl (by kernel_rfl) (by kernel_rfl) (by kernel_rfl) (fun _ _ _ h => h) (Or.inl ⟨by rfl, ?_⟩) (by assumption) ?_
    rotate_left
    · intro w hSw; (try dsimp only at hSw); obtain ⟨⟨x0, x1⟩, ⟨z0, z1⟩⟩ := HB.out _ hSw; dsimp only at x0 x1 z0 z1; go_simp; all_goals (with_reducible rfl)
    try simp only [Act.put, List.setIfInBounds_toArray, List.set_cons_zero, List.set_cons_succ, List.getElem_toArray, List.getElem_cons_succ, List.getElem_cons_zero]
    refine wpAnyH_take (i := 4) (v := ?_) rfl (by kernel_rfl) (by kernel_rfl) (by kernel_rfl) (fun _ _ _ h => h) (Or.inl ⟨by rfl, ?_⟩) (by assumption) ?_
    rotate_left
    · intro w hSw; (try dsimp only at hSw); obtain ⟨⟨x0, x1⟩, ⟨z0, z1⟩⟩ := HB.out _ hSw; dsimp only at x0 x1 z0 z1; go_simp; all_goals (with_reducible rfl)
    try simp only [Act.put, List.setIfInBounds_toArray, List.set_cons_zero, List.set_cons_succ, List.getElem_toArray, List.getElem_cons_succ, List.getElem_cons_zero]
    refine wpAnyH_ready (rs := [1, 8]) (by kernel_rfl) (by simp) ?_
    refine AllReadyH.cons rfl (fun K hK => ?_) ?_
    · go_simp
      refine (HE1.out _).mono ?_
      rintro e w7 ⟨rfl, hw7⟩
      refine hK.out _ _ (hHeld.trans hw7) (fun hHeld' => ?_)
      clear hK K
      try simp only [Act.put, List.setIfInBounds_toArray, List.set_cons_zero, List.set_cons_succ, List.getElem_toArray, List.getElem_cons_succ, List.getElem_cons_zero]
      clear hHeld
      have hHeld := hHeld'
      clear hHeld' hw7
      refine wpAnyH_ready (rs := [3, 8]) (by kernel_rfl) (by simp) ?_
      refine AllReadyH.cons rfl (fun K hK => ?_) ?_
      · go_simp
        refine (HE2.out _).mono ?_
        rintro e w7 ⟨rfl, hw7⟩
        refine hK.out _ _ (hHeld.trans hw7) (fun hHeld' => ?_)
        clear hK K
        try simp only [Act.put, List.setIfInBounds_toArray, List.set_cons_zero, List.set_cons_succ, List.getElem_toArray, List.getElem_cons_succ, List.getElem_cons_zero]
        clear hHeld
        have hHeld := hHeld'
        clear hHeld' hw7
        refine wpAnyH_ready (rs := [5, 8]) (by kernel_rfl) (by simp) ?_
        refine AllReadyH.cons rfl (fun K hK => ?_) ?_
        · go_simp
          refine (HE1.out _).mono ?_
          rintro e w7 ⟨rfl, hw7⟩
          refine hK.out _ _ (hHeld.trans hw7) (fun hHeld' => ?_)
          clear hK K
          try simp only [Act.put, List.setIfInBounds_toArray, List.set_cons_zero, List.set_cons_succ, List.getElem_toArray, List.getElem_cons_succ, List.getElem_cons_zero]
          clear hHeld
          have hHeld := hHeld'
          clear hHeld' hw7
          refine wpAnyH_take (i := 6) (v := ?_) rfl (by kernel_rfl) (by kernel_rfl) (by kernel_rfl) (fun _ _ _ h => h) (Or.inl ⟨by rfl, ?_⟩) (by assumption) ?_
          rotate_left
          · intro w hSw; (try dsimp only at hSw); go_simp; all_goals (with_reducible rfl)
          try simp only [Act.put, List.setIfInBounds_toArray, List.set_cons_zero, List.set_cons_succ, List.getElem_toArray, List.getElem_cons_succ, List.getElem_cons_zero]
          refine wpAnyH_take (i := 7) (v := ?_) rfl (by kernel_rfl) (by kernel_rfl) (by kernel_rfl) (fun _ _ _ h => h) (Or.inl ⟨by rfl, ?_⟩) (by assumption) ?_
          rotate_left
          · intro w hSw; (try dsimp only at hSw); go_simp; all_goals (with_reducible rfl)
          try simp only [Act.put, List.setIfInBounds_toArray, List.set_cons_zero, List.set_cons_succ, List.getElem_toArray, List.getElem_cons_succ, List.getElem_cons_zero]
          refine wpAnyH_ready (rs := [8]) (by kernel_rfl) (by simp) ?_
          refine AllReadyH.cons rfl (fun K hK => ?_) AllReadyH.nil
          go_simp
          refine hK.out _ _ (Below.alloc hHeld hHeld.size _) (fun hHeld' => ?_)
          clear hK K
          try simp only [Act.put, List.setIfInBounds_toArray, List.set_cons_zero, List.set_cons_succ, List.getElem_toArray, List.getElem_cons_succ, List.getElem_cons_zero]
          first | have hV := fresh16 hHeld' | have hV := fresh16d hHeld'
          have hgv := hHeld.size
          clear hHeld
          have hHeld := hHeld'
          clear hHeld'
          refine wpAnyH_ready (rs := [9]) (by kernel_rfl) (by simp) ?_
          refine AllReadyH.cons rfl (fun K hK => ?_) AllReadyH.nil
          rw [if_pos (by rfl)]
          refine wp_store_row 48 _ _ rfl _ #[.int .i64 (q1 : Int), .int .i64 ((q2 : Int) - (q1 : Int))] rfl rfl 48 _ hV sizeR rfl (by simp [Value.oneCell']) ?_
          refine hK.out _ _ (setRow_bw16 hHeld hgv _) (fun hHeld' => ?_)
          clear hK K
          try simp only [Act.put, List.setIfInBounds_toArray, List.set_cons_zero, List.set_cons_succ, List.getElem_toArray, List.getElem_cons_succ, List.getElem_cons_zero]
          refine wpAnyH_done (by kernel_rfl) ?_ _
          go_wp2
          go_meet
          case rel => exact ⟨_, rfl, box1_row (by dsimp only; rw [HX.out]; exact setRow_heap _ _ _ _ _ _ hV), hgv, hHeld'⟩
        refine AllReadyH.cons rfl (fun K hK => ?_) AllReadyH.nil
        go_simp
        refine hK.out _ _ (Below.alloc hHeld hHeld.size _) (fun hHeld' => ?_)
        clear hK K
        try simp only [Act.put, List.setIfInBounds_toArray, List.set_cons_zero, List.set_cons_succ, List.getElem_toArray, List.getElem_cons_succ, List.getElem_cons_zero]
        first | have hV := fresh16 hHeld' | have hV := fresh16d hHeld'
        have hgv := hHeld.size
        clear hHeld
        have hHeld := hHeld'
        clear hHeld'
        refine wpAnyH_ready (rs := [5]) (by kernel_rfl) (by simp) ?_
        refine AllReadyH.cons rfl (fun K hK => ?_) AllReadyH.nil
        go_simp
        refine (HE1.out _).mono ?_
        rintro e w7 ⟨rfl, hw7⟩
        refine hK.out _ _ (hHeld.trans hw7) (fun hHeld' => ?_)
        clear hK K
        try simp only [Act.put, List.setIfInBounds_toArray, List.set_cons_zero, List.set_cons_succ, List.getElem_toArray, List.getElem_cons_succ, List.getElem_cons_zero]
        replace hV := (hw7.block _ (Array.getElem?_eq_some_iff.1 hV).1).trans hV
        clear hHeld
        have hHeld := hHeld'
        clear hHeld' hw7
        refine wpAnyH_take (i := 6) (v := ?_) rfl (by kernel_rfl) (by kernel_rfl) (by kernel_rfl) (fun _ _ _ h => h) (Or.inl ⟨by rfl, ?_⟩) (by assumption) ?_
        rotate_left
        · intro w hSw; (try dsimp only at hSw); go_simp; all_goals (with_reducible rfl)
        try simp only [Act.put, List.setIfInBounds_toArray, List.set_cons_zero, List.set_cons_succ, List.getElem_toArray, List.getElem_cons_succ, List.getElem_cons_zero]
        refine wpAnyH_take (i := 7) (v := ?_) rfl (by kernel_rfl) (by kernel_rfl) (by kernel_rfl) (fun _ _ _ h => h) (Or.inl ⟨by rfl, ?_⟩) (by assumption) ?_
        rotate_left
        · intro w hSw; (try dsimp only at hSw); go_simp; all_goals (with_reducible rfl)
        try simp only [Act.put, List.setIfInBounds_toArray, List.set_cons_zero, List.set_cons_succ, List.getElem_toArray, List.getElem_cons_succ, List.getElem_cons_zero]
        refine wpAnyH_ready (rs := [9]) (by kernel_rfl) (by simp) ?_
        refine AllReadyH.cons rfl (fun K hK => ?_) AllReadyH.nil
        rw [if_pos (by rfl)]
        refine wp_store_row 48 _ _ rfl _ #[.int .i64 (q1 : Int), .int .i64 ((q2 : Int) - (q1 : Int))] rfl rfl 48 _ hV sizeR rfl (by simp [Value.oneCell']) ?_
        refine hK.out _ _ (setRow_bw16 hHeld hgv _) (fun hHeld' => ?_)
        clear hK K
        try simp only [Act.put, List.setIfInBounds_toArray, List.set_cons_zero, List.set_cons_succ, List.getElem_toArray, List.getElem_cons_succ, List.getElem_cons_zero]
        refine wpAnyH_done (by kernel_rfl) ?_ _
        go_wp2
        go_meet
        case rel => exact ⟨_, rfl, box1_row (by dsimp only; rw [HX.out]; exact setRow_heap _ _ _ _ _ _ hV), hgv, hHeld'⟩
      refine AllReadyH.cons rfl (fun K hK => ?_) AllReadyH.nil
      go_simp
      refine hK.out _ _ (Below.alloc hHeld hHeld.size _) (fun hHeld' => ?_)
      clear hK K
      try simp only [Act.put, List.setIfInBounds_toArray, List.set_cons_zero, List.set_cons_succ, List.getElem_toArray, List.getElem_cons_succ, List.getElem_cons_zero]
      first | have hV := fresh16 hHeld' | have hV := fresh16d hHeld'
      have hgv := hHeld.size
      clear hHeld
      have hHeld := hHeld'
      clear hHeld'
      refine wpAnyH_ready (rs := [3]) (by kernel_rfl) (by simp) ?_
      refine AllReadyH.cons rfl (fun K hK => ?_) AllReadyH.nil
      go_simp
      refine (HE2.out _).mono ?_
      rintro e w7 ⟨rfl, hw7⟩
      refine hK.out _ _ (hHeld.trans hw7) (fun hHeld' => ?_)
      clear hK K
      try simp only [Act.put, List.setIfInBounds_toArray, List.set_cons_zero, List.set_cons_succ, List.getElem_toArray, List.getElem_cons_succ, List.getElem_cons_zero]
      replace hV := (hw7.block _ (Array.getElem?_eq_some_iff.1 hV).1).trans hV
      clear hHeld
      have hHeld := hHeld'
      clear hHeld' hw7
      refine wpAnyH_ready (rs := [5]) (by kernel_rfl) (by simp) ?_
      refine AllReadyH.cons rfl (fun K hK => ?_) AllReadyH.nil
      go_simp
      refine (HE1.out _).mono ?_
      rintro e w7 ⟨rfl, hw7⟩
      refine hK.out _ _ (hHeld.trans hw7) (fun hHeld' => ?_)
      clear hK K
      try simp only [Act.put, List.setIfInBounds_toArray, List.set_cons_zero, List.set_cons_succ, List.getElem_toArray, List.getElem_cons_succ, List.getElem_cons_zero]
      replace hV := (hw7.block _ (Array.getElem?_eq_some_iff.1 hV).1).trans hV
      clear hHeld
      have hHeld := hHeld'
      clear hHeld' hw7
      refine wpAnyH_take (i := 6) (v := ?_) rfl (by kernel_rfl) (by kernel_rfl) (by kernel_rfl) (fun _ _ _ h => h) (Or.inl ⟨by rfl, ?_⟩) (by assumption) ?_
      rotate_left
      · intro w hSw; (try dsimp only at hSw); go_simp; all_goals (with_reducible rfl)
      try simp only [Act.put, List.setIfInBounds_toArray, List.set_cons_zero, List.set_cons_succ, List.getElem_toArray, List.getElem_cons_succ, List.getElem_cons_zero]
      refine wpAnyH_take (i := 7) (v := ?_) rfl (by kernel_rfl) (by kernel_rfl) (by kernel_rfl) (fun _ _ _ h => h) (Or.inl ⟨by rfl, ?_⟩) (by assumption) ?_
      rotate_left
      · intro w hSw; (try dsimp only at hSw); go_simp; all_goals (with_reducible rfl)
      try simp only [Act.put, List.setIfInBounds_toArray, List.set_cons_zero, List.set_cons_succ, List.getElem_toArray, List.getElem_cons_succ, List.getElem_cons_zero]
      refine wpAnyH_ready (rs := [9]) (by kernel_rfl) (by simp) ?_
      refine AllReadyH.cons rfl (fun K hK => ?_) AllReadyH.nil
      rw [if_pos (by rfl)]
      refine wp_store_row 48 _ _ rfl _ #[.int .i64 (q1 : Int), .int .i64 ((q2 : Int) - (q1 : Int))] rfl rfl 48 _ hV sizeR rfl (by simp [Value.oneCell']) ?_
      refine hK.out _ _ (setRow_bw16 hHeld hgv _) (fun hHeld' => ?_)
      clear hK K
      try simp only [Act.put, List.setIfInBounds_toArray, List.set_cons_zero, List.set_cons_succ, List.getElem_toArray, List.getElem_cons_succ, List.getElem_cons_zero]
      refine wpAnyH_done (by kernel_rfl) ?_ _
      go_wp2
      go_meet
      case rel => exact ⟨_, rfl, box1_row (by dsimp only; rw [HX.out]; exact setRow_heap _ _ _ _ _ _ hV), hgv, hHeld'⟩
    refine AllReadyH.cons rfl (fun K hK => ?_) AllReadyH.nil
    go_simp
    refine hK.out _ _ (Below.alloc hHeld hHeld.size _) (fun hHeld' => ?_)
    clear hK K
    try simp only [Act.put, List.setIfInBounds_toArray, List.set_cons_zero, List.set_cons_succ, List.getElem_toArray, List.getElem_cons_succ, List.getElem_cons_zero]
    first | have hV := fresh16 hHeld' | have hV := fresh16d hHeld'
    have hgv := hHeld.size
    clear hHeld
    have hHeld := hHeld'
    clear hHeld'
    refine wpAnyH_ready (rs := [1]) (by kernel_rfl) (by simp) ?_
    refine AllReadyH.cons rfl (fun K hK => ?_) AllReadyH.nil
    go_simp
    refine (HE1.out _).mono ?_
    rintro e w7 ⟨rfl, hw7⟩
    refine hK.out _ _ (hHeld.trans hw7) (fun hHeld' => ?_)
    clear hK K
    try simp only [Act.put, List.setIfInBounds_toArray, List.set_cons_zero, List.set_cons_succ, List.getElem_toArray, List.getElem_cons_succ, List.getElem_cons_zero]
    replace hV := (hw7.block _ (Array.getElem?_eq_some_iff.1 hV).1).trans hV
    clear hHeld
    have hHeld := hHeld'
    clear hHeld' hw7
    refine wpAnyH_ready (rs := [3]) (by kernel_rfl) (by simp) ?_
    refine AllReadyH.cons rfl (fun K hK => ?_) AllReadyH.nil
    go_simp
    refine (HE2.out _).mono ?_
    rintro e w7 ⟨rfl, hw7⟩
    refine hK.out _ _ (hHeld.trans hw7) (fun hHeld' => ?_)
    clear hK K
    try simp only [Act.put, List.setIfInBounds_toArray, List.set_cons_zero, List.set_cons_succ, List.getElem_toArray, List.getElem_cons_succ, List.getElem_cons_zero]
    replace hV := (hw7.block _ (Array.getElem?_eq_some_iff.1 hV).1).trans hV
    clear hHeld
    have hHeld := hHeld'
    clear hHeld' hw7
    refine wpAnyH_ready (rs := [5]) (by kernel_rfl) (by simp) ?_
    refine AllReadyH.cons rfl (fun K hK => ?_) AllReadyH.nil
    go_simp
    refine (HE1.out _).mono ?_
    rintro e w7 ⟨rfl, hw7⟩
    refine hK.out _ _ (hHeld.trans hw7) (fun hHeld' => ?_)
    clear hK K
    try simp only [Act.put, List.setIfInBounds_toArray, List.set_cons_zero, List.set_cons_succ, List.getElem_toArray, List.getElem_cons_succ, List.getElem_cons_zero]
    replace hV := (hw7.block _ (Array.getElem?_eq_some_iff.1 hV).1).trans hV
    clear hHeld
    have hHeld := hHeld'
    clear hHeld' hw7
    refine wpAnyH_take (i := 6) (v := ?_) rfl (by kernel_rfl) (by kernel_rfl) (by kernel_rfl) (fun _ _ _ h => h) (Or.inl ⟨by rfl, ?_⟩) (by assumption) ?_
    rotate_left
    · intro w hSw; (try dsimp only at hSw); go_simp; all_goals (with_reducible rfl)
    try simp only [Act.put, List.setIfInBounds_toArray, List.set_cons_zero, List.set_cons_succ, List.getElem_toArray, List.getElem_cons_succ, List.getElem_cons_zero]
    refine wpAnyH_take (i := 7) (v := ?_) rfl (by kernel_rfl) (by kernel_rfl) (by kernel_rfl) (fun _ _ _ h => h) (Or.inl ⟨by rfl, ?_⟩) (by assumption) ?_
    rotate_left
    · intro w hSw; (try dsimp only at hSw); go_simp; all_goals (with_reducible rfl)
    try simp only [Act.put, List.setIfInBounds_toArray, List.set_cons_zero, List.set_cons_succ, List.getElem_toArray, List.getElem_cons_succ, List.getElem_cons_zero]
    refine wpAnyH_ready (rs := [9]) (by kernel_rfl) (by simp) ?_
    refine AllReadyH.cons rfl (fun K hK => ?_) AllReadyH.nil
    rw [if_pos (by rfl)]
    refine wp_store_row 48 _ _ rfl _ #[.int .i64 (q1 : Int), .int .i64 ((q2 : Int) - (q1 : Int))] rfl rfl 48 _ hV sizeR rfl (by simp [Value.oneCell']) ?_
    refine hK.out _ _ (setRow_bw16 hHeld hgv _) (fun hHeld' => ?_)
    clear hK K
    try simp only [Act.put, List.setIfInBounds_toArray, List.set_cons_zero, List.set_cons_succ, List.getElem_toArray, List.getElem_cons_succ, List.getElem_cons_zero]
    refine wpAnyH_done (by kernel_rfl) ?_ _
    go_wp2
    go_meet
    case rel => exact ⟨_, rfl, box1_row (by dsimp only; rw [HX.out]; exact setRow_heap _ _ _ _ _ _ hV), hgv, hHeld'⟩
  case rest =>
    obtain ⟨q, rfl, hQ, hqW, kwc⟩ := hcut
    obtain ⟨e1, he1⟩ : ∃ e, Hid (x - ra = e) := ⟨_, rfl⟩
    obtain ⟨e2, he2⟩ : ∃ e, Hid (q2 - q1 = e) := ⟨_, rfl⟩
    rw [he1.out] at hM B2
    rw [he2.out] at hM hQ
    have hP := B2.keep kwc
    clear B2
    have kw : Bw w wc := ((k0.trans k1).trans k2).trans kwc
    have hgl : g < w.heap.size := HS.out.lt
    have hbl : b < w.heap.size := HS.out.row.lt
    have s0 := k0.size
    have s1 := k1.size
    have s2 := k2.size
    obtain ⟨P1, hP1⟩ : ∃ P, Hid (W1.heap.size = P) := ⟨_, rfl⟩
    rw [hP1.out] at hP ⊢
    have hPl := hP.lt
    have hQl := hQ.lt
    have gP : g ≠ P1 := by have := hP1.out; omega
    have bP : b ≠ P1 := by have := hP1.out; omega
    have gQ : g ≠ q := by omega
    have bQ : b ≠ q := by omega
    obtain ⟨V, hV⟩ : ∃ V, Hid (Sp.wc [(ra, e1), (q1, e2)] = V) := ⟨_, rfl⟩
    rw [hV.out] at hM
    obtain ⟨mv, hmv⟩ : ∃ mv, Hid (V.length = mv) := ⟨_, rfl⟩
    have hmv2 : mv ≤ 2 := by have := Sp.wc_len [(ra, e1), (q1, e2)]; rw [hV.out, hmv.out] at this; exact this
    have HW : Hid (∀ u, Calls Try.prog 22 #[.slice (some ⟨u.heap.size, 0, none⟩) 2 2] (u.alloc (.cells #[.int .i64 (ra : Int), .int .i64 (e1 : Int), .int .i64 (q1 : Int), .int .i64 (e2 : Int)] 48)) fun e w' => e = .returned (.slice (some ⟨u.heap.size, 0, none⟩) mv 2) ∧ RB w' 48 u.heap.size 2 V ∧ Bw u w') := fun u => by
      refine (withcells_any u.heap.size 2 [(ra, e1), (q1, e2)] (by simp) _ (rb_new2 u (ra, e1) (q1, e2))).mono ?_
      rintro e w' ⟨rfl, h1, h2⟩
      rw [hV.out, hmv.out] at *
      refine ⟨rfl, h1, ?_⟩
      exact Below.trans (Bw.alloc16x u _) (h2.below (by rw [size_alloc]; omega) (fun y hy => Nat.le_of_eq (Eq.symm hy)))
    have HR : Hid (∀ N u, Bw wc u → wc.heap.size ≤ N → RB u 48 N 2 V → Calls Try.prog 38 #[.slice (some ⟨b, 0, none⟩) m c, .int .i64 (i : Int), .int .i64 ((i : Int) + 1), .slice (some ⟨N, 0, none⟩) mv 2] u fun e w' => RepEnds b M u e w') := fun N u ku hNu hR => by
      have := rep_any b c m mv i (i + 1) N 2 L V u (HS.out.row.keep (kw.trans ku)) hR (by have := kw.size; omega) hm.out hmv.out (by omega) (by omega) (.inr ⟨rfl, hmv2, by omega⟩) (by omega)
      rw [hM.out] at this
      exact this
    have hw2 : IntKind.i64.wrap ((i : Int) + 1) = (i : Int) + 1 := by rw [IntKind.wrap_i64]; omega
    have HF : Hid (∀ u w2 b' c', Bw wc u → RB w2 48 b' c' M → (b' = b ∨ u.heap.size ≤ b') → Bx (· = b) u w2 → SpEnds g n b M w (w2.setCell ⟨g, 1, none⟩ (.slice (some ⟨b', 0, none⟩) M.length c'))) := fun u w2 b' c' ku hR hb' hX => by
      have hsu := HS.out.keep (kw.trans ku)
      have hsz := (kw.trans ku).size
      have hg2 : w2.heap[g]? = some (.cells #[.int .i64 (n : Int), .slice (some ⟨b, 0, none⟩) L.length c] 50 (0, 0)) := (hX.block g hsu.lt (by intro e; exact hsu.ne e)).trans hsu.cells
      have hne : g ≠ b' := by
        rcases hb' with h | h
        · rw [h]; exact hsu.ne
        · omega
      refine ⟨b', c', SpAt.stored hg2 hR hne hN hn1, hb'.imp id (fun h => by omega), ?_⟩
      exact ((Bx.of_bw (kw.trans ku)).trans (hX.more (fun y hy => Or.inr hy))).trans ((Bx.refl _ _).put (Or.inl rfl))
    have HG : Hid (∀ u w2, Bw wc u → Bx (· = b) u w2 → w2.frozen? ⟨g, 1, none⟩ = false ∧ w2.cell? ⟨g, 1, none⟩ = some (.slice (some ⟨b, 0, none⟩) m c)) := fun u w2 ku hX => by
      have hsu := HS.out.keep (kw.trans ku)
      have hg2 : w2.heap[g]? = some (.cells #[.int .i64 (n : Int), .slice (some ⟨b, 0, none⟩) L.length c] 50 (0, 0)) := (hX.block g hsu.lt (by intro e; exact hsu.ne e)).trans hsu.cells
      rw [← hm.out]
      exact ⟨frozen_of_row w2 g 1 _ _ hg2, cell_of_row w2 g 1 _ _ _ hg2⟩
    have HC1 : Hid (∀ v, Bw wc v → v.cell? ⟨g, 1, none⟩ = some (.slice (some ⟨b, 0, none⟩) m c)) := fun v kv => (HC.out v (kw.trans kv)).1
    clear HC HE1 HE2 HB
    go_upto_region 4 with fail
    refine wp_region_held_drew (S := fun v => Box1 v P1 (ra, e1) ∧ Box1 v q (q1, e2)) (by kernel_rfl) (⟨hP.keep ((Bw.refl _).drew), hQ.keep ((Bw.refl _).drew)⟩) (fun hHeld => ?_)
    have kv : Bw wc wc.drew := (Bw.refl _).drew
    generalize wc.drew = wd at *
    refine wpAnyH_take (i := 0) (v := ?_) rfl (by kernel_rfl) (by kernel_rfl) (by kernel_rfl) (fun _ _ _ h => h) (Or.inl ⟨by rfl, ?_⟩) (by assumption) ?_
    rotate_left
    · intro w hSw; (try dsimp only at hSw); go_simp; all_goals (with_reducible rfl)
    try simp only [Act.put, List.setIfInBounds_toArray, List.set_cons_zero, List.set_cons_succ, List.getElem_toArray, List.getElem_cons_succ, List.getElem_cons_zero]
    refine wpAnyH_take (i := 1) (v := ?_) rfl (by kernel_rfl) (by kernel_rfl) (by kernel_rfl) (fun _ _ _ h => h) (Or.inl ⟨by rfl, ?_⟩) (by assumption) ?_
    rotate_left
    · intro w hSw; (try dsimp only at hSw); go_simp; all_goals (with_reducible rfl)
    try simp only [Act.put, List.setIfInBounds_toArray, List.set_cons_zero, List.set_cons_succ, List.getElem_toArray, List.getElem_cons_succ, List.getElem_cons_zero]
    refine wpAnyH_take (i := 2) (v := ?_) rfl (by kernel_rfl) (by kernel_rfl) (by kernel_rfl) (fun _ _ _ h => h) (Or.inl ⟨by rfl, ?_⟩) (by assumption) ?_
    rotate_left
    · intro w hSw; (try dsimp only at hSw); go_simp; all_goals (with_reducible rfl)
    try simp only [Act.put, List.setIfInBounds_toArray, List.set_cons_zero, List.set_cons_succ, List.getElem_toArray, List.getElem_cons_succ, List.getElem_cons_zero]
    refine wpAnyH_take (i := 3) (v := ?_) rfl (by kernel_rfl) (by kernel_rfl) (by kernel_rfl) (fun _ _ _ h => h) (Or.inl ⟨by rfl, ?_⟩) (by assumption) ?_
    rotate_left
    · intro w hSw; (try dsimp only at hSw); go_simp; all_goals (with_reducible rfl)
    try simp only [Act.put, List.setIfInBounds_toArray, List.set_cons_zero, List.set_cons_succ, List.getElem_toArray, List.getElem_cons_succ, List.getElem_cons_zero]
    refine wpAnyH_take (i := 5) (v := ?_) rfl (by kernel_rfl) (by kernel_rfl) (by kernel_rfl) (fun _ _ _ h => h) (Or.inl ⟨by rfl, ?_⟩) (by assumption) ?_
    rotate_left
    · intro w hSw; (try dsimp only at hSw); go_simp; all_goals (with_reducible rfl)
    try simp only [Act.put, List.setIfInBounds_toArray, List.set_cons_zero, List.set_cons_succ, List.getElem_toArray, List.getElem_cons_succ, List.getElem_cons_zero]
    refine wpAnyH_take (i := 6) (v := ?_) rfl (by kernel_rfl) (by kernel_rfl) (by kernel_rfl) (fun _ _ _ h => h) (Or.inl ⟨by rfl, ?_⟩) (by assumption) ?_
    rotate_left
    · intro w hSw; (try dsimp only at hSw); go_simp; all_goals (with_reducible rfl)
    try simp only [Act.put, List.setIfInBounds_toArray, List.set_cons_zero, List.set_cons_succ, List.getElem_toArray, List.getElem_cons_succ, List.getElem_cons_zero]
    refine wpAnyH_take (i := 7) (v := ?_) rfl (by kernel_rfl) (by kernel_rfl) (by kernel_rfl) (fun _ _ _ h => h) (Or.inl ⟨by rfl, ?_⟩) (by assumption) ?_
    rotate_left
    · intro w hSw; (try dsimp only at hSw); go_simp; all_goals (with_reducible rfl)
    try simp only [Act.put, List.setIfInBounds_toArray, List.set_cons_zero, List.set_cons_succ, List.getElem_toArray, List.getElem_cons_succ, List.getElem_cons_zero]
    refine wpAnyH_take (i := 8) (v := ?_) rfl (by kernel_rfl) (by kernel_rfl) (by kernel_rfl) (fun _ _ _ h => h) (Or.inl ⟨by rfl, ?_⟩) (by assumption) ?_
    rotate_left
    · intro w hSw; (try dsimp only at hSw); obtain ⟨⟨x0, x1⟩, ⟨z0, z1⟩⟩ := hSw; dsimp only at x0 x1 z0 z1; go_simp; all_goals (with_reducible rfl)
    try simp only [Act.put, List.setIfInBounds_toArray, List.set_cons_zero, List.set_cons_succ, List.getElem_toArray, List.getElem_cons_succ, List.getElem_cons_zero]
    refine wpAnyH_take (i := 9) (v := ?_) rfl (by kernel_rfl) (by kernel_rfl) (by kernel_rfl) (fun _ _ _ h => h) (Or.inl ⟨by rfl, ?_⟩) (by assumption) ?_
    rotate_left
    · intro w hSw; (try dsimp only at hSw); obtain ⟨⟨x0, x1⟩, ⟨z0, z1⟩⟩ := hSw; dsimp only at x0 x1 z0 z1; go_simp; all_goals (with_reducible rfl)
    try simp only [Act.put, List.setIfInBounds_toArray, List.set_cons_zero, List.set_cons_succ, List.getElem_toArray, List.getElem_cons_succ, List.getElem_cons_zero]
    refine wpAnyH_ready (rs := [4, 10]) (by kernel_rfl) (by simp) ?_
    refine AllReadyH.cons rfl (fun K hK => ?_) ?_
    · have c1 := HC1.out _ kv
      go_simp
      refine hK.out _ _ hHeld (fun hHeld' => ?_)
      clear hK K hHeld'
      try simp only [Act.put, List.setIfInBounds_toArray, List.set_cons_zero, List.set_cons_succ, List.getElem_toArray, List.getElem_cons_succ, List.getElem_cons_zero]
      refine wpAnyH_ready (rs := [10]) (by kernel_rfl) (by simp) ?_
      refine AllReadyH.cons rfl (fun K hK => ?_) AllReadyH.nil
      go_simp
      refine hK.out _ _ ⟨hHeld.1.keep (bw_alloc16 (Bw.refl _) _), hHeld.2.keep (bw_alloc16 (Bw.refl _) _)⟩ (fun hHeld' => ?_)
      clear hK K
      try simp only [Act.put, List.setIfInBounds_toArray, List.set_cons_zero, List.set_cons_succ, List.getElem_toArray, List.getElem_cons_succ, List.getElem_cons_zero]
      clear hHeld
      have hHeld := hHeld'
      clear hHeld'
      refine wpAnyH_ready (rs := [11]) (by kernel_rfl) (by simp) ?_
      refine AllReadyH.cons rfl (fun K hK => ?_) AllReadyH.nil
      have hNw := kv.size
      go_simp
      refine (HW.out _).mono ?_
      rintro e w1 ⟨rfl, hRB, hb1⟩
      replace kv := kv.trans hb1
      refine hK.out _ _ ⟨hP.keep kv, hQ.keep kv⟩ (fun hHeld' => ?_)
      clear hK K
      try simp only [Act.put, List.setIfInBounds_toArray, List.set_cons_zero, List.set_cons_succ, List.getElem_toArray, List.getElem_cons_succ, List.getElem_cons_zero]
      clear hHeld
      have hHeld := hHeld'
      clear hHeld'
      refine wpAnyH_ready (rs := [12]) (by kernel_rfl) (by simp) ?_
      refine AllReadyH.cons rfl (fun K hK => ?_) AllReadyH.nil
      go_simp
      refine (HR.out _ _ kv hNw hRB).mono ?_
      rintro e w2 ⟨b', c', rfl, hRM, hbb, hX⟩
      refine hK.out _ _ ⟨hHeld.1.keepx hX (by omega), hHeld.2.keepx hX (by omega)⟩ (fun hHeld => ?_)
      clear hK K
      try simp only [Act.put, List.setIfInBounds_toArray, List.set_cons_zero, List.set_cons_succ, List.getElem_toArray, List.getElem_cons_succ, List.getElem_cons_zero]
      obtain ⟨f1, c1⟩ := HG.out _ _ kv hX
      have hfin := HF.out _ _ _ _ kv hRM hbb hX
      generalize M.length = ml at *
      refine wpAnyH_take (i := 13) (v := ?_) rfl (by kernel_rfl) (by kernel_rfl) (by kernel_rfl) (fun _ _ _ h => h) (Or.inl ⟨by rfl, ?_⟩) (by assumption) ?_
      rotate_left
      · intro w hSw; (try dsimp only at hSw); go_simp; all_goals (with_reducible rfl)
      try simp only [Act.put, List.setIfInBounds_toArray, List.set_cons_zero, List.set_cons_succ, List.getElem_toArray, List.getElem_cons_succ, List.getElem_cons_zero]
      refine wpAnyH_take (i := 14) (v := ?_) rfl (by kernel_rfl) (by kernel_rfl) (by kernel_rfl) (fun _ _ _ h => h) (Or.inl ⟨by rfl, ?_⟩) (by assumption) ?_
      rotate_left
      · intro w hSw; (try dsimp only at hSw); go_simp; all_goals (with_reducible rfl)
      try simp only [Act.put, List.setIfInBounds_toArray, List.set_cons_zero, List.set_cons_succ, List.getElem_toArray, List.getElem_cons_succ, List.getElem_cons_zero]
      refine wpAnyH_ready (rs := [15]) (by kernel_rfl) (by simp) ?_
      refine AllReadyH.cons rfl (fun K hK => ?_) AllReadyH.nil
      go_simp
      refine hK.out _ _ ⟨hHeld.1.keepx ((Bx.refl (· = g) _).put rfl) (by omega), hHeld.2.keepx ((Bx.refl (· = g) _).put rfl) (by omega)⟩ (fun hHeld => ?_)
      clear hK K
      try simp only [Act.put, List.setIfInBounds_toArray, List.set_cons_zero, List.set_cons_succ, List.getElem_toArray, List.getElem_cons_succ, List.getElem_cons_zero]
      refine wpAnyH_done (by kernel_rfl) ?_ _
      go_wp2
      go_end0
      exact ⟨rfl, hfin⟩
    refine AllReadyH.cons rfl (fun K hK => ?_) AllReadyH.nil
    go_simp
    refine hK.out _ _ ⟨hHeld.1.keep (bw_alloc16 (Bw.refl _) _), hHeld.2.keep (bw_alloc16 (Bw.refl _) _)⟩ (fun hHeld' => ?_)
    clear hK K
    try simp only [Act.put, List.setIfInBounds_toArray, List.set_cons_zero, List.set_cons_succ, List.getElem_toArray, List.getElem_cons_succ, List.getElem_cons_zero]
    clear hHeld
    have hHeld := hHeld'
    clear hHeld'
    refine wpAnyH_ready (rs := [4, 11]) (by kernel_rfl) (by simp) ?_
    refine AllReadyH.cons rfl (fun K hK => ?_) ?_
    · have c1 := HC1.out _ (bw_alloc16 kv (.cells #[.int .i64 (ra : Int), .int .i64 (e1 : Int), .int .i64 (q1 : Int), .int .i64 (e2 : Int)] 48))
      go_simp
      refine hK.out _ _ hHeld (fun hHeld' => ?_)
      clear hK K hHeld'
      try simp only [Act.put, List.setIfInBounds_toArray, List.set_cons_zero, List.set_cons_succ, List.getElem_toArray, List.getElem_cons_succ, List.getElem_cons_zero]
      refine wpAnyH_ready (rs := [11]) (by kernel_rfl) (by simp) ?_
      refine AllReadyH.cons rfl (fun K hK => ?_) AllReadyH.nil
      have hNw := kv.size
      go_simp
      refine (HW.out _).mono ?_
      rintro e w1 ⟨rfl, hRB, hb1⟩
      replace kv := kv.trans hb1
      refine hK.out _ _ ⟨hP.keep kv, hQ.keep kv⟩ (fun hHeld' => ?_)
      clear hK K
      try simp only [Act.put, List.setIfInBounds_toArray, List.set_cons_zero, List.set_cons_succ, List.getElem_toArray, List.getElem_cons_succ, List.getElem_cons_zero]
      clear hHeld
      have hHeld := hHeld'
      clear hHeld'
      refine wpAnyH_ready (rs := [12]) (by kernel_rfl) (by simp) ?_
      refine AllReadyH.cons rfl (fun K hK => ?_) AllReadyH.nil
      go_simp
      refine (HR.out _ _ kv hNw hRB).mono ?_
      rintro e w2 ⟨b', c', rfl, hRM, hbb, hX⟩
      refine hK.out _ _ ⟨hHeld.1.keepx hX (by omega), hHeld.2.keepx hX (by omega)⟩ (fun hHeld => ?_)
      clear hK K
      try simp only [Act.put, List.setIfInBounds_toArray, List.set_cons_zero, List.set_cons_succ, List.getElem_toArray, List.getElem_cons_succ, List.getElem_cons_zero]
      obtain ⟨f1, c1⟩ := HG.out _ _ kv hX
      have hfin := HF.out _ _ _ _ kv hRM hbb hX
      generalize M.length = ml at *
      refine wpAnyH_take (i := 13) (v := ?_) rfl (by kernel_rfl) (by kernel_rfl) (by kernel_rfl) (fun _ _ _ h => h) (Or.inl ⟨by rfl, ?_⟩) (by assumption) ?_
      rotate_left
      · intro w hSw; (try dsimp only at hSw); go_simp; all_goals (with_reducible rfl)
      try simp only [Act.put, List.setIfInBounds_toArray, List.set_cons_zero, List.set_cons_succ, List.getElem_toArray, List.getElem_cons_succ, List.getElem_cons_zero]
      refine wpAnyH_take (i := 14) (v := ?_) rfl (by kernel_rfl) (by kernel_rfl) (by kernel_rfl) (fun _ _ _ h => h) (Or.inl ⟨by rfl, ?_⟩) (by assumption) ?_
      rotate_left
      · intro w hSw; (try dsimp only at hSw); go_simp; all_goals (with_reducible rfl)
      try simp only [Act.put, List.setIfInBounds_toArray, List.set_cons_zero, List.set_cons_succ, List.getElem_toArray, List.getElem_cons_succ, List.getElem_cons_zero]
      refine wpAnyH_ready (rs := [15]) (by kernel_rfl) (by simp) ?_
      refine AllReadyH.cons rfl (fun K hK => ?_) AllReadyH.nil
      go_simp
      refine hK.out _ _ ⟨hHeld.1.keepx ((Bx.refl (· = g) _).put rfl) (by omega), hHeld.2.keepx ((Bx.refl (· = g) _).put rfl) (by omega)⟩ (fun hHeld => ?_)
      clear hK K
      try simp only [Act.put, List.setIfInBounds_toArray, List.set_cons_zero, List.set_cons_succ, List.getElem_toArray, List.getElem_cons_succ, List.getElem_cons_zero]
      refine wpAnyH_done (by kernel_rfl) ?_ _
      go_wp2
      go_end0
      exact ⟨rfl, hfin⟩
    refine AllReadyH.cons rfl (fun K hK => ?_) AllReadyH.nil
    have hNw := kv.size
    go_simp
    refine (HW.out _).mono ?_
    rintro e w1 ⟨rfl, hRB, hb1⟩
    replace kv := kv.trans hb1
    refine hK.out _ _ ⟨hP.keep kv, hQ.keep kv⟩ (fun hHeld' => ?_)
    clear hK K
    try simp only [Act.put, List.setIfInBounds_toArray, List.set_cons_zero, List.set_cons_succ, List.getElem_toArray, List.getElem_cons_succ, List.getElem_cons_zero]
    clear hHeld
    have hHeld := hHeld'
    clear hHeld'
    refine wpAnyH_ready (rs := [4]) (by kernel_rfl) (by simp) ?_
    refine AllReadyH.cons rfl (fun K hK => ?_) AllReadyH.nil
    have c1 := HC1.out _ kv
    go_simp
    refine hK.out _ _ hHeld (fun hHeld' => ?_)
    clear hK K hHeld'
    try simp only [Act.put, List.setIfInBounds_toArray, List.set_cons_zero, List.set_cons_succ, List.getElem_toArray, List.getElem_cons_succ, List.getElem_cons_zero]
    refine wpAnyH_ready (rs := [12]) (by kernel_rfl) (by simp) ?_
    refine AllReadyH.cons rfl (fun K hK => ?_) AllReadyH.nil
    go_simp
    refine (HR.out _ _ kv hNw hRB).mono ?_
    rintro e w2 ⟨b', c', rfl, hRM, hbb, hX⟩
    refine hK.out _ _ ⟨hHeld.1.keepx hX (by omega), hHeld.2.keepx hX (by omega)⟩ (fun hHeld => ?_)
    clear hK K
    try simp only [Act.put, List.setIfInBounds_toArray, List.set_cons_zero, List.set_cons_succ, List.getElem_toArray, List.getElem_cons_succ, List.getElem_cons_zero]
    obtain ⟨f1, c1⟩ := HG.out _ _ kv hX
    have hfin := HF.out _ _ _ _ kv hRM hbb hX
    generalize M.length = ml at *
    refine wpAnyH_take (i := 13) (v := ?_) rfl (by kernel_rfl) (by kernel_rfl) (by kernel_rfl) (fun _ _ _ h => h) (Or.inl ⟨by rfl, ?_⟩) (by assumption) ?_
    rotate_left
    · intro w hSw; (try dsimp only at hSw); go_simp; all_goals (with_reducible rfl)
    try simp only [Act.put, List.setIfInBounds_toArray, List.set_cons_zero, List.set_cons_succ, List.getElem_toArray, List.getElem_cons_succ, List.getElem_cons_zero]
    refine wpAnyH_take (i := 14) (v := ?_) rfl (by kernel_rfl) (by kernel_rfl) (by kernel_rfl) (fun _ _ _ h => h) (Or.inl ⟨by rfl, ?_⟩) (by assumption) ?_
    rotate_left
    · intro w hSw; (try dsimp only at hSw); go_simp; all_goals (with_reducible rfl)
    try simp only [Act.put, List.setIfInBounds_toArray, List.set_cons_zero, List.set_cons_succ, List.getElem_toArray, List.getElem_cons_succ, List.getElem_cons_zero]
    refine wpAnyH_ready (rs := [15]) (by kernel_rfl) (by simp) ?_
    refine AllReadyH.cons rfl (fun K hK => ?_) AllReadyH.nil
    go_simp
    refine hK.out _ _ ⟨hHeld.1.keepx ((Bx.refl (· = g) _).put rfl) (by omega), hHeld.2.keepx ((Bx.refl (· = g) _).put rfl) (by omega)⟩ (fun hHeld => ?_)
    clear hK K
    try simp only [Act.put, List.setIfInBounds_toArray, List.set_cons_zero, List.set_cons_succ, List.getElem_toArray, List.getElem_cons_succ, List.getElem_cons_zero]
    refine wpAnyH_done (by kernel_rfl) ?_ _
    go_wp2
    go_end0
    exact ⟨rfl, hfin⟩
end Go.Proofs.Ytfdfkhmaeeonpaa
