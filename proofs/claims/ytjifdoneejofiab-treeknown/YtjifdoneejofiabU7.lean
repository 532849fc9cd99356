/- The statements' helpers of layer 11: a list lent. -/
import Derived.Test.YtjifdoneejofiabU4
import Derived.Great.BuildSlice
namespace Go.Proofs.Ytjifdoneejofiab
open Go.RowKit Go.Deep
set_option linter.unusedVariables false
set_option linter.unusedSimpArgs false

theorem wpList_build_it {ops : Array Oper} {rest : List Oper} {o : Oper} {a : Act} {w : World} {Q : Exit → Act → World → Prop} (hgd : o.guard = none) (x : Operand) (ho : o.op = .buildSlice 22 1 #[(0, x)])
    (y : Tr.Iv) (hx : a.eval x = .agg y.arr)
    (h : wpList Try.prog ops Q rest (a.put o.dst (.slice (some ⟨w.heap.size, 0, none⟩) 1 1)) (w.alloc (.cells y.arr 26))) : wpList Try.prog ops Q (o :: rest) a w := by
  obtain ⟨i0, hi0, hz0, hz1, hz2⟩ := info_parts info_item
  refine wpList_buildSlice hgd 22 26 1 _ ho y.arr i0 _ Try.underlying22 hi0 hz0 (by rw [hz1]; omega) (by rw [hz1]; omega) ?_ h
  rw [hz1]
  simp only [Array.toList_map, List.map_cons, List.map_nil, hx]
  kernel_rfl
theorem wpList_built11 {P : Program} {ops : Array Oper} {rest : List Oper} {o : Oper} {a : Act} {w : World} {Q : Exit → Act → World → Prop} (hg : o.guard = none) (t : TypeId) (parts : Array (Nat × Operand)) (ho : o.op = .build t parts)
    (cells : Array Value) (hb : P.built t (parts.map fun (i, x) => (i, a.eval x)).toList = some cells)
    (h : wpList P ops Q rest (a.put o.dst (.agg cells)) w) : wpList P ops Q (o :: rest) a w :=
  wpList_build hg t parts ho (by rw [hb]; rfl) (by rw [hb]; exact h)
/-- a Body of a list that was lent: a mark behind it -/
def MarkAt (w : World) (y : Tr.Iv) : Prop := ∃ gb, y.ad = some ⟨gb, 0, none⟩ ∧ Own w gb (y.it.body.length + 1) (Tr.rowF (y.it.body ++ [201])) ∧ y.it.body.length + 1 ≤ y.cp ∧ Tr.Fit y.it
theorem Tr.rowF_left {a b : Tr.B} {i : Nat} (h : i < a.length) : Tr.rowF (a ++ b) i = Tr.rowF a i := by
  unfold Tr.rowF
  rw [List.getD_eq_getElem?_getD, List.getD_eq_getElem?_getD, List.getElem?_append_left h]
theorem MarkAt.body {w : World} {y : Tr.Iv} (h : MarkAt w y) : BodyAt w y := by
  obtain ⟨gb, h1, h2, h3, h4⟩ := h
  refine ⟨?_, by omega, (fun e => by rw [h1] at e; cases e), h4⟩
  refine ⟨.inr ⟨gb, 0, h1, fun i hi => ?_⟩, Tr.rowF_bd _⟩
  have := (h2.cell (c := i) (by omega)).1
  rw [Nat.zero_add, this, Tr.rowF_left hi]
theorem MarkAt.mark {w : World} {y : Tr.Iv} (h : MarkAt w y) : ∃ gb, y.ad = some ⟨gb, 0, none⟩ ∧ w.cell? ⟨gb, y.it.body.length, none⟩ = some (.int .u8 201) ∧ y.it.body.length + 1 ≤ y.cp := by
  obtain ⟨gb, h1, h2, h3, h4⟩ := h
  refine ⟨gb, h1, ?_, h3⟩
  have := (h2.cell (c := y.it.body.length) (by omega)).1
  rw [this, Tr.rowF_at (c := 201) (by rw [List.getElem?_append_right (Nat.le_refl _), Nat.sub_self]; rfl)]; rfl
theorem MarkAt.keep {w w' : World} {y : Tr.Iv} (h : MarkAt w y) (g : Bw w w') : MarkAt w' y := by
  obtain ⟨gb, h1, h2, h3⟩ := h
  exact ⟨gb, h1, h2.keep g, h3⟩
/-- a list of items that grows leaves a row of bytes as it was -/
theorem MarkAt.grown {w w' : World} {y : Tr.Iv} {base n : Nat} {v : Value} {xs : List Value} (h : MarkAt w y) (g : w.grownBy w' v.ownBlock) (ho : w.ownsRow base 26 6 v n xs) : MarkAt w' y := by
  obtain ⟨gb, h1, ⟨cur, hc, h2⟩, h3⟩ := h
  refine ⟨gb, h1, ⟨cur, ?_, h2⟩, h3⟩
  rw [g.block gb (Array.getElem?_eq_some_iff.1 hc).1 ?_]
  · exact hc
  · intro e
    rcases ho.2 with ⟨rfl, _⟩ | ⟨g', cap, cur', rfl, hb, hg, _⟩
    · cases e
    · simp only [Value.ownBlock, Option.some.injEq] at e
      subst e
      rw [hc] at hg
      injection hg with hg
      injection hg with _ ht
      exact absurd ht (by decide)
theorem box_cell4 {w : World} {g : Nat} {y : Tr.Iv} (h : BoxAt w g y) : w.frozen? ⟨g, 4, none⟩ = false := by
  unfold BoxAt at h
  simp [World.frozen?, h]
theorem box_set4 {w : World} {g : Nat} {y : Tr.Iv} (h : BoxAt w g y) (A : Option Addr) (c : Nat) : BoxAt (w.setCell ⟨g, 4, none⟩ (.slice A y.it.body.length c)) g ⟨y.it, A, c⟩ := by
  have := heap_setCell_same w g 4 _ _ (.slice A y.it.body.length c) h
  unfold BoxAt
  rw [this]
  rfl
/-- a list that was lent -/
structure LentAt (w : World) (g c : Nat) (M : List Tr.Iv) : Prop where
  its : ItsAt w (some ⟨g, 0, none⟩) M
  marks : ∀ y ∈ M, MarkAt w y
  room : M.length + 1 ≤ c
  mark : w.cell? ⟨g, M.length * 6, none⟩ = some (.string ⟨#[109, 97, 114, 107]⟩)
theorem LentAt.keep {w w' : World} {g c : Nat} {M : List Tr.Iv} (h : LentAt w g c M) (k : Bw w w') : LentAt w' g c M :=
  ⟨h.its.keep k, fun y hy => (h.marks y hy).keep k, h.room, (k.cell (p := ⟨g, M.length * 6, none⟩) (block_lt_of_cell h.mark)).trans h.mark⟩
def Tr.markI : Tr.Iv := ⟨⟨[109, 97, 114, 107], 0, 0, 0, [], []⟩, none, 0⟩
theorem Tr.markI_fit : Tr.Fit Tr.markI.it := ⟨by decide, by decide, by decide, by decide, by decide, by decide⟩
theorem built_mark : Try.prog.built 26 [(0, .string ⟨#[109, 97, 114, 107]⟩)] = some Tr.markI.arr := by kernel_rfl
theorem mark_body (w : World) : BodyAt w Tr.markI := ⟨⟨.inl rfl, Tr.rowF_bd _⟩, Nat.le_refl _, fun _ => rfl, Tr.markI_fit⟩
theorem its_one {w : World} {g : Nat} {y : Tr.Iv} (h : BoxAt w g y) (hb : BodyAt w y) : ItsAt w (some ⟨g, 0, none⟩) [y] := by
  refine ⟨.inr ⟨g, 0, rfl, fun i z hz => ?_⟩, fun z hz => by rw [List.mem_singleton.1 hz]; exact hb⟩
  cases i with
  | zero => simp at hz; subst hz; exact h.it
  | succ i => simp at hz
theorem own_lower11 {W : World} {b b' : Nat} {e : TypeId} {s n : Nat} {v : Value} {xs : List Value} (h : W.ownsRow b e s v n xs) (hb : b' ≤ b) : W.ownsRow b' e s v n xs := by
  refine ⟨h.1, ?_⟩
  rcases h.2 with h0 | ⟨g, cap, cur, h1, h2, h3⟩
  · exact .inl h0
  · exact .inr ⟨g, cap, cur, h1, Nat.le_trans hb h2, h3⟩
theorem Tr.cells_row (l : Tr.B) (c : UInt8) : cellsU (Tr.rowF l) l.length ++ [.int .u8 (c.toNat : Int)] = cellsU (Tr.rowF (l ++ [c])) (l.length + 1) := by
  rw [cellsU_succ]
  congr 1
  · exact List.map_congr_left fun i hi => by rw [Tr.rowF_left (List.mem_range.1 hi)]
  · rw [Tr.rowF_at (c := c) (by rw [List.getElem?_append_right (Nat.le_refl _), Nat.sub_self]; rfl)]
set_option maxRecDepth 100000 in
set_option maxHeartbeats 8000000 in
theorem lent11_any (A : Option Addr) (cap : Nat) (L : List Tr.Iv) (hn : (L.length + 1) * 80 ≤ 140737488355328) (w : World) (ha : ItsAt w A L) :
    Calls Try.prog 17 #[.slice A L.length cap] w fun e w' => ∃ g c M, e = .returned (.slice (some ⟨g, 0, none⟩) L.length c) ∧ Tr.its M = Tr.its L ∧ LentAt w' g c M ∧ w.heap.size ≤ g ∧ Bw w w' := by
  obtain ⟨n, hnn⟩ : ∃ n, Hid (L.length = n) := ⟨_, rfl⟩
  rw [hnn.out] at hn ⊢
  have HA : Hid (ItsAt w A L) := ha
  clear ha
  obtain ⟨i0, hi0, hz0, hz1, hz2⟩ := info_parts info_u8
  obtain ⟨j0, hj0, hy0, hy1, hy2⟩ := info_parts info_item
  obtain ⟨H, hH⟩ : ∃ H, Hid (w.heap.size = H) := ⟨_, rfl⟩
  rw [hH.out]
  have hbm := built_mark
  go_enter Try.func17, Try.ntmps17
  go_wp2
  go_loopw [3, 4] (fun v i wr => ∃ (k : Nat) (M : List Tr.Iv), k ≤ n ∧ i = .int .i64 (k : Int) ∧ Hid (Tr.its M = (Tr.its L).take k) ∧ Hid (∀ y ∈ M, MarkAt wr y) ∧ Hid (wr.ownsRow H 26 6 v k (Tr.cellsI M)) ∧ Bw w wr) (fun _ i _ => n - (intOf i).toNat)
  case atStart => exact ⟨0, [], Nat.zero_le _, rfl, by show _ = _; rfl, fun y hy => by simp at hy, World.ownsRow_nil _ _ _ _, Bw.refl _⟩
  case round =>
    obtain ⟨i, M, hi, rfl, hM, hmk, hown, hbw⟩ := hrel
    have i0' : (0 : Int) ≤ (i : Int) := Int.natCast_nonneg _
    by_cases hlt : i < n
    · have i1 : (i : Int) < (n : Int) := by omega
      obtain ⟨y, hy⟩ : ∃ y, Hid (L[i]? = some y) := ⟨_, List.getElem?_eq_getElem (by rw [hnn.out]; exact hlt)⟩
      have HFit : Hid (Tr.Fit y.it) := (HA.out.body y (List.mem_of_getElem? hy.out)).fit
      have hfb := HFit.out.body
      obtain ⟨b, off, rfl, hY, hBy⟩ := (HA.out.keep hbw).at hy.out
      have HY : Hid (ItAt wr b (off + i * 6) y) := hY
      have HBy : Hid (BodyAt wr y) := hBy
      clear hY hBy
      obtain ⟨q, hq⟩ : ∃ q, Hid (y.it.body.length = q) := ⟨_, rfl⟩
      rw [hq.out] at hfb
      have q0 : (0 : Int) ≤ (q : Int) := Int.natCast_nonneg _
      go_upto_region 9 with (first
        | refine wpList_load_it (by rfl) (.tmp 16) rfl b (off + i * 6) rfl y HY.out ?_
        | (refine wpList_store_row rfl 26 _ _ rfl wr.heap.size y.arr rfl rfl 26 _ (heap_alloc_new _ _) (info_it y) rfl (Tr.arr_one y) ?_; rw [setRow_alloc_new]; obtain ⟨W1, hW1⟩ : ∃ V, V = wr.alloc (.cells y.arr 26) := ⟨_, rfl⟩; have hX1 : BoxAt W1 wr.heap.size y := (by rw [hW1]; exact BoxAt.new _ _); have hb1 : Bw wr W1 := (by rw [hW1]; exact bw_alloc11 (Bw.refl _) _); rw [← hW1]; clear hW1; obtain ⟨-, -, -, -, x4, -⟩ := hX1.cells; rw [hq.out] at x4)
        | (at_builtin; refine wpList_append_rowat _ (by rfl) (.tmp 21) (.tmp 23) _ (by rfl) W1.heap.size 5 i0 _ 1 Try.underlying24 hi0 hz0 hz1 hz2 rfl _ _ _ (by rfl) (World.ownsRow_nil W1 _ _ _) y.ad q y.cp (Tr.rowF y.it.body) (by rfl) (by rw [← hq.out]; exact (HBy.out.keep hb1).row) HBy.out.nil (by unfold maxLen; omega) (by omega) (Nat.le_refl _) ?_; intro v1 w1 hown1 hgrow1; simp only [Nat.zero_add, List.nil_append] at hown1; have bw1 : Bw W1 w1 := (Below.refl _ _).grown hgrow1 (Nat.le_refl _) (fun k hk => by simp [Value.ownBlock] at hk)))
      have szw1 := bw1.size
      have hX2 := hX1.keep bw1
      go_upto_region 10 with (at_builtin; refine wpList_append_lies _ (by rfl) (.tmp 25) (.tmp 26) _ (by rfl) W1.heap.size 5 i0 _ 1 1 Try.underlying24 hi0 hz0 hz1 hz2 rfl (by omega) _ _ _ (by rfl) (hown1.alloc _) ⟨w1.heap.size, 0, none⟩ 1 1 [_] (by rfl) (by rfl) (World.news_of_block (cs := #[_]) (t := 5) (fr := (0, 0)) (heap_alloc_new w1 _)) (by simp [Value.oneCell']) (by omega) (by unfold maxLen; omega) (by omega) (by simp; omega) (w1.heap.size + 1) (by simp) ?_; intro g3 c3 w3 hown3 hgrow3 hat3 hlt3; have hcap3 : q + 1 ≤ c3 := (by rcases hown3.2 with ⟨e1, _⟩ | ⟨g, cap, cur, e1, _, _, h1, _⟩; cases e1; cases e1; exact h1); have hcap3' : (q : Int) ≤ (c3 : Int) := (by omega); have hb3 : Bw W1 w3 := bw_grow hgrow3 (Below.alloc bw1 szw1 _) (by rw [size_alloc]; omega) (hown1.alloc _))
      have hX3 := hX1.keep hb3
      have hown4 : w3.ownsRow W1.heap.size 5 1 (.slice (some ⟨g3, 0, none⟩) (q + 1) c3) (q + 1) (cellsU (Tr.rowF (y.it.body ++ [201])) (q + 1)) := by
        have e := Tr.cells_row y.it.body 201
        rw [hq.out] at e
        rw [← e]; exact hown3
      obtain ⟨g5, c5, e5, hg5, hc5, hc5', ho5⟩ := Own.of hown4 (by omega)
      cases e5
      obtain ⟨y', hy'⟩ : ∃ y' : Tr.Iv, y' = ⟨y.it, some ⟨g3, 0, none⟩, c3⟩ := ⟨_, rfl⟩
      have fz := box_cell4 hX3
      have cx := hX3.cells.2.2.2.2.1
      rw [hq.out] at cx
      have hX4 := box_set4 hX3 (some ⟨g3, 0, none⟩) c3
      rw [hq.out, ← hy'] at hX4
      have hne : g3 ≠ wr.heap.size := fun e => by have := hX1.it.lt; omega
      obtain ⟨w4, hw4⟩ : ∃ V, V = w3.setCell ⟨wr.heap.size, 4, none⟩ (.slice (some ⟨g3, 0, none⟩) q c3) := ⟨_, rfl⟩
      rw [← hw4] at hX4
      have hmk4 : MarkAt w4 y' := by
        subst hy'
        refine ⟨g3, rfl, ?_, by rw [hq.out]; exact hcap3, HFit.out⟩
        obtain ⟨cur, h1, h2⟩ := ho5
        rw [hq.out, hw4]
        exact ⟨cur, (heap_setCell_other w3 ⟨wr.heap.size, 4, none⟩ g3 _ hne).trans h1, h2⟩
      have hb4 : Bw wr w4 := by rw [hw4]; exact (hb1.trans hb3).put (Nat.le_refl _) _ _
      have HMK4 : Hid (MarkAt w4 y') := hmk4
      clear hmk4 ho5 hown4 hown3 hown1 hgrow3 hgrow1 hat3 hX2
      go_upto_region 11 with fail
      rw [← hw4]
      clear fz cx x4 hX3 hX1 hne hw4
      have hyi : Hid (y'.it = y.it) := by rw [hy']; rfl
      clear hy'
      obtain ⟨w5, hw5⟩ : ∃ V, V = w4.alloc (.cells y'.arr 26) := ⟨_, rfl⟩
      have hb5 : Bw w4 w5 := by rw [hw5]; exact bw_alloc11 (Bw.refl _) _
      have hX5 : BoxAt w5 w4.heap.size y' := by rw [hw5]; exact BoxAt.new _ _
      have HI5 : Hid (ItsAt w5 (some ⟨w4.heap.size, 0, none⟩) [y']) := its_one hX5 ((HMK4.out.keep hb5).body)
      have HO5 : Hid (w5.ownsRow H 26 6 u3 i (Tr.cellsI M)) := own_keep hown.out (hb4.trans hb5)
      have HMK5 : Hid (∀ z ∈ M ++ [y'], MarkAt w5 z) := fun z hz => by
        rcases List.mem_append.1 hz with h | h
        · exact (hmk.out z h).keep (hb4.trans hb5)
        · rw [List.mem_singleton.1 h]; exact HMK4.out.keep hb5
      have hbw5 := (hbw.trans hb4).trans hb5
      have hH5 : H ≤ w5.heap.size := by rw [← hH.out]; exact hbw5.size
      clear hX5 hb5
      go_wp2_with (first
        | refine wpList_load_it (by rfl) (.tmp 5) rfl wr.heap.size 0 rfl y' hX4.it ?_
        | (refine wpList_build_it rfl (.tmp 33) rfl y' rfl ?_; rw [← hw5]; clear hw5)
        | (at_builtin; refine wpList_append_its _ (by rfl) (.tmp 32) (.tmp 34) _ (by rfl) H 26 j0 _ 80 Try.underlying22 hj0 hy0 hy1 hy2 rfl _ _ _ (by rfl) HO5.out (some ⟨w4.heap.size, 0, none⟩) 1 [y'] 1 rfl (by rfl) HI5.out (fun e => by cases e) (by unfold maxLen; omega) (by omega) hH5 ?_; intro v6 w6 hown6 hgrow6))
      go_roundw
      case rel => exact ⟨i + 1, M ++ [y'], by omega, by go_num, by show _ = _; rw [Tr.its_append, hM.out, Tr.take_snoc (Tr.its_at hy.out), ← hyi.out]; rfl, fun z hz => (HMK5.out z hz).grown hgrow6 HO5.out, by rw [Tr.cellsI_append]; exact hown6, by
        have := bw_grow hgrow6 (base := H) (by rw [← hH.out]; exact hbw5) hH5 HO5.out
        rw [← hH.out] at this; exact this⟩
      case measure => simp [intOf]; omega
    · have ei : i = n := by omega
      subst ei
      have HML : Hid (M.length = i) := by
        have := congrArg List.length hM.out
        rw [Tr.its_len, List.length_take, Tr.its_len, hnn.out, Nat.min_self] at this
        exact this
      obtain ⟨w5, hw5⟩ : ∃ V, V = wr.alloc (.cells Tr.markI.arr 26) := ⟨_, rfl⟩
      have hb5 : Bw wr w5 := by rw [hw5]; exact bw_alloc11 (Bw.refl _) _
      have hX5 : BoxAt w5 wr.heap.size Tr.markI := by rw [hw5]; exact BoxAt.new _ _
      have HI5 : Hid (ItsAt w5 (some ⟨wr.heap.size, 0, none⟩) [Tr.markI]) := its_one hX5 (mark_body _)
      have HO5 : Hid (w5.ownsRow H 26 6 u3 i (Tr.cellsI M)) := own_keep hown.out hb5
      have HMK5 : Hid (∀ z ∈ M, MarkAt w5 z) := fun z h => (hmk.out z h).keep hb5
      have hbw5 := hbw.trans hb5
      have hH5 : H ≤ w5.heap.size := by rw [← hH.out]; exact hbw5.size
      clear hX5 hb5
      go_wp2_with (first
        | refine wpList_built11 rfl 26 _ rfl _ hbm ?_
        | (refine wpList_build_it rfl (.tmp 37) rfl Tr.markI rfl ?_; rw [← hw5]; clear hw5)
        | (at_builtin; refine wpList_append_its _ (by rfl) (.tmp 36) (.tmp 38) _ (by rfl) H 26 j0 _ 80 Try.underlying22 hj0 hy0 hy1 hy2 rfl _ _ _ (by rfl) HO5.out (some ⟨wr.heap.size, 0, none⟩) 1 [Tr.markI] 1 rfl (by rfl) HI5.out (fun e => by cases e) (by unfold maxLen; omega) (by omega) hH5 ?_; intro v6 w6 hown6 hgrow6; rcases hown6.2 with ⟨e1, h0⟩ | ⟨g6, cap6, cur6, e1, hg6, hh6, h1, h2, h3, h4⟩; omega; subst e1; have hic : (i : Int) ≤ (cap6 : Int) := (by omega)))
      go_ret
      have hb6 : Bw w w6 := by
        have := bw_grow hgrow6 (base := H) (by rw [← hH.out]; exact hbw5) hH5 HO5.out
        rw [← hH.out] at this; exact this
      have HMK6 : ∀ z ∈ M, MarkAt w6 z := fun z hz => (HMK5.out z hz).grown hgrow6 HO5.out
      have hown7 : w6.ownsRow H 26 6 (.slice (some ⟨g6, 0, none⟩) (i + 1) cap6) (M ++ [Tr.markI]).length (Tr.cellsI (M ++ [Tr.markI])) := by
        rw [Tr.cellsI_append, List.length_append, HML.out]; exact hown6
      obtain ⟨A7, c7, e7, hle7, hI7, -, -⟩ := its_of_own hown7 (fun z hz => by
        rcases List.mem_append.1 hz with h | h
        · exact (HMK6 z h).body
        · rw [List.mem_singleton.1 h]; exact mark_body _)
      injection e7 with ea el ec
      subst ea
      have hmark : w6.cell? ⟨g6, M.length * 6, none⟩ = some (.string ⟨#[109, 97, 114, 107]⟩) := by
        obtain ⟨b', o', e', hc, -⟩ := hI7.at (i := M.length) (y := Tr.markI) (by rw [List.getElem?_append_right (Nat.le_refl _), Nat.sub_self]; rfl)
        cases e'
        have := hc.c0
        rw [Nat.zero_add] at this
        exact this
      refine ⟨g6, cap6, M, rfl, by rw [hM.out, List.take_of_length_le]; rw [Tr.its_len, hnn.out]; exact Nat.le_refl _, ⟨hI7.front, HMK6, by rw [HML.out]; exact h1, hmark⟩, hg6, hb6⟩
end Go.Proofs.Ytjifdoneejofiab
