/- Texts of mine, put together. -/
import Derived.Test.YtldkhbkgmiicbabGreatDoorBu35
import Derived.Test.YtldkhbkgmiicbabGreatDoorBu18
import Derived.Test.YtldkhbkgmiicbabGreatDoorBu17
import Derived.Test.YtldkhbkgmiicbabGreatDoorBu16
import Derived.Test.YtldkhbkgmiicbabGreatDoorBu13

/- The statements' helpers of layer 12: same, lent, kept (written by mkze.py). -/
namespace Go.Proofs.YtldkhbkgmiicbabGreatDoor
open Go.RowKit Go.Deep
set_option linter.unusedVariables false
set_option linter.unusedSimpArgs false

set_option maxRecDepth 100000 in
set_option maxHeartbeats 8000000 in
theorem same12_any (A B : Option Addr) (n m ca cb : Nat) (f g : Nat → Int) (hn : n ≤ 4611686018427387904) (hm : m ≤ 4611686018427387904) (w : World) (ha : RowAt w A n f) (hb : RowAt w B m g) :
    Calls Tryz.prog 12 #[.slice A n ca, .slice B m cb] w fun e w' => TellsO e (n = m ∧ ∀ i, i < n → f i = g i) ∧ ∃ q, w' = w.drewN q := by
  by_cases hnm : n = m
  · subst hnm
    have e1 : ((n : Int) != (n : Int)) = false := by rw [bne_eq_false_iff_eq]
    go_enter Tryz.func12, Tryz.ntmps12
    go_wp2
    go_loopw [4, 5] (fun r i wr => ∃ (k q : Nat), k ≤ n ∧ r = .bool false ∧ i = .int .i64 (k : Int) ∧ Hid (∀ i, i < k → f i = g i) ∧ Hid (wr = w.drewN q)) (fun _ i _ => n - (intOf i).toNat)
    case atStart => exact ⟨0, 0, Nat.zero_le _, rfl, rfl, fun i hi => by omega, rfl⟩
    case round =>
      obtain ⟨k, q, hk, rfl, rfl, hall, hq⟩ := hrel
      have k0 : (0 : Int) ≤ (k : Int) := Int.natCast_nonneg _
      have hbw : Bw w wr := by rw [hq.out]; exact Bw.drewN w q
      by_cases hlt : k < n
      · obtain ⟨b1, o1, rfl, hc1⟩ := (ha.keep hbw).at hlt
        obtain ⟨b2, o2, rfl, hc2⟩ := (hb.keep hbw).at hlt
        have c1 := hc1 k hlt
        have c2 := hc2 k hlt
        have t1 : (k : Int) < (n : Int) := by omega
        have hq2 : Hid (∀ nq, wr.drewN nq = w.drewN (q + nq)) := fun nq => by rw [hq.out]; exact drewN_add7 w q nq
        clear hc1 hc2
        by_cases hfg : f k = g k
        · have e2 : (f k != g k) = false := by rw [bne_eq_false_iff_eq]; exact hfg
          have hH : Hid (f k = g k) := hfg
          clear hfg
          go_wp2
          go_quiet (fail)
          go_wp2
          go_roundw
          case rel => exact ⟨k + 1, _, by omega, rfl, by go_num, fun i hi => by rcases Nat.lt_or_ge i k with h | h; exact hall.out i h; rw [show i = k by omega]; exact hH.out, hq2.out _⟩
          case measure => simp [intOf]; omega
        · have e2 : (f k != g k) = true := by rw [bne_iff_ne]; exact hfg
          go_wp2
          go_quiet (fail)
          go_wp2
          go_ret
          exact ⟨TellsO.no (fun h => hfg (h.2 k hlt)), _, hq2.out _⟩
      · have ek : k = n := by omega
        subst ek
        have t1 : ¬ (k : Int) < (k : Int) := by omega
        go_wp2
        go_ret
        first | exact ⟨TellsO.yes ⟨rfl, hall.out⟩, q, hq.out⟩ | exact ⟨TellsO.yes hall.out, q, hq.out⟩
  · have e1 : ((n : Int) != (m : Int)) = true := by rw [bne_iff_ne]; omega
    go_enter Tryz.func12, Tryz.ntmps12
    go_wp2
    go_ret
    exact ⟨TellsO.no (fun h => hnm h.1), 0, rfl⟩

set_option maxRecDepth 100000 in
set_option maxHeartbeats 8000000 in
theorem lent12_any (A : Option Addr) (cap : Nat) (L : List Tr.Iv) (hn : (L.length + 1) * 80 ≤ 140737488355328) (w : World) (ha : ItsAt w A L) :
    Calls Tryz.prog 6 #[.slice A L.length cap] w fun e w' => ∃ g c M, e = .returned (.slice (some ⟨g, 0, none⟩) L.length c) ∧ Tr.its M = Tr.its L ∧ LentAt w' g c M ∧ w.heap.size ≤ g ∧ Bw w w' := by
  obtain ⟨n, hnn⟩ : ∃ n, Hid (L.length = n) := ⟨_, rfl⟩
  rw [hnn.out] at hn ⊢
  have HA : Hid (ItsAt w A L) := ha
  clear ha
  obtain ⟨i0, hi0, hz0, hz1, hz2⟩ := info_parts info_u8
  obtain ⟨j0, hj0, hy0, hy1, hy2⟩ := info_parts info_item
  obtain ⟨H, hH⟩ : ∃ H, Hid (w.heap.size = H) := ⟨_, rfl⟩
  rw [hH.out]
  have hbm := built_mark
  go_enter Tryz.func6, Tryz.ntmps6
  go_wp2
  go_loopw [3, 4] (fun v i wr => ∃ (k : Nat) (M : List Tr.Iv), k ≤ n ∧ i = .int .i64 (k : Int) ∧ Hid (Tr.its M = (Tr.its L).take k) ∧ Hid (∀ y ∈ M, MarkAt wr y) ∧ Hid (wr.ownsRow H 26 6 v k (Tr.cellsI M)) ∧ Bw w wr) (fun _ i _ => n - (intOf i).toNat)
  case atStart => exact ⟨0, [], Nat.zero_le _, rfl, by show _ = _; rfl, fun y hy => by simp at hy, World.ownsRow_nil _ _ _ _, Bw.refl _⟩
  case round =>
    obtain ⟨i, M, hi, rfl, hM, hmk, hown, hbw⟩ := hrel
    have i0' : (0 : Int) ≤ (i : Int) := Int.natCast_nonneg _
    by_cases hlt : i < n
    · have i1 : (i : Int) < (n : Int) := by omega
      obtain ⟨y, hy⟩ : ∃ y, Hid (L[i]? = some y) := ⟨_, List.getElem?_eq_getElem (by rw [hnn.out]; exact hlt)⟩
      have HFit : Hid (Tr.Fit y.it) := (HA.out.body y (List.mem_of_getElem? hy.out)).fit
      have hfb := HFit.out.body
      obtain ⟨b, off, rfl, hY, hBy⟩ := (HA.out.keep hbw).at hy.out
      have HY : Hid (ItAt wr b (off + i * 6) y) := hY
      have HBy : Hid (BodyAt wr y) := hBy
      clear hY hBy
      obtain ⟨q, hq⟩ : ∃ q, Hid (y.it.body.length = q) := ⟨_, rfl⟩
      rw [hq.out] at hfb
      have q0 : (0 : Int) ≤ (q : Int) := Int.natCast_nonneg _
      go_upto_region 9 with (first
        | refine wpList_load_it (by rfl) (.tmp 16) rfl b (off + i * 6) rfl y HY.out ?_
        | (refine wpList_store_row rfl 26 _ _ rfl wr.heap.size y.arr rfl rfl 26 _ (heap_alloc_new _ _) (info_it y) rfl (Tr.arr_one y) ?_; rw [setRow_alloc_new]; obtain ⟨W1, hW1⟩ : ∃ V, V = wr.alloc (.cells y.arr 26) := ⟨_, rfl⟩; have hX1 : BoxAt W1 wr.heap.size y := (by rw [hW1]; exact BoxAt.new _ _); have hb1 : Bw wr W1 := (by rw [hW1]; exact bw_alloc11 (Bw.refl _) _); rw [← hW1]; clear hW1; obtain ⟨-, -, -, -, x4, -⟩ := hX1.cells; rw [hq.out] at x4)
        | (at_builtin; refine wpList_append_rowat _ (by rfl) (.tmp 21) (.tmp 23) _ (by rfl) W1.heap.size 5 i0 _ 1 Tryz.underlying24 hi0 hz0 hz1 hz2 rfl _ _ _ (by rfl) (World.ownsRow_nil W1 _ _ _) y.ad q y.cp (Tr.rowF y.it.body) (by rfl) (by rw [← hq.out]; exact (HBy.out.keep hb1).row) HBy.out.nil (by unfold maxLen; omega) (by omega) (Nat.le_refl _) ?_; intro v1 w1 hown1 hgrow1; simp only [Nat.zero_add, List.nil_append] at hown1; have bw1 : Bw W1 w1 := (Below.refl _ _).grown hgrow1 (Nat.le_refl _) (fun k hk => by simp [Value.ownBlock] at hk)))
      have szw1 := bw1.size
      have hX2 := hX1.keep bw1
      go_upto_region 10 with (at_builtin; refine wpList_append_lies _ (by rfl) (.tmp 25) (.tmp 26) _ (by rfl) W1.heap.size 5 i0 _ 1 1 Tryz.underlying24 hi0 hz0 hz1 hz2 rfl (by omega) _ _ _ (by rfl) (hown1.alloc _) ⟨w1.heap.size, 0, none⟩ 1 1 [_] (by rfl) (by rfl) (World.news_of_block (cs := #[_]) (t := 5) (fr := (0, 0)) (heap_alloc_new w1 _)) (by simp [Value.oneCell']) (by omega) (by unfold maxLen; omega) (by omega) (by simp; omega) (w1.heap.size + 1) (by simp) ?_; intro g3 c3 w3 hown3 hgrow3 hat3 hlt3; have hcap3 : q + 1 ≤ c3 := (by rcases hown3.2 with ⟨e1, _⟩ | ⟨g, cap, cur, e1, _, _, h1, _⟩; cases e1; cases e1; exact h1); have hcap3' : (q : Int) ≤ (c3 : Int) := (by omega); have hb3 : Bw W1 w3 := bw_grow hgrow3 (Below.alloc bw1 szw1 _) (by rw [size_alloc]; omega) (hown1.alloc _))
      have hX3 := hX1.keep hb3
      have hown4 : w3.ownsRow W1.heap.size 5 1 (.slice (some ⟨g3, 0, none⟩) (q + 1) c3) (q + 1) (cellsU (Tr.rowF (y.it.body ++ [201])) (q + 1)) := by
        have e := Tr.cells_row y.it.body 201
        rw [hq.out] at e
        rw [← e]; exact hown3
      obtain ⟨g5, c5, e5, hg5, hc5, hc5', ho5⟩ := Own.of hown4 (by omega)
      cases e5
      obtain ⟨y', hy'⟩ : ∃ y' : Tr.Iv, y' = ⟨y.it, some ⟨g3, 0, none⟩, c3⟩ := ⟨_, rfl⟩
      have fz := box_cell4 hX3
      have cx := hX3.cells.2.2.2.2.1
      rw [hq.out] at cx
      have hX4 := box_set4 hX3 (some ⟨g3, 0, none⟩) c3
      rw [hq.out, ← hy'] at hX4
      have hne : g3 ≠ wr.heap.size := fun e => by have := hX1.it.lt; omega
      obtain ⟨w4, hw4⟩ : ∃ V, V = w3.setCell ⟨wr.heap.size, 4, none⟩ (.slice (some ⟨g3, 0, none⟩) q c3) := ⟨_, rfl⟩
      rw [← hw4] at hX4
      have hmk4 : MarkAt w4 y' := by
        subst hy'
        refine ⟨g3, rfl, ?_, by rw [hq.out]; exact hcap3, HFit.out⟩
        obtain ⟨cur, h1, h2⟩ := ho5
        rw [hq.out, hw4]
        exact ⟨cur, (heap_setCell_other w3 ⟨wr.heap.size, 4, none⟩ g3 _ hne).trans h1, h2⟩
      have hb4 : Bw wr w4 := by rw [hw4]; exact (hb1.trans hb3).put (Nat.le_refl _) _ _
      have HMK4 : Hid (MarkAt w4 y') := hmk4
      clear hmk4 ho5 hown4 hown3 hown1 hgrow3 hgrow1 hat3 hX2
      go_upto_region 11 with fail
      rw [← hw4]
      clear fz cx x4 hX3 hX1 hne hw4
      have hyi : Hid (y'.it = y.it) := by rw [hy']; rfl
      clear hy'
      obtain ⟨w5, hw5⟩ : ∃ V, V = w4.alloc (.cells y'.arr 26) := ⟨_, rfl⟩
      have hb5 : Bw w4 w5 := by rw [hw5]; exact bw_alloc11 (Bw.refl _) _
      have hX5 : BoxAt w5 w4.heap.size y' := by rw [hw5]; exact BoxAt.new _ _
      have HI5 : Hid (ItsAt w5 (some ⟨w4.heap.size, 0, none⟩) [y']) := its_one hX5 ((HMK4.out.keep hb5).body)
      have HO5 : Hid (w5.ownsRow H 26 6 u3 i (Tr.cellsI M)) := own_keep hown.out (hb4.trans hb5)
      have HMK5 : Hid (∀ z ∈ M ++ [y'], MarkAt w5 z) := fun z hz => by
        rcases List.mem_append.1 hz with h | h
        · exact (hmk.out z h).keep (hb4.trans hb5)
        · rw [List.mem_singleton.1 h]; exact HMK4.out.keep hb5
      have hbw5 := (hbw.trans hb4).trans hb5
      have hH5 : H ≤ w5.heap.size := by rw [← hH.out]; exact hbw5.size
      clear hX5 hb5
      go_wp2_with (first
        | refine wpList_load_it (by rfl) (.tmp 5) rfl wr.heap.size 0 rfl y' hX4.it ?_
        | (refine wpList_build_it rfl (.tmp 33) rfl y' rfl ?_; rw [← hw5]; clear hw5)
        | (at_builtin; refine wpList_append_its _ (by rfl) (.tmp 32) (.tmp 34) _ (by rfl) H 26 j0 _ 80 Tryz.underlying22 hj0 hy0 hy1 hy2 rfl _ _ _ (by rfl) HO5.out (some ⟨w4.heap.size, 0, none⟩) 1 [y'] 1 rfl (by rfl) HI5.out (fun e => by cases e) (by unfold maxLen; omega) (by omega) hH5 ?_; intro v6 w6 hown6 hgrow6))
      go_roundw
      case rel => exact ⟨i + 1, M ++ [y'], by omega, by go_num, by show _ = _; rw [Tr.its_append, hM.out, Tr.take_snoc (Tr.its_at hy.out), ← hyi.out]; rfl, fun z hz => (HMK5.out z hz).grown hgrow6 HO5.out, by rw [Tr.cellsI_append]; exact hown6, by
        have := bw_grow hgrow6 (base := H) (by rw [← hH.out]; exact hbw5) hH5 HO5.out
        rw [← hH.out] at this; exact this⟩
      case measure => simp [intOf]; omega
    · have ei : i = n := by omega
      subst ei
      have HML : Hid (M.length = i) := by
        have := congrArg List.length hM.out
        rw [Tr.its_len, List.length_take, Tr.its_len, hnn.out, Nat.min_self] at this
        exact this
      obtain ⟨w5, hw5⟩ : ∃ V, V = wr.alloc (.cells Tr.markI.arr 26) := ⟨_, rfl⟩
      have hb5 : Bw wr w5 := by rw [hw5]; exact bw_alloc11 (Bw.refl _) _
      have hX5 : BoxAt w5 wr.heap.size Tr.markI := by rw [hw5]; exact BoxAt.new _ _
      have HI5 : Hid (ItsAt w5 (some ⟨wr.heap.size, 0, none⟩) [Tr.markI]) := its_one hX5 (mark_body _)
      have HO5 : Hid (w5.ownsRow H 26 6 u3 i (Tr.cellsI M)) := own_keep hown.out hb5
      have HMK5 : Hid (∀ z ∈ M, MarkAt w5 z) := fun z h => (hmk.out z h).keep hb5
      have hbw5 := hbw.trans hb5
      have hH5 : H ≤ w5.heap.size := by rw [← hH.out]; exact hbw5.size
      clear hX5 hb5
      go_wp2_with (first
        | refine wpList_built11 rfl 26 _ rfl _ hbm ?_
        | (refine wpList_build_it rfl (.tmp 37) rfl Tr.markI rfl ?_; rw [← hw5]; clear hw5)
        | (at_builtin; refine wpList_append_its _ (by rfl) (.tmp 36) (.tmp 38) _ (by rfl) H 26 j0 _ 80 Tryz.underlying22 hj0 hy0 hy1 hy2 rfl _ _ _ (by rfl) HO5.out (some ⟨wr.heap.size, 0, none⟩) 1 [Tr.markI] 1 rfl (by rfl) HI5.out (fun e => by cases e) (by unfold maxLen; omega) (by omega) hH5 ?_; intro v6 w6 hown6 hgrow6; rcases hown6.2 with ⟨e1, h0⟩ | ⟨g6, cap6, cur6, e1, hg6, hh6, h1, h2, h3, h4⟩; omega; subst e1; have hic : (i : Int) ≤ (cap6 : Int) := (by omega)))
      go_ret
      have hb6 : Bw w w6 := by
        have := bw_grow hgrow6 (base := H) (by rw [← hH.out]; exact hbw5) hH5 HO5.out
        rw [← hH.out] at this; exact this
      have HMK6 : ∀ z ∈ M, MarkAt w6 z := fun z hz => (HMK5.out z hz).grown hgrow6 HO5.out
      have hown7 : w6.ownsRow H 26 6 (.slice (some ⟨g6, 0, none⟩) (i + 1) cap6) (M ++ [Tr.markI]).length (Tr.cellsI (M ++ [Tr.markI])) := by
        rw [Tr.cellsI_append, List.length_append, HML.out]; exact hown6
      obtain ⟨A7, c7, e7, hle7, hI7, -, -⟩ := its_of_own hown7 (fun z hz => by
        rcases List.mem_append.1 hz with h | h
        · exact (HMK6 z h).body
        · rw [List.mem_singleton.1 h]; exact mark_body _)
      injection e7 with ea el ec
      subst ea
      have hmark : w6.cell? ⟨g6, M.length * 6, none⟩ = some (.string ⟨#[109, 97, 114, 107]⟩) := by
        obtain ⟨b', o', e', hc, -⟩ := hI7.at (i := M.length) (y := Tr.markI) (by rw [List.getElem?_append_right (Nat.le_refl _), Nat.sub_self]; rfl)
        cases e'
        have := hc.c0
        rw [Nat.zero_add] at this
        exact this
      refine ⟨g6, cap6, M, rfl, by rw [hM.out, List.take_of_length_le]; rw [Tr.its_len, hnn.out]; exact Nat.le_refl _, ⟨hI7.front, HMK6, by rw [HML.out]; exact h1, hmark⟩, hg6, hb6⟩
set_option maxRecDepth 100000 in
set_option maxHeartbeats 8000000 in
theorem kept12_any (g c cb : Nat) (B : Option Addr) (M L : List Tr.Iv) (hl : L.length ≤ 4611686018427387904) (he : Tr.its M = Tr.its L) (w : World) (ha : LentAt w g c M) (hb : ItsAt w B L) :
    Calls Tryz.prog 13 #[.slice (some ⟨g, 0, none⟩) L.length c, .slice B L.length cb] w fun e w' => e = .returned (.bool true) ∧ Bw w w' := by
  have hml : M.length = L.length := by have := congrArg List.length he; rwa [Tr.its_len, Tr.its_len] at this
  have HS : Hid (∀ u, Bw w u → Calls Tryz.prog 27 #[.slice (some ⟨g, 0, none⟩) L.length c, .slice B L.length cb] u fun e w' => e = .returned (.bool true) ∧ Bw u w') := fun u hu => by
    have := rsame11_any (some ⟨g, 0, none⟩) B c cb M L (by omega) hl u (ha.its.keep hu) (hb.keep hu)
    rw [hml] at this
    refine this.mono fun e w' h => ?_
    obtain ⟨⟨x, rfl, hx⟩, hw⟩ := h
    rw [hx.2 he]; exact ⟨rfl, hw⟩
  obtain ⟨n, hnn⟩ : ∃ n, Hid (L.length = n) := ⟨_, rfl⟩
  rw [hnn.out] at hl hml HS ⊢
  have HA : Hid (LentAt w g c M) := ha
  have HML : Hid (M.length = n) := hml
  have hroom : n + 1 ≤ c := by have := ha.room; omega
  have hc1 : (n : Int) + 1 ≤ (c : Int) := by omega
  have hm0 : Hid (∀ u, Bw w u → u.cell? ⟨g, n * 6, none⟩ = some (.string ⟨#[109, 97, 114, 107]⟩)) := fun u hu => by
    have := (HA.out.keep hu).mark
    rwa [HML.out] at this
  clear ha hb he hml
  have n0 : (0 : Int) ≤ (n : Int) := Int.natCast_nonneg _
  have n1 : (0 : Int) ≤ (n : Int) + 1 := by omega
  go_enter Tryz.func13, Tryz.ntmps13
  go_wp2
  go_loop [5] (fun i => ∃ k : Nat, k ≤ n ∧ i = .int .i64 (k : Int)) (fun i => n - (intOf i).toNat)
  case atStart => exact ⟨0, Nat.zero_le _, rfl⟩
  case round =>
    obtain ⟨i, hi, rfl⟩ := hrel
    have i0 : (0 : Int) ≤ (i : Int) := Int.natCast_nonneg _
    by_cases hlt : i < n
    · have i1 : (i : Int) < (n : Int) := by omega
      obtain ⟨y, hy⟩ : ∃ y, Hid (M[i]? = some y) := ⟨_, List.getElem?_eq_getElem (by rw [HML.out]; exact hlt)⟩
      have hym := List.mem_of_getElem? hy.out
      obtain ⟨b', off', e', hY, -⟩ := HA.out.its.at hy.out
      cases e'
      obtain ⟨gb, had, hmk, hcp⟩ := (HA.out.marks y hym).mark
      have c4 := hY.c4
      rw [had] at c4
      rw [Nat.zero_add] at c4
      obtain ⟨q, hq⟩ : ∃ q, Hid (y.it.body.length = q) := ⟨_, rfl⟩
      have hqb : q ≤ 140737488351232 := by rw [← hq.out]; exact ((HA.out.marks y hym).body).fit.body
      rw [hq.out] at c4 hmk hcp
      have q0 : (0 : Int) ≤ (q : Int) := Int.natCast_nonneg _
      have q1 : (0 : Int) ≤ (q : Int) + 1 := by omega
      have q2 : (q : Int) + 1 ≤ (y.cp : Int) := by omega
      have q3 : (q : Int) < (q : Int) + 1 := by omega
      clear hY had hym
      go_wp2
      go_round
      case rel => exact ⟨i + 1, by omega, by go_num⟩
      case measure => simp [intOf]; omega
    · have ei : i = n := by omega
      subst ei
      have i3 : (i : Int) < (i : Int) + 1 := by omega
      go_wp2_with (go_at_call 27; refine (HS.out _ (Bw.refl _)).mono ?_; rintro e w1 ⟨rfl, hw1⟩; have cm := hm0.out w1 hw1)
      go_ret
      exact ⟨rfl, hw1⟩
end Go.Proofs.YtldkhbkgmiicbabGreatDoor

/- Layer 12, code-free: an item's pieces tell the item. -/
namespace Go.Proofs.YtldkhbkgmiicbabGreatDoor
set_option linter.unusedVariables false
set_option linter.unusedSimpArgs false

namespace Nm
end Nm
namespace Pk
end Pk
end Go.Proofs.YtldkhbkgmiicbabGreatDoor
