/- The program's own chosen, Beneath and Without, of layer 11, as landed at 97b3c5cd (written by mky7.py). -/
import Derived.Test.YtjifdoneejofiabY6
import Derived.Test.YtjifdoneejofiabU9
namespace Go.Proofs.Ytjifdoneejofiab
open Go.RowKit Go.Deep
set_option linter.unusedVariables false
set_option linter.unusedSimpArgs false

theorem ListEnds.says {base : Nat} {t : List Tr.It} {er : Int} {e : Ending} {w' : World} (h : ListEnds base t er e w') : SayIts t er e w' := by
  refine ⟨h.1, fun h0 => ?_⟩
  obtain ⟨v, M, e1, e2, e3⟩ := h.2 h0
  obtain ⟨A, c, hv, hle, hI, -, -⟩ := e3.its
  subst hv
  exact ⟨A, c, M, e1, e2, hle, hI⟩
set_option maxRecDepth 100000 in
theorem beneath1_any (y : Tr.Iv) (p : Tr.B) (g : Nat) (hp : p.length ≤ 140737488351232) (hf : Tr.Fit y.it) (w : World) (hg : w.cell? ⟨g, 0, none⟩ = some (.string (Nm.S p))) : Calls Try.prog 38 #[.agg y.arr, .pointer (some ⟨g, 0, none⟩)] w fun e w' => e = .returned (.bool (Tr.bnB p y.it.path)) ∧ Bw w w' := by
  obtain ⟨W, hW⟩ : ∃ W, W = w.alloc (.cells y.arr 26) := ⟨_, rfl⟩
  have hbw : Bw w W := by rw [hW]; exact bw_alloc11 (Bw.refl _) _
  have hX : BoxAt W w.heap.size y := by rw [hW]; exact BoxAt.new _ _
  obtain ⟨x0, -, -, -, -, -⟩ := hX.cells
  have hg2 := keep_cell11 hg hbw
  obtain ⟨d, hd⟩ : ∃ d, Hid (Tr.bnB p y.it.path = d) := ⟨_, rfl⟩
  have HF : Hid (∀ u, Calls Try.prog 36 #[.string (Nm.S p), .string (Nm.S y.it.path)] u fun e w' => e = .returned (.bool d) ∧ Bw u w') := fun u => by
    have hfp := hf.path
    refine (nbeneathL p y.it.path (by omega) (by omega) u).mono fun e w' h => ⟨?_, h.2⟩
    rw [← hd.out]; exact h.1.is (Tr.bnB_iff p y.it.path)
  rw [hd.out]
  clear hX hg
  go_enter Try.func38, Try.ntmps38
  go_upto_region 1 with fail
  rw [← hW]
  clear hW
  go_wp2_with (go_at_call 36; refine (HF.out _).mono ?_; rintro e w1 ⟨rfl, hw1⟩)
  go_ret
  exact ⟨rfl, hbw.trans hw1⟩
set_option maxRecDepth 100000 in
theorem without1_any (y : Tr.Iv) (p : Tr.B) (g : Nat) (hp : p.length ≤ 140737488351232) (hf : Tr.Fit y.it) (w : World) (hg : w.cell? ⟨g, 0, none⟩ = some (.string (Nm.S p))) : Calls Try.prog 35 #[.agg y.arr, .pointer (some ⟨g, 0, none⟩)] w fun e w' => e = .returned (.bool (Tr.wout p y.it)) ∧ Bw w w' := by
  obtain ⟨W, hW⟩ : ∃ W, W = w.alloc (.cells y.arr 26) := ⟨_, rfl⟩
  have hbw : Bw w W := by rw [hW]; exact bw_alloc11 (Bw.refl _) _
  have hX : BoxAt W w.heap.size y := by rw [hW]; exact BoxAt.new _ _
  obtain ⟨x0, -, -, -, -, -⟩ := hX.cells
  have hg2 := keep_cell11 hg hbw
  obtain ⟨d, hd⟩ : ∃ d, Hid (Tr.bnB p y.it.path = d) := ⟨_, rfl⟩
  have HF : Hid (∀ u, Calls Try.prog 36 #[.string (Nm.S p), .string (Nm.S y.it.path)] u fun e w' => e = .returned (.bool d) ∧ Bw u w') := fun u => by
    have hfp := hf.path
    refine (nbeneathL p y.it.path (by omega) (by omega) u).mono fun e w' h => ⟨?_, h.2⟩
    rw [← hd.out]; exact h.1.is (Tr.bnB_iff p y.it.path)
  have hwo : Tr.wout p y.it = (decide (y.it.path ≠ p) && !d) := by rw [← hd.out]; rfl
  rw [hwo]
  have es := Tr.S_eql y.it.path p
  clear hX hg hwo
  by_cases hpp : y.it.path = p
  · rw [decide_eq_true hpp] at es
    rw [decide_eq_false (show ¬ (y.it.path ≠ p) from fun h => h hpp)]
    clear hpp
    go_enter Try.func35, Try.ntmps35
    go_upto_region 1 with fail
    rw [← hW]
    clear hW
    go_wp2
    go_ret
    exact ⟨rfl, hbw⟩
  · rw [decide_eq_false hpp] at es
    rw [decide_eq_true (show y.it.path ≠ p from hpp)]
    clear hpp
    go_enter Try.func35, Try.ntmps35
    go_upto_region 1 with fail
    rw [← hW]
    clear hW
    go_wp2_with (go_at_call 36; refine (HF.out _).mono ?_; rintro e w1 ⟨rfl, hw1⟩)
    go_ret
    exact ⟨rfl, hbw.trans hw1⟩
set_option maxRecDepth 100000 in
set_option maxHeartbeats 4000000 in
theorem chosen_b (A : Option Addr) (cap : Nat) (L : List Tr.Iv) (p : Tr.B) (g : Nat) (hn : L.length * 80 ≤ 140737488355328) (hp : p.length ≤ 140737488351232) (w : World) (ha : ItsAt w A L) (hg : w.cell? ⟨g, 0, none⟩ = some (.string (Nm.S p))) :
    Calls Try.prog 34 #[.slice A L.length cap, .func (.func 38) #[] #[.pointer (some ⟨g, 0, none⟩)]] w fun e w' => ∃ A' c M, e = .returned (.slice A' M.length c) ∧ Tr.its M = (Tr.its L).filter (fun x => Tr.bnB p x.path) ∧ M.length ≤ c ∧ (A' = none → M.length = 0 ∧ c = 0) ∧ M.length ≤ L.length ∧ ItsAt w' A' M ∧ Bw w w' := by
  obtain ⟨n, hnn⟩ : ∃ n, Hid (L.length = n) := ⟨_, rfl⟩
  rw [hnn.out] at hn ⊢
  have HA : Hid (ItsAt w A L) := ha
  have HG : Hid (w.cell? ⟨g, 0, none⟩ = some (.string (Nm.S p))) := hg
  clear ha hg
  obtain ⟨j0, hj0, hy0, hy1, hy2⟩ := info_parts info_item
  obtain ⟨H, hH⟩ : ∃ H, Hid (w.heap.size = H) := ⟨_, rfl⟩
  obtain ⟨P, hP⟩ : ∃ P : Tr.It → Bool, Hid (P = (fun x => Tr.bnB p x.path)) := ⟨_, rfl⟩
  rw [← hP.out]
  go_enter Try.func34, Try.ntmps34
  go_wp2
  go_loopw [5, 10] (fun v i wr => ∃ (k : Nat), k ≤ n ∧ i = .int .i64 (k : Int) ∧ Hid (wr.ownsRow H 26 6 v (Tr.sel P (L.take k)).length (Tr.cellsI (Tr.sel P (L.take k)))) ∧ Bw w wr) (fun _ i _ => n - (intOf i).toNat)
  case atStart => exact ⟨0, Nat.zero_le _, rfl, World.ownsRow_nil _ _ _ _, Bw.refl _⟩
  case round =>
    obtain ⟨i, hi, rfl, hown, hbw⟩ := hrel
    have i0' : (0 : Int) ≤ (i : Int) := Int.natCast_nonneg _
    by_cases hlt : i < n
    · have i1 : (i : Int) < (n : Int) := by omega
      obtain ⟨y, hy⟩ : ∃ y, Hid (L[i]? = some y) := ⟨_, List.getElem?_eq_getElem (by rw [hnn.out]; exact hlt)⟩
      obtain ⟨b, off, rfl, hY, hB⟩ := (HA.out.keep hbw).at hy.out
      have HY : Hid (ItAt wr b (off + i * 6) y) := hY
      have HB : Hid (BodyAt wr y) := hB
      clear hY hB
      obtain ⟨d, hd⟩ : ∃ d, Hid (P y.it = d) := ⟨_, rfl⟩
      have HF : Hid (∀ u, Bw w u → Calls Try.prog 38 #[.agg y.arr, .pointer (some ⟨g, 0, none⟩)] u fun e w' => e = .returned (.bool d) ∧ Bw u w') := fun u hu => by
        rw [← hd.out, hP.out]; exact beneath1_any y p g hp HB.out.fit u (keep_cell11 HG.out hu)
      have hsl : (Tr.sel P (L.take i)).length ≤ i := Nat.le_trans (Tr.sel_len _ _) (by rw [List.length_take]; omega)
      have hsn := Tr.sel_snoc P hy.out
      rw [hd.out] at hsn
      obtain ⟨m, hm⟩ : ∃ m, Hid ((Tr.sel P (L.take i)).length = m) := ⟨_, rfl⟩
      rw [hm.out] at hsl hown
      cases d with
      | false =>
        have HSN : Hid (Tr.sel P (L.take (i + 1)) = Tr.sel P (L.take i)) := by show _ = _; rw [hsn, if_neg (by decide), List.append_nil]
        clear hsn
        go_wp2_with (first
          | refine wpList_load_it (by rfl) (.tmp 12) rfl b (off + i * 6) rfl y HY.out ?_
          | (refine wpList_store_row rfl 26 _ _ rfl wr.heap.size y.arr rfl rfl 26 _ (heap_alloc_new _ _) (info_it y) rfl (Tr.arr_one y) ?_; rw [setRow_alloc_new]; obtain ⟨W1, hW1⟩ : ∃ V, V = wr.alloc (.cells y.arr 26) := ⟨_, rfl⟩; have hX1 : Hid (BoxAt W1 wr.heap.size y) := (by rw [hW1]; exact BoxAt.new _ _); have hb1 : Bw wr W1 := (by rw [hW1]; exact bw_alloc11 (Bw.refl _) _); rw [← hW1]; clear hW1; have hbw1 := hbw.trans hb1)
          | refine wpList_load_it (by rfl) (.tmp 7) rfl wr.heap.size 0 rfl y hX1.out.it ?_
          | (go_at_call 38; refine (HF.out _ hbw1).mono ?_; rintro e w2 ⟨rfl, hw2⟩))
        go_roundw
        case rel => exact ⟨i + 1, by omega, by go_num, by rw [HSN.out, hm.out]; exact own_keep hown.out (hb1.trans hw2), hbw1.trans hw2⟩
        case measure => simp [intOf]; omega
      | true =>
        have HSN : Hid (Tr.sel P (L.take (i + 1)) = Tr.sel P (L.take i) ++ [y]) := by show _ = _; rw [hsn, if_pos rfl]
        clear hsn
        have tok1 : Hid (y = y) := rfl
        go_wp2_with (first
          | refine wpList_load_it (by rfl) (.tmp 12) rfl b (off + i * 6) rfl y HY.out ?_
          | (refine wpList_store_row rfl 26 _ _ rfl wr.heap.size y.arr rfl rfl 26 _ (heap_alloc_new _ _) (info_it y) rfl (Tr.arr_one y) ?_; rw [setRow_alloc_new]; obtain ⟨W1, hW1⟩ : ∃ V, V = wr.alloc (.cells y.arr 26) := ⟨_, rfl⟩; have hX1 : Hid (BoxAt W1 wr.heap.size y) := (by rw [hW1]; exact BoxAt.new _ _); have hb1 : Bw wr W1 := (by rw [hW1]; exact bw_alloc11 (Bw.refl _) _); rw [← hW1]; clear hW1; have hbw1 := hbw.trans hb1)
          | (clear tok1; refine wpList_load_it (by rfl) (.tmp 7) rfl wr.heap.size 0 rfl y hX1.out.it ?_)
          | (go_at_call 38; refine (HF.out _ hbw1).mono ?_; rintro e w2 ⟨rfl, hw2⟩; have hX2 : Hid (BoxAt w2 wr.heap.size y) := hX1.out.keep hw2; have hbw2 := hbw1.trans hw2; obtain ⟨w5, hw5⟩ : ∃ V, V = w2.alloc (.cells y.arr 26) := ⟨_, rfl⟩; have hb5 : Bw w2 w5 := (by rw [hw5]; exact bw_alloc11 (Bw.refl _) _); have HI5 : Hid (ItsAt w5 (some ⟨w2.heap.size, 0, none⟩) [y]) := (by rw [hw5]; exact its_one (BoxAt.new _ _) (((HB.out.keep hb1).keep hw2).keep (bw_alloc11 (Bw.refl _) _))); have hbw5 := hbw2.trans hb5; have hH5 : H ≤ w5.heap.size := (by rw [← hH.out]; exact hbw5.size); have HO5 : Hid _ := own_keep hown.out ((hb1.trans hw2).trans hb5))
          | refine wpList_load_it (by rfl) (.tmp 7) rfl wr.heap.size 0 rfl y hX2.out.it ?_
          | (refine wpList_build_it rfl (.tmp 18) rfl y rfl ?_; rw [← hw5]; clear hw5)
          | (at_builtin; refine wpList_append_its _ (by rfl) (.tmp 17) (.tmp 19) _ (by rfl) H 26 j0 _ 80 Try.underlying22 hj0 hy0 hy1 hy2 rfl _ _ _ (by rfl) HO5.out (some ⟨w2.heap.size, 0, none⟩) 1 [y] 1 rfl (by rfl) HI5.out (fun e => by cases e) (by unfold maxLen; omega) (by omega) hH5 ?_; intro v6 w6 hown6 hgrow6))
        go_roundw
        case rel => exact ⟨i + 1, by omega, by go_num, by rw [HSN.out, Tr.cellsI_append, List.length_append, hm.out]; exact hown6, by
          have := bw_grow hgrow6 (base := H) (by rw [← hH.out]; exact hbw5) hH5 HO5.out
          rw [← hH.out] at this; exact this⟩
        case measure => simp [intOf]; omega
    · have ei : i = n := by omega
      subst ei
      have HT : Hid (L.take i = L) := List.take_of_length_le (by rw [hnn.out]; exact Nat.le_refl _)
      have hb := fun y hy => (HA.out.keep hbw).body y hy
      obtain ⟨A', c', hv, hle, hI, hnil, -⟩ := its_sel_at hown.out hb
      subst hv
      rw [HT.out] at hI hle hnil
      have HI : Hid (ItsAt wr A' (Tr.sel P L)) := hI
      have HLE : Hid ((Tr.sel P L).length ≤ c') := hle
      have HNIL : Hid (A' = none → (Tr.sel P L).length = 0 ∧ c' = 0) := fun e => by
        obtain ⟨h1, h2⟩ := hnil e
        exact ⟨by rw [h2]; rfl, h1⟩
      have HSL : Hid ((Tr.sel P L).length ≤ i) := by have := Tr.sel_len P L; rw [hnn.out] at this; exact this
      rw [HT.out]
      clear hI hle hb hnil
      go_wp2
      go_ret
      exact ⟨A', c', Tr.sel P L, rfl, Tr.its_sel P L, HLE.out, HNIL.out, HSL.out, HI.out, hbw⟩
set_option maxRecDepth 100000 in
set_option maxHeartbeats 4000000 in
theorem chosen_w (A : Option Addr) (cap : Nat) (L : List Tr.Iv) (p : Tr.B) (g : Nat) (hn : L.length * 80 ≤ 140737488355328) (hp : p.length ≤ 140737488351232) (w : World) (ha : ItsAt w A L) (hg : w.cell? ⟨g, 0, none⟩ = some (.string (Nm.S p))) :
    Calls Try.prog 34 #[.slice A L.length cap, .func (.func 35) #[] #[.pointer (some ⟨g, 0, none⟩)]] w fun e w' => ∃ A' c M, e = .returned (.slice A' M.length c) ∧ Tr.its M = (Tr.its L).filter (Tr.wout p) ∧ M.length ≤ c ∧ (A' = none → M.length = 0 ∧ c = 0) ∧ M.length ≤ L.length ∧ ItsAt w' A' M ∧ Bw w w' := by
  obtain ⟨n, hnn⟩ : ∃ n, Hid (L.length = n) := ⟨_, rfl⟩
  rw [hnn.out] at hn ⊢
  have HA : Hid (ItsAt w A L) := ha
  have HG : Hid (w.cell? ⟨g, 0, none⟩ = some (.string (Nm.S p))) := hg
  clear ha hg
  obtain ⟨j0, hj0, hy0, hy1, hy2⟩ := info_parts info_item
  obtain ⟨H, hH⟩ : ∃ H, Hid (w.heap.size = H) := ⟨_, rfl⟩
  obtain ⟨P, hP⟩ : ∃ P : Tr.It → Bool, Hid (P = (Tr.wout p)) := ⟨_, rfl⟩
  rw [← hP.out]
  go_enter Try.func34, Try.ntmps34
  go_wp2
  go_loopw [5, 10] (fun v i wr => ∃ (k : Nat), k ≤ n ∧ i = .int .i64 (k : Int) ∧ Hid (wr.ownsRow H 26 6 v (Tr.sel P (L.take k)).length (Tr.cellsI (Tr.sel P (L.take k)))) ∧ Bw w wr) (fun _ i _ => n - (intOf i).toNat)
  case atStart => exact ⟨0, Nat.zero_le _, rfl, World.ownsRow_nil _ _ _ _, Bw.refl _⟩
  case round =>
    obtain ⟨i, hi, rfl, hown, hbw⟩ := hrel
    have i0' : (0 : Int) ≤ (i : Int) := Int.natCast_nonneg _
    by_cases hlt : i < n
    · have i1 : (i : Int) < (n : Int) := by omega
      obtain ⟨y, hy⟩ : ∃ y, Hid (L[i]? = some y) := ⟨_, List.getElem?_eq_getElem (by rw [hnn.out]; exact hlt)⟩
      obtain ⟨b, off, rfl, hY, hB⟩ := (HA.out.keep hbw).at hy.out
      have HY : Hid (ItAt wr b (off + i * 6) y) := hY
      have HB : Hid (BodyAt wr y) := hB
      clear hY hB
      obtain ⟨d, hd⟩ : ∃ d, Hid (P y.it = d) := ⟨_, rfl⟩
      have HF : Hid (∀ u, Bw w u → Calls Try.prog 35 #[.agg y.arr, .pointer (some ⟨g, 0, none⟩)] u fun e w' => e = .returned (.bool d) ∧ Bw u w') := fun u hu => by
        rw [← hd.out, hP.out]; exact without1_any y p g hp HB.out.fit u (keep_cell11 HG.out hu)
      have hsl : (Tr.sel P (L.take i)).length ≤ i := Nat.le_trans (Tr.sel_len _ _) (by rw [List.length_take]; omega)
      have hsn := Tr.sel_snoc P hy.out
      rw [hd.out] at hsn
      obtain ⟨m, hm⟩ : ∃ m, Hid ((Tr.sel P (L.take i)).length = m) := ⟨_, rfl⟩
      rw [hm.out] at hsl hown
      cases d with
      | false =>
        have HSN : Hid (Tr.sel P (L.take (i + 1)) = Tr.sel P (L.take i)) := by show _ = _; rw [hsn, if_neg (by decide), List.append_nil]
        clear hsn
        go_wp2_with (first
          | refine wpList_load_it (by rfl) (.tmp 12) rfl b (off + i * 6) rfl y HY.out ?_
          | (refine wpList_store_row rfl 26 _ _ rfl wr.heap.size y.arr rfl rfl 26 _ (heap_alloc_new _ _) (info_it y) rfl (Tr.arr_one y) ?_; rw [setRow_alloc_new]; obtain ⟨W1, hW1⟩ : ∃ V, V = wr.alloc (.cells y.arr 26) := ⟨_, rfl⟩; have hX1 : Hid (BoxAt W1 wr.heap.size y) := (by rw [hW1]; exact BoxAt.new _ _); have hb1 : Bw wr W1 := (by rw [hW1]; exact bw_alloc11 (Bw.refl _) _); rw [← hW1]; clear hW1; have hbw1 := hbw.trans hb1)
          | refine wpList_load_it (by rfl) (.tmp 7) rfl wr.heap.size 0 rfl y hX1.out.it ?_
          | (go_at_call 35; refine (HF.out _ hbw1).mono ?_; rintro e w2 ⟨rfl, hw2⟩))
        go_roundw
        case rel => exact ⟨i + 1, by omega, by go_num, by rw [HSN.out, hm.out]; exact own_keep hown.out (hb1.trans hw2), hbw1.trans hw2⟩
        case measure => simp [intOf]; omega
      | true =>
        have HSN : Hid (Tr.sel P (L.take (i + 1)) = Tr.sel P (L.take i) ++ [y]) := by show _ = _; rw [hsn, if_pos rfl]
        clear hsn
        have tok1 : Hid (y = y) := rfl
        go_wp2_with (first
          | refine wpList_load_it (by rfl) (.tmp 12) rfl b (off + i * 6) rfl y HY.out ?_
          | (refine wpList_store_row rfl 26 _ _ rfl wr.heap.size y.arr rfl rfl 26 _ (heap_alloc_new _ _) (info_it y) rfl (Tr.arr_one y) ?_; rw [setRow_alloc_new]; obtain ⟨W1, hW1⟩ : ∃ V, V = wr.alloc (.cells y.arr 26) := ⟨_, rfl⟩; have hX1 : Hid (BoxAt W1 wr.heap.size y) := (by rw [hW1]; exact BoxAt.new _ _); have hb1 : Bw wr W1 := (by rw [hW1]; exact bw_alloc11 (Bw.refl _) _); rw [← hW1]; clear hW1; have hbw1 := hbw.trans hb1)
          | (clear tok1; refine wpList_load_it (by rfl) (.tmp 7) rfl wr.heap.size 0 rfl y hX1.out.it ?_)
          | (go_at_call 35; refine (HF.out _ hbw1).mono ?_; rintro e w2 ⟨rfl, hw2⟩; have hX2 : Hid (BoxAt w2 wr.heap.size y) := hX1.out.keep hw2; have hbw2 := hbw1.trans hw2; obtain ⟨w5, hw5⟩ : ∃ V, V = w2.alloc (.cells y.arr 26) := ⟨_, rfl⟩; have hb5 : Bw w2 w5 := (by rw [hw5]; exact bw_alloc11 (Bw.refl _) _); have HI5 : Hid (ItsAt w5 (some ⟨w2.heap.size, 0, none⟩) [y]) := (by rw [hw5]; exact its_one (BoxAt.new _ _) (((HB.out.keep hb1).keep hw2).keep (bw_alloc11 (Bw.refl _) _))); have hbw5 := hbw2.trans hb5; have hH5 : H ≤ w5.heap.size := (by rw [← hH.out]; exact hbw5.size); have HO5 : Hid _ := own_keep hown.out ((hb1.trans hw2).trans hb5))
          | refine wpList_load_it (by rfl) (.tmp 7) rfl wr.heap.size 0 rfl y hX2.out.it ?_
          | (refine wpList_build_it rfl (.tmp 18) rfl y rfl ?_; rw [← hw5]; clear hw5)
          | (at_builtin; refine wpList_append_its _ (by rfl) (.tmp 17) (.tmp 19) _ (by rfl) H 26 j0 _ 80 Try.underlying22 hj0 hy0 hy1 hy2 rfl _ _ _ (by rfl) HO5.out (some ⟨w2.heap.size, 0, none⟩) 1 [y] 1 rfl (by rfl) HI5.out (fun e => by cases e) (by unfold maxLen; omega) (by omega) hH5 ?_; intro v6 w6 hown6 hgrow6))
        go_roundw
        case rel => exact ⟨i + 1, by omega, by go_num, by rw [HSN.out, Tr.cellsI_append, List.length_append, hm.out]; exact hown6, by
          have := bw_grow hgrow6 (base := H) (by rw [← hH.out]; exact hbw5) hH5 HO5.out
          rw [← hH.out] at this; exact this⟩
        case measure => simp [intOf]; omega
    · have ei : i = n := by omega
      subst ei
      have HT : Hid (L.take i = L) := List.take_of_length_le (by rw [hnn.out]; exact Nat.le_refl _)
      have hb := fun y hy => (HA.out.keep hbw).body y hy
      obtain ⟨A', c', hv, hle, hI, hnil, -⟩ := its_sel_at hown.out hb
      subst hv
      rw [HT.out] at hI hle hnil
      have HI : Hid (ItsAt wr A' (Tr.sel P L)) := hI
      have HLE : Hid ((Tr.sel P L).length ≤ c') := hle
      have HNIL : Hid (A' = none → (Tr.sel P L).length = 0 ∧ c' = 0) := fun e => by
        obtain ⟨h1, h2⟩ := hnil e
        exact ⟨by rw [h2]; rfl, h1⟩
      have HSL : Hid ((Tr.sel P L).length ≤ i) := by have := Tr.sel_len P L; rw [hnn.out] at this; exact this
      rw [HT.out]
      clear hI hle hb hnil
      go_wp2
      go_ret
      exact ⟨A', c', Tr.sel P L, rfl, Tr.its_sel P L, HLE.out, HNIL.out, HSL.out, HI.out, hbw⟩
set_option maxRecDepth 100000 in
set_option maxHeartbeats 1000000 in
theorem tbeneath_any (A : Option Addr) (cap : Nat) (L : List Tr.Iv) (p : Tr.B) (hn : L.length * 80 ≤ 140737488355328) (hp : p.length ≤ 140737488351232) (w : World) (ha : ItsAt w A L) :
    Calls Try.prog 14 #[.slice A L.length cap, .string (Nm.S p)] w fun e w' => CopyEnds w.heap.size ((Tr.its L).filter (fun x => Tr.bnB p x.path)) e w' ∧ Bw w w' := by
  obtain ⟨W, hW⟩ : ∃ W, W = w.alloc (.cells #[.string (Nm.S p)] 9) := ⟨_, rfl⟩
  have hbw : Bw w W := by rw [hW]; exact bw_alloc11 (Bw.refl _) _
  have HC : Hid (W.cell? ⟨w.heap.size, 0, none⟩ = some (.string (Nm.S p))) := by show _ = _; rw [hW]; exact (new_cell8 w _ _).1
  have HCh : Hid (∀ u, Bw W u → Calls Try.prog 34 #[.slice A L.length cap, .func (.func 38) #[] #[.pointer (some ⟨w.heap.size, 0, none⟩)]] u fun e w' => ∃ A' c M, e = .returned (.slice A' M.length c) ∧ Tr.its M = (Tr.its L).filter (fun x => Tr.bnB p x.path) ∧ M.length ≤ c ∧ (A' = none → M.length = 0 ∧ c = 0) ∧ M.length ≤ L.length ∧ ItsAt w' A' M ∧ Bw u w') := fun u hu =>
    chosen_b A cap L p w.heap.size hn hp u ((ha.keep hbw).keep hu) (keep_cell11 HC.out hu)
  obtain ⟨n, hnn⟩ : ∃ n, Hid (L.length = n) := ⟨_, rfl⟩
  rw [hnn.out] at hn HCh ⊢
  clear ha
  go_enter Try.func14, Try.ntmps14
  go_upto_region 1 with fail
  rw [← hW]
  clear hW
  go_wp2_with (first
    | (go_at_call 34; refine (HCh.out _ (Bw.refl _)).mono ?_; rintro e w1 ⟨A1, c1, M1, rfl, hm1, hle1, hnil1, hl1, hI1, hw1⟩)
    | (go_at_call 37; refine (copied_any A1 c1 M1 (by omega) hnil1 _ hI1).mono ?_; rintro e w2 ⟨⟨v2, M2, rfl, hm2, ho2⟩, hw2⟩))
  go_ret
  exact ⟨⟨v2, M2, rfl, hm2.trans hm1, ho2.lower (hbw.trans hw1).size⟩, (hbw.trans hw1).trans hw2⟩
set_option maxRecDepth 100000 in
set_option maxHeartbeats 2000000 in
theorem twithout_any (A : Option Addr) (cap : Nat) (L : List Tr.Iv) (p : Tr.B) (hn : L.length * 80 ≤ 140737488355328) (hcap : L.length ≤ cap) (hp : p.length ≤ 140737488351232) (w : World) (ha : ItsAt w A L) :
    Calls Try.prog 13 #[.slice A L.length cap, .string (Nm.S p)] w fun e w' => ListEnds w.heap.size ((Tr.its L).filter (Tr.wout p)) (Tr.woutE (Tr.its L) p) e w' ∧ Bw w w' := by
  unfold Tr.woutE
  obtain ⟨W, hW⟩ : ∃ W, W = w.alloc (.cells #[.string (Nm.S p)] 9) := ⟨_, rfl⟩
  have hbw : Bw w W := by rw [hW]; exact bw_alloc11 (Bw.refl _) _
  have HC : Hid (W.cell? ⟨w.heap.size, 0, none⟩ = some (.string (Nm.S p))) := by show _ = _; rw [hW]; exact (new_cell8 w _ _).1
  obtain ⟨cA, cE, hC⟩ : ∃ a b, Hid (Tr.chkE (Tr.its L) = (a, b)) := ⟨_, _, show Tr.chkE (Tr.its L) = _ from rfl⟩
  obtain ⟨fA, fE, hF⟩ : ∃ a b, Hid (Tr.findE (Tr.its L) p = (a, b)) := ⟨_, _, show Tr.findE (Tr.its L) p = _ from rfl⟩
  have HChk : Hid (∀ u, Bw W u → Calls Try.prog 9 #[.slice A L.length cap] u fun e w' => e = .returned (.tuple #[.int .i64 (cA : Int), .int .i64 cE]) ∧ Bw u w') := fun u hu => by
    have := tcheck_any A cap L (by omega) hcap u ((ha.keep hbw).keep hu)
    rwa [hC.out] at this
  have HFi : Hid (∀ u, Bw W u → Calls Try.prog 10 #[.slice A L.length cap, .string (Nm.S p)] u fun e w' => e = .returned (.tuple #[.int .i64 (fA : Int), .int .i64 fE]) ∧ Bw u w') := fun u hu => by
    have := tfind_any A cap L p (by omega) u ((ha.keep hbw).keep hu)
    rwa [hF.out] at this
  have HCh : Hid (∀ u, Bw W u → Calls Try.prog 34 #[.slice A L.length cap, .func (.func 35) #[] #[.pointer (some ⟨w.heap.size, 0, none⟩)]] u fun e w' => ∃ A' c M, e = .returned (.slice A' M.length c) ∧ Tr.its M = (Tr.its L).filter (Tr.wout p) ∧ M.length ≤ c ∧ (A' = none → M.length = 0 ∧ c = 0) ∧ M.length ≤ L.length ∧ ItsAt w' A' M ∧ Bw u w') := fun u hu =>
    chosen_w A cap L p w.heap.size hn hp u ((ha.keep hbw).keep hu) (keep_cell11 HC.out hu)
  rw [hC.out, hF.out]
  dsimp only
  obtain ⟨n, hnn⟩ : ∃ n, Hid (L.length = n) := ⟨_, rfl⟩
  rw [hnn.out] at hn HCh HFi HChk ⊢
  clear ha
  by_cases h1 : cE = 0
  · subst h1
    rw [if_neg (by simp)]
    by_cases h2 : fE = 0
    · subst h2
      rw [if_neg (by simp)]
      obtain ⟨T, hT⟩ : ∃ T, Hid ((Tr.its L).filter (Tr.wout p) = T) := ⟨_, rfl⟩
      rw [hT.out] at HCh ⊢
      have HKd : Hid (∀ u A1 c1 M1, M1.length * 80 ≤ 140737488355328 → M1.length ≤ c1 → (A1 = none → M1.length = 0 ∧ c1 = 0) → ItsAt u A1 M1 → Tr.its M1 = T → Calls Try.prog 29 #[.slice A1 M1.length c1] u fun e w' => (ListEnds u.heap.size T (Tr.chkE T).2 e w' ∧ Bw u w') ∧ ∃ a b, e = .returned (.tuple #[a, b])) := fun u A1 c1 M1 k1 k2 k3 k4 k5 => by
        have := checked_any A1 c1 M1 k1 k2 k3 u k4
        rw [k5] at this
        refine this.mono fun e w' h => ⟨h, ?_⟩
        by_cases e0 : (Tr.chkE T).2 = 0
        · obtain ⟨v, M, e1, _⟩ := h.1.2 e0; exact ⟨_, _, e1⟩
        · exact ⟨_, _, h.1.1 e0⟩
      go_enter Try.func13, Try.ntmps13
      go_upto_region 1 with fail
      rw [← hW]
      clear hW
      go_wp2_with (first
        | (go_at_call 9; refine (HChk.out _ (Bw.refl _)).mono ?_; rintro e w1 ⟨rfl, hw1⟩; have hc1 := keep_cell11 HC.out hw1)
        | (go_at_call 10; refine (HFi.out _ hw1).mono ?_; rintro e w2 ⟨rfl, hw2⟩; have hb2 := hw1.trans hw2)
        | (go_at_call 34; refine (HCh.out _ hb2).mono ?_; rintro e w3 ⟨A1, c1, M1, rfl, hm1, hle1, hnil1, hl1, hI1, hw3⟩)
        | (go_at_call 29; refine (HKd.out _ A1 c1 M1 (by omega) hle1 hnil1 hI1 hm1).mono ?_; rintro e w4 ⟨⟨hE4, hw4⟩, r1, r2, rfl⟩))
      go_ret2
      have hbb := (hbw.trans hb2).trans hw3
      refine ⟨⟨fun h => ?_, fun h => ?_⟩, hbb.trans hw4⟩
      · have := hE4.1 h; exact this
      · obtain ⟨v, M, e1, e2, e3⟩ := hE4.2 h
        exact ⟨v, M, e1, e2, e3.lower hbb.size⟩
    · rw [if_pos h2]
      have q1 := Tr.i_no h2
      have H2 : Hid (fE ≠ 0) := h2
      clear h2
      go_enter Try.func13, Try.ntmps13
      go_upto_region 1 with fail
      rw [← hW]
      clear hW
      go_wp2_with (first
        | (go_at_call 9; refine (HChk.out _ (Bw.refl _)).mono ?_; rintro e w1 ⟨rfl, hw1⟩; have hc1 := keep_cell11 HC.out hw1)
        | (go_at_call 10; refine (HFi.out _ hw1).mono ?_; rintro e w2 ⟨rfl, hw2⟩))
      go_ret2
      exact ⟨⟨fun _ => rfl, fun e => absurd e H2.out⟩, (hbw.trans hw1).trans hw2⟩
  · rw [if_pos h1]
    have q1 := Tr.i_no h1
    have H1 : Hid (cE ≠ 0) := h1
    clear h1
    go_enter Try.func13, Try.ntmps13
    go_upto_region 1 with fail
    rw [← hW]
    clear hW
    go_wp2_with (go_at_call 9; refine (HChk.out _ (Bw.refl _)).mono ?_; rintro e w1 ⟨rfl, hw1⟩)
    go_ret2
    exact ⟨⟨fun _ => rfl, fun e => absurd e H1.out⟩, hbw.trans hw1⟩
end Go.Proofs.Ytjifdoneejofiab
