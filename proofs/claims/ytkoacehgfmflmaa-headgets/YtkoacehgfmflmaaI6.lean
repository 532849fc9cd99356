/- The document's own Get, of layer 10 (written by mkrgetb10.py). -/
import Derived.Test.YtkoacehgfmflmaaI5
namespace Go.Proofs.Ytkoacehgfmflmaa
open Go.RowKit Go.Deep
set_option linter.unusedVariables false
set_option linter.unusedSimpArgs false
attribute [local go_sem] List.getElem?_cons_zero Option.getD_some

theorem row_piece {w : World} {b o : Nat} {l : Hd.B} (h : RowAt w (some ⟨b, o, none⟩) 512 (Hd.rowF l)) (hl : l.length = 512) (p n : Nat) (hp : p + n ≤ 512) : RowAt w (some ⟨b, o + p, none⟩) n (Hd.rowF ((l.drop p).take n)) ∧ ((l.drop p).take n).length = n :=
  ⟨row_to (row_from h hl p (512 - p) (by omega)) (by rw [List.length_drop]; omega) n (by omega), by rw [List.length_take, List.length_drop]; omega⟩
theorem own_gb6 {w : World} {base : Nat} {v : Value} {L : Hd.B} (h : GB w base v L) (hn : L.length = 512) : ∃ g cap, v = .slice (some ⟨g, 0, none⟩) 512 cap ∧ 512 ≤ cap ∧ base ≤ g ∧ Own w g 512 (Hd.rowF L) := by
  unfold GB at h
  rw [← Hd.cells_row, hn] at h
  obtain ⟨g, c, hv, hb, h1, h2, h3⟩ := Own.of h (by omega)
  exact ⟨g, c, hv, h1, hb, h3⟩
theorem Hd.numof_exa {l : Hd.B} {z er : Int} (h2 : 2 ≤ l.length) (h : Hd.Exa l z er) (h0 : er = 0) : Hd.NumOf l z := by
  obtain ⟨a, b, c⟩ := h.yes h0
  have := Hd.numof h2 b c
  rwa [Int.toNat_of_nonneg a] at this
theorem Hd.fits_mode {k : Hd.Hdr} (g : Hd.Good k) : Hd.Fits k.mode.toNat 8 := ⟨by have := g.mode; omega, .inl (by have := g.mode; show _ < 2097152; omega)⟩
theorem Hd.fits_size {k : Hd.Hdr} (g : Hd.Good k) : Hd.Fits k.size.toNat 12 := ⟨by have := g.size; omega, .inl (by have := g.size; show _ < 8589934592; omega)⟩
theorem Hd.fits_time {k : Hd.Hdr} (g : Hd.Good k) : Hd.Fits k.time.toNat 12 := ⟨by have := g.time; omega, .inr (by have := g.time; show _ < 309485009821345068724781056; omega)⟩
theorem Hd.none_mode {l : Hd.B} {z er : Int} (h : Hd.Exa ((l.drop 100).take 8) z er) (h0 : er ≠ 0) (k : Hd.Hdr) (g : Hd.Good k) : Hd.layB k ≠ l := fun e => by
  have := h.no h0 k.mode.toNat
  rw [← e, Hd.lay_mode g, Hd.numB_len] at this
  exact this (Hd.fits_mode g) rfl
theorem Hd.none_size {l : Hd.B} {z er : Int} (h : Hd.Exa ((l.drop 124).take 12) z er) (h0 : er ≠ 0) (k : Hd.Hdr) (g : Hd.Good k) : Hd.layB k ≠ l := fun e => by
  have := h.no h0 k.size.toNat
  rw [← e, Hd.lay_size g, Hd.numB_len] at this
  exact this (Hd.fits_size g) rfl
theorem Hd.none_time {l : Hd.B} {z er : Int} (h : Hd.Exa ((l.drop 136).take 12) z er) (h0 : er ≠ 0) (k : Hd.Hdr) (g : Hd.Good k) : Hd.layB k ≠ l := fun e => by
  have := h.no h0 k.time.toNat
  rw [← e, Hd.lay_time g, Hd.numB_len] at this
  exact this (Hd.fits_time g) rfl
theorem str_512 {l : Hd.B} (h : l.length = 512) : str (Hd.rowF l) 512 = Hd.S l := by have := Hd.str_S l; rwa [h] at this
set_option maxRecDepth 100000 in
set_option maxHeartbeats 16000000 in
theorem rget_mark (b o ca : Nat) (l : Hd.B) (hl : l.length = 512) (hca : 512 ≤ ca) (hm : (Hd.mark l == Hd.ustar) = false) (w : World) (hr : RowAt w (some ⟨b, o, none⟩) 512 (Hd.rowF l)) : Calls Try.prog 17 #[.slice (some ⟨b, o, none⟩) 512 ca] w fun e w' => GetSays10 l e ∧ Bw w w' := by
  have hz7 := zero_head
  obtain ⟨N, hN⟩ : ∃ N, Hid (N = Hd.none7) := ⟨_, rfl⟩
  have hi7 := info_head Hd.none
  rw [Hd.hv_none] at hi7
  have hN7 : Hid (N.size = Hd.none7.size) := by show _ = _; rw [hN.out]
  have hO7 : Hid (Hd.none7.all (·.oneCell') = true) := Hd.hv_one Hd.none
  have hihN : (Try.prog.info? 23).map (·.size) = some N.size := by rw [hN.out]; exact hi7
  have hN1 : Hid (N.all (·.oneCell') = true) := by rw [hN.out]; exact hO7.out
  rw [← hN.out] at hz7
  have HL : Hid (l.length = 512) := hl
  obtain ⟨W0, hW0⟩ : ∃ V, V = w.alloc (.cells N 23) := ⟨_, rfl⟩
  have hR0 : W0.heap[w.heap.size]? = some (.cells N 23 (0, 0)) := by rw [hW0]; exact heap_alloc_new _ _
  have hb0 : Bw w W0 := by rw [hW0]; exact bw_alloc7 (Bw.refl _) _
  have HRW : Hid (∀ V, Bw W0 V → RowAt V (some ⟨b, o, none⟩) 512 (Hd.rowF l)) := fun V h => hr.keep (hb0.trans h)
  obtain ⟨X, hX⟩ : ∃ X, Hid (X = Hd.S (Hd.mark l)) := ⟨_, rfl⟩
  have HCV : Hid ((convert 24 9 (.slice (some ⟨b, o + 257, none⟩) 8 (ca - 257))).run Try.prog W0 = .ok (.string X) W0) := by
    obtain ⟨h1, h2⟩ := row_piece (HRW.out _ (Bw.refl _)) HL.out 257 8 (by omega)
    have := conv_row (C := ca - 257) h1
    have e := Hd.str_S (Hd.mark l)
    rw [Hd.mark_len HL.out] at e
    rw [hX.out, ← e]
    exact this
  have ca1 : (512 : Int) ≤ (ca : Int) := by omega
  have d257 : ¬ ca = 257 := by omega
  have d157 : ¬ ca = 157 := by omega
  have d345 : ¬ ca = 345 := by omega
  have d100 : ¬ ca = 100 := by omega
  have d124 : ¬ ca = 124 := by omega
  have d136 : ¬ ca = 136 := by omega
  have ca2 : (265 : Int) ≤ (ca : Int) := by omega
  have ca3 : (500 : Int) ≤ (ca : Int) := by omega
  have ca4 : (257 : Int) ≤ (ca : Int) := by omega
  have ca5 : (148 : Int) ≤ (ca : Int) := by omega
  have ca6 : (136 : Int) ≤ (ca : Int) := by omega
  have ca7 : (108 : Int) ≤ (ca : Int) := by omega
  have ca8 : (100 : Int) ≤ (ca : Int) := by omega
  clear hl hr
  have HR : Hid (Hd.Reads l Hd.none 100) := by
    have hm' : Hd.mark l ≠ Hd.ustar := beq_eq_false_iff_ne.1 hm
    exact ⟨fun h => absurd HL.out h, fun _ _ => ⟨rfl, rfl⟩, fun _ h => absurd h hm', fun _ h => absurd h hm', fun _ h => absurd h hm'⟩
  have m1 : (X.toList == [117, 115, 116, 97, 114, 0, 48, 48]) = false := by rw [hX.out, Hd.toList_S]; exact hm
  have m2 : (X.toList == (ByteArray.mk #[117, 115, 116, 97, 114, 0, 48, 48]).toList) = false := by
    rw [show (ByteArray.mk #[117, 115, 116, 97, 114, 0, 48, 48]).toList = [117, 115, 116, 97, 114, 0, 48, 48] from ByteArray.toList_mk _]
    exact m1
  clear hm
  have cv := HCV.out
  go_enter Try.func17, Try.ntmps17
  go_upto_region 3 with fail
  rw [← hW0]
  clear hW0
  clear hz7
  go_wp2_with (refine wpList_store_row rfl 23 _ _ rfl w.heap.size Hd.none7 rfl rfl 23 N hR0 hi7 hN7.out hO7.out ?_)
  exact bodyPost_ret (results_row_tmp10 (p := 2) (u := 3) (by rfl) _ _ w.heap.size 23 Hd.none7 (0, 0) _ rfl (setRow_heap _ w.heap.size _ _ _ _ hR0) Try.underlying23 rfl hi7) rfl ⟨⟨Hd.none, 100, by rw [Hd.hv_none]; rfl, HR.out⟩, bw_of_bx (hb0) (bx_set _ w.heap.size _ rfl) (fun k e => by omega)⟩
set_option maxRecDepth 100000 in
set_option maxHeartbeats 16000000 in
theorem rget_sum (b o ca : Nat) (l : Hd.B) (hl : l.length = 512) (hca : 512 ≤ ca) (hm : (Hd.mark l == Hd.ustar) = true) (hs : (Hd.sealB l == l) = false) (w : World) (hr : RowAt w (some ⟨b, o, none⟩) 512 (Hd.rowF l)) : Calls Try.prog 17 #[.slice (some ⟨b, o, none⟩) 512 ca] w fun e w' => GetSays10 l e ∧ Bw w w' := by
  have hz7 := zero_head
  obtain ⟨N, hN⟩ : ∃ N, Hid (N = Hd.none7) := ⟨_, rfl⟩
  have hi7 := info_head Hd.none
  rw [Hd.hv_none] at hi7
  have hN7 : Hid (N.size = Hd.none7.size) := by show _ = _; rw [hN.out]
  have hO7 : Hid (Hd.none7.all (·.oneCell') = true) := Hd.hv_one Hd.none
  have hihN : (Try.prog.info? 23).map (·.size) = some N.size := by rw [hN.out]; exact hi7
  have hN1 : Hid (N.all (·.oneCell') = true) := by rw [hN.out]; exact hO7.out
  rw [← hN.out] at hz7
  have HL : Hid (l.length = 512) := hl
  obtain ⟨W0, hW0⟩ : ∃ V, V = w.alloc (.cells N 23) := ⟨_, rfl⟩
  have hR0 : W0.heap[w.heap.size]? = some (.cells N 23 (0, 0)) := by rw [hW0]; exact heap_alloc_new _ _
  have hb0 : Bw w W0 := by rw [hW0]; exact bw_alloc7 (Bw.refl _) _
  have HRW : Hid (∀ V, Bw W0 V → RowAt V (some ⟨b, o, none⟩) 512 (Hd.rowF l)) := fun V h => hr.keep (hb0.trans h)
  obtain ⟨X, hX⟩ : ∃ X, Hid (X = Hd.S (Hd.mark l)) := ⟨_, rfl⟩
  have HCV : Hid ((convert 24 9 (.slice (some ⟨b, o + 257, none⟩) 8 (ca - 257))).run Try.prog W0 = .ok (.string X) W0) := by
    obtain ⟨h1, h2⟩ := row_piece (HRW.out _ (Bw.refl _)) HL.out 257 8 (by omega)
    have := conv_row (C := ca - 257) h1
    have e := Hd.str_S (Hd.mark l)
    rw [Hd.mark_len HL.out] at e
    rw [hX.out, ← e]
    exact this
  have ca1 : (512 : Int) ≤ (ca : Int) := by omega
  have d257 : ¬ ca = 257 := by omega
  have d157 : ¬ ca = 157 := by omega
  have d345 : ¬ ca = 345 := by omega
  have d100 : ¬ ca = 100 := by omega
  have d124 : ¬ ca = 124 := by omega
  have d136 : ¬ ca = 136 := by omega
  have ca2 : (265 : Int) ≤ (ca : Int) := by omega
  have ca3 : (500 : Int) ≤ (ca : Int) := by omega
  have ca4 : (257 : Int) ≤ (ca : Int) := by omega
  have ca5 : (148 : Int) ≤ (ca : Int) := by omega
  have ca6 : (136 : Int) ≤ (ca : Int) := by omega
  have ca7 : (108 : Int) ≤ (ca : Int) := by omega
  have ca8 : (100 : Int) ≤ (ca : Int) := by omega
  clear hl hr
  have HR : Hid (Hd.Reads l Hd.none 101) := by
    have hm' : Hd.mark l = Hd.ustar := eq_of_beq hm
    have hs' : Hd.sealB l ≠ l := beq_eq_false_iff_ne.1 hs
    exact ⟨fun h => absurd HL.out h, fun _ h => absurd hm' h, fun _ _ _ => ⟨rfl, rfl⟩, fun _ _ h => absurd h hs', fun _ _ h => absurd h hs'⟩
  have m1 : (X.toList == [117, 115, 116, 97, 114, 0, 48, 48]) = true := by rw [hX.out, Hd.toList_S]; exact hm
  have m2 : (X.toList == (ByteArray.mk #[117, 115, 116, 97, 114, 0, 48, 48]).toList) = true := by
    rw [show (ByteArray.mk #[117, 115, 116, 97, 114, 0, 48, 48]).toList = [117, 115, 116, 97, 114, 0, 48, 48] from ByteArray.toList_mk _]
    exact m1
  clear hm
  have HSL : Hid ((Hd.sealB l).length = 512) := by show _ = _; rw [Hd.seal_len (by rw [HL.out]; omega), HL.out]
  obtain ⟨XL, hXL⟩ : ∃ X, Hid (X = Hd.S l) := ⟨_, rfl⟩
  obtain ⟨XS, hXS⟩ : ∃ X, Hid (X = Hd.S (Hd.sealB l)) := ⟨_, rfl⟩
  have HXL : Hid (str (Hd.rowF l) 512 = XL) := by show _ = _; rw [str_512 HL.out, hXL.out]
  have HXS : Hid (str (Hd.rowF (Hd.sealB l)) 512 = XS) := by show _ = _; rw [str_512 HSL.out, hXS.out]
  have ms : (XS.toList == XL.toList) = false := by rw [hXL.out, hXS.out, Hd.toList_S, Hd.toList_S]; exact hs
  clear hs
  have cv := HCV.out
  go_enter Try.func17, Try.ntmps17
  go_upto_region 3 with fail
  rw [← hW0]
  clear hW0
  go_upto_region 5 with fail
  clear cv m1 m2
  have hdr0 : Bw W0 W0.drew := (Below.refl _ _).drew
  refine wp_region_held_drew (S := fun w' => RowAt w' (some ⟨b, o, none⟩) 512 (Hd.rowF l)) (by kernel_rfl) (HRW.out _ hdr0) (fun hHeld => ?_)
  refine wpAnyH_take (i := 0) (v := ?_) rfl (by kernel_rfl) (by kernel_rfl) (by kernel_rfl) (fun _ _ _ h => h) (Or.inl ⟨by rfl, ?_⟩) (by assumption) ?_
  rotate_left
  · intro w hSw; (try dsimp only at hSw); go_simp; all_goals (with_reducible rfl)
  try simp only [Act.put, List.setIfInBounds_toArray, List.set_cons_zero, List.set_cons_succ, List.getElem_toArray, List.getElem_cons_succ, List.getElem_cons_zero]
  refine wpAnyH_take (i := 3) (v := ?_) rfl (by kernel_rfl) (by kernel_rfl) (by kernel_rfl) (fun _ _ _ h => h) (Or.inl ⟨by rfl, ?_⟩) (by assumption) ?_
  rotate_left
  · intro w hSw; (try dsimp only at hSw); go_simp; all_goals (with_reducible rfl)
  try simp only [Act.put, List.setIfInBounds_toArray, List.set_cons_zero, List.set_cons_succ, List.getElem_toArray, List.getElem_cons_succ, List.getElem_cons_zero]
  refine wpAnyH_take (i := 4) (v := ?_) rfl (by kernel_rfl) (by kernel_rfl) (by kernel_rfl) (fun _ _ _ h => h) (Or.inl ⟨by rfl, ?_⟩) (by assumption) ?_
  rotate_left
  · intro w hSw; (try dsimp only at hSw); have cv := conv_row (C := ca) hSw; rw [HXL.out] at cv; go_simp; all_goals (with_reducible rfl)
  try simp only [Act.put, List.setIfInBounds_toArray, List.set_cons_zero, List.set_cons_succ, List.getElem_toArray, List.getElem_cons_succ, List.getElem_cons_zero]
  refine wpAnyH_ready (rs := [1]) (by kernel_rfl) (by simp) ?_
  refine AllReadyH.cons rfl (fun K hK => ?_) AllReadyH.nil
  go_simp
  refine (rSeal_any _ ca l HL.out hca _ (HRW.out _ hdr0)).mono ?_
  rintro e w3 ⟨v3, rfl, g3, hw3⟩
  obtain ⟨q3, cap3, rfl, hcap3, hgb3, ho3⟩ := own_gb6 g3 HSL.out
  have cv3 := conv_row (C := cap3) (ho3.row (Hd.rowF_bd _))
  rw [HXS.out] at cv3
  have hb3 : Bw W0 w3 := hdr0.trans hw3
  have hR3 := (hb3.block _ (Array.getElem?_eq_some_iff.1 hR0).1).trans hR0
  refine hK.out _ _ (HRW.out _ hb3) (fun hHeld => ?_)
  clear hK K
  try simp only [Act.put, List.setIfInBounds_toArray, List.set_cons_zero, List.set_cons_succ, List.getElem_toArray, List.getElem_cons_succ, List.getElem_cons_zero]
  refine wpAnyH_ready (rs := [2]) (by kernel_rfl) (by simp) ?_
  refine AllReadyH.cons rfl (fun K hK => ?_) AllReadyH.nil
  go_simp
  refine hK.out _ _ (HRW.out _ hb3) (fun hHeld => ?_)
  clear hK K
  try simp only [Act.put, List.setIfInBounds_toArray, List.set_cons_zero, List.set_cons_succ, List.getElem_toArray, List.getElem_cons_succ, List.getElem_cons_zero]
  refine wpAnyH_take (i := 5) (v := ?_) rfl (by kernel_rfl) (by kernel_rfl) (by kernel_rfl) (fun _ _ _ h => h) (Or.inl ⟨by rfl, ?_⟩) (by assumption) ?_
  rotate_left
  · intro w hSw; (try dsimp only at hSw); go_simp; all_goals (with_reducible rfl)
  try simp only [Act.put, List.setIfInBounds_toArray, List.set_cons_zero, List.set_cons_succ, List.getElem_toArray, List.getElem_cons_succ, List.getElem_cons_zero]
  refine wpAnyH_done (by kernel_rfl) ?_ _
  clear cv3 ho3 g3 hgb3 hdr0 hw3
  clear hz7
  go_wp2_with (refine wpList_store_row rfl 23 _ _ rfl w.heap.size Hd.none7 rfl rfl 23 N hR3 hi7 hN7.out hO7.out ?_)
  exact bodyPost_ret (results_row_tmp10 (p := 2) (u := 3) (by rfl) _ _ w.heap.size 23 Hd.none7 (0, 0) _ rfl (setRow_heap _ w.heap.size _ _ _ _ hR3) Try.underlying23 rfl hi7) rfl ⟨⟨Hd.none, 101, by rw [Hd.hv_none]; rfl, HR.out⟩, bw_of_bx (hb0.trans hb3) (bx_set _ w.heap.size _ rfl) (fun k e => by omega)⟩
end Go.Proofs.Ytkoacehgfmflmaa
