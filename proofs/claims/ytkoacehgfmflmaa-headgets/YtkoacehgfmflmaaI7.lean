/- The document's own Get, further (written by mkrgetb10.py). -/
import Derived.Test.YtkoacehgfmflmaaI6
namespace Go.Proofs.Ytkoacehgfmflmaa
open Go.RowKit Go.Deep
set_option linter.unusedVariables false
set_option linter.unusedSimpArgs false
attribute [local go_sem] List.getElem?_cons_zero Option.getD_some

theorem built_some (a b c : ByteArray) (u : Int) : Try.prog.built 23 [(0, .string a), (5, .int .u8 u), (6, .string b), (1, .string c)] = some #[.string a, .string c, .int .i64 0, .int .i64 0, .int .i64 0, .int .u8 u, .string b] := by kernel_rfl
set_option maxRecDepth 100000 in
set_option maxHeartbeats 16000000 in
theorem rget_rest (b o ca : Nat) (l : Hd.B) (hl : l.length = 512) (hca : 512 ≤ ca) (hm : (Hd.mark l == Hd.ustar) = true) (hs : (Hd.sealB l == l) = true) (w : World) (hr : RowAt w (some ⟨b, o, none⟩) 512 (Hd.rowF l)) : Calls Try.prog 17 #[.slice (some ⟨b, o, none⟩) 512 ca] w fun e w' => GetSays10 l e ∧ Bw w w' := by
  have hz7 := zero_head
  obtain ⟨N, hN⟩ : ∃ N, Hid (N = Hd.none7) := ⟨_, rfl⟩
  have hi7 := info_head Hd.none
  rw [Hd.hv_none] at hi7
  have hN7 : Hid (N.size = Hd.none7.size) := by show _ = _; rw [hN.out]
  have hO7 : Hid (Hd.none7.all (·.oneCell') = true) := Hd.hv_one Hd.none
  have hihN : (Try.prog.info? 23).map (·.size) = some N.size := by rw [hN.out]; exact hi7
  have hN1 : Hid (N.all (·.oneCell') = true) := by rw [hN.out]; exact hO7.out
  rw [← hN.out] at hz7
  have HL : Hid (l.length = 512) := hl
  obtain ⟨W0, hW0⟩ : ∃ V, V = w.alloc (.cells N 23) := ⟨_, rfl⟩
  have hR0 : W0.heap[w.heap.size]? = some (.cells N 23 (0, 0)) := by rw [hW0]; exact heap_alloc_new _ _
  have hb0 : Bw w W0 := by rw [hW0]; exact bw_alloc7 (Bw.refl _) _
  have HRW : Hid (∀ V, Bw W0 V → RowAt V (some ⟨b, o, none⟩) 512 (Hd.rowF l)) := fun V h => hr.keep (hb0.trans h)
  obtain ⟨X, hX⟩ : ∃ X, Hid (X = Hd.S (Hd.mark l)) := ⟨_, rfl⟩
  have HCV : Hid ((convert 24 9 (.slice (some ⟨b, o + 257, none⟩) 8 (ca - 257))).run Try.prog W0 = .ok (.string X) W0) := by
    obtain ⟨h1, h2⟩ := row_piece (HRW.out _ (Bw.refl _)) HL.out 257 8 (by omega)
    have := conv_row (C := ca - 257) h1
    have e := Hd.str_S (Hd.mark l)
    rw [Hd.mark_len HL.out] at e
    rw [hX.out, ← e]
    exact this
  have ca1 : (512 : Int) ≤ (ca : Int) := by omega
  have d257 : ¬ ca = 257 := by omega
  have d157 : ¬ ca = 157 := by omega
  have d345 : ¬ ca = 345 := by omega
  have d100 : ¬ ca = 100 := by omega
  have d124 : ¬ ca = 124 := by omega
  have d136 : ¬ ca = 136 := by omega
  have ca2 : (265 : Int) ≤ (ca : Int) := by omega
  have ca3 : (500 : Int) ≤ (ca : Int) := by omega
  have ca4 : (257 : Int) ≤ (ca : Int) := by omega
  have ca5 : (148 : Int) ≤ (ca : Int) := by omega
  have ca6 : (136 : Int) ≤ (ca : Int) := by omega
  have ca7 : (108 : Int) ≤ (ca : Int) := by omega
  have ca8 : (100 : Int) ≤ (ca : Int) := by omega
  have HRBx : Hid (RowAt w (some ⟨b, o, none⟩) 512 (Hd.rowF l)) := hr
  clear hl hr
  have HM : Hid (Hd.mark l = Hd.ustar) := eq_of_beq hm
  have HSS : Hid (Hd.sealB l = l) := eq_of_beq hs
  have m1 : (X.toList == [117, 115, 116, 97, 114, 0, 48, 48]) = true := by rw [hX.out, Hd.toList_S]; exact hm
  have m2 : (X.toList == (ByteArray.mk #[117, 115, 116, 97, 114, 0, 48, 48]).toList) = true := by
    rw [show (ByteArray.mk #[117, 115, 116, 97, 114, 0, 48, 48]).toList = [117, 115, 116, 97, 114, 0, 48, 48] from ByteArray.toList_mk _]
    exact m1
  clear hm
  have HSL : Hid ((Hd.sealB l).length = 512) := by show _ = _; rw [Hd.seal_len (by rw [HL.out]; omega), HL.out]
  obtain ⟨XL, hXL⟩ : ∃ X, Hid (X = Hd.S l) := ⟨_, rfl⟩
  obtain ⟨XS, hXS⟩ : ∃ X, Hid (X = Hd.S (Hd.sealB l)) := ⟨_, rfl⟩
  have HXL : Hid (str (Hd.rowF l) 512 = XL) := by show _ = _; rw [str_512 HL.out, hXL.out]
  have HXS : Hid (str (Hd.rowF (Hd.sealB l)) 512 = XS) := by show _ = _; rw [str_512 HSL.out, hXS.out]
  have ms : (XS.toList == XL.toList) = true := by rw [hXL.out, hXS.out, Hd.toList_S, Hd.toList_S]; exact hs
  clear hs
  obtain ⟨c, hc⟩ : ∃ c : UInt8, Hid (l[156]? = some c) := ⟨l[156]'(by rw [HL.out]; omega), by show _ = _; exact List.getElem?_eq_getElem _⟩
  have HCELL : Hid (∀ V, RowAt V (some ⟨b, o, none⟩) 512 (Hd.rowF l) → V.cell? ⟨b, o + 156, none⟩ = some (.int .u8 ((c.toNat : Nat) : Int))) := fun V h => by
    obtain ⟨b', o', e, hcc⟩ := h.at (k := 156) (by omega)
    cases e
    rw [hcc 156 (by omega), Hd.rowF_at hc.out]
  obtain ⟨k0, hk0⟩ : ∃ k : Hd.Hdr, Hid (k = ⟨Hd.first ((l.drop 0).take 100), 0, 0, 0, c, Hd.first ((l.drop 157).take 100), Hd.first ((l.drop 345).take 155)⟩) := ⟨_, rfl⟩
  obtain ⟨z1, e1, hx1, HE1'⟩ := rexact_ex ((l.drop 100).take 8) 8 (row_piece (HRW.out _ (Bw.refl _)) HL.out 100 8 (by omega)).2 (by omega) (by omega)
  obtain ⟨z2, e2, hx2, HE2'⟩ := rexact_ex ((l.drop 124).take 12) 12 (row_piece (HRW.out _ (Bw.refl _)) HL.out 124 12 (by omega)).2 (by omega) (by omega)
  obtain ⟨z3, e3, hx3, HE3'⟩ := rexact_ex ((l.drop 136).take 12) 12 (row_piece (HRW.out _ (Bw.refl _)) HL.out 136 12 (by omega)).2 (by omega) (by omega)
  have HE1 : Hid (∀ V, Bw W0 V → Calls Try.prog 35 #[.slice (some ⟨b, o + 100, none⟩) 8 (ca - 100)] V fun e w' => e = .returned (.tuple #[.int .i64 z1, .int .i64 e1]) ∧ Bw V w') := fun V h => HE1' _ _ V (by omega) (row_piece (HRW.out _ h) HL.out 100 8 (by omega)).1
  have HE2 : Hid (∀ V, Bw W0 V → Calls Try.prog 35 #[.slice (some ⟨b, o + 124, none⟩) 12 (ca - 124)] V fun e w' => e = .returned (.tuple #[.int .i64 z2, .int .i64 e2]) ∧ Bw V w') := fun V h => HE2' _ _ V (by omega) (row_piece (HRW.out _ h) HL.out 124 12 (by omega)).1
  have HE3 : Hid (∀ V, Bw W0 V → Calls Try.prog 35 #[.slice (some ⟨b, o + 136, none⟩) 12 (ca - 136)] V fun e w' => e = .returned (.tuple #[.int .i64 z3, .int .i64 e3]) ∧ Bw V w') := fun V h => HE3' _ _ V (by omega) (row_piece (HRW.out _ h) HL.out 136 12 (by omega)).1
  have HX1 : Hid (Hd.Exa ((l.drop 100).take 8) z1 e1) := hx1
  have HX2 : Hid (Hd.Exa ((l.drop 124).take 12) z2 e2) := hx2
  have HX3 : Hid (Hd.Exa ((l.drop 136).take 12) z3 e3) := hx3
  clear HE1' HE2' HE3' hx1 hx2 hx3
  have HRB : Hid (RowAt w (some ⟨b, o, none⟩) 512 (Hd.rowF l)) := HRBx.out
  have cv := HCV.out
  go_enter Try.func17, Try.ntmps17
  go_upto_region 3 with fail
  rw [← hW0]
  clear hW0
  go_upto_region 5 with fail
  clear cv m1 m2
  have hdr0 : Bw W0 W0.drew := (Below.refl _ _).drew
  refine wp_region_held_drew (S := fun w' => RowAt w' (some ⟨b, o, none⟩) 512 (Hd.rowF l)) (by kernel_rfl) (HRW.out _ hdr0) (fun hHeld => ?_)
  refine wpAnyH_take (i := 0) (v := ?_) rfl (by kernel_rfl) (by kernel_rfl) (by kernel_rfl) (fun _ _ _ h => h) (Or.inl ⟨by rfl, ?_⟩) (by assumption) ?_
  rotate_left
  · intro w hSw; (try dsimp only at hSw); go_simp; all_goals (with_reducible rfl)
  try simp only [Act.put, List.setIfInBounds_toArray, List.set_cons_zero, List.set_cons_succ, List.getElem_toArray, List.getElem_cons_succ, List.getElem_cons_zero]
  refine wpAnyH_take (i := 3) (v := ?_) rfl (by kernel_rfl) (by kernel_rfl) (by kernel_rfl) (fun _ _ _ h => h) (Or.inl ⟨by rfl, ?_⟩) (by assumption) ?_
  rotate_left
  · intro w hSw; (try dsimp only at hSw); go_simp; all_goals (with_reducible rfl)
  try simp only [Act.put, List.setIfInBounds_toArray, List.set_cons_zero, List.set_cons_succ, List.getElem_toArray, List.getElem_cons_succ, List.getElem_cons_zero]
  refine wpAnyH_take (i := 4) (v := ?_) rfl (by kernel_rfl) (by kernel_rfl) (by kernel_rfl) (fun _ _ _ h => h) (Or.inl ⟨by rfl, ?_⟩) (by assumption) ?_
  rotate_left
  · intro w hSw; (try dsimp only at hSw); have cv := conv_row (C := ca) hSw; rw [HXL.out] at cv; go_simp; all_goals (with_reducible rfl)
  try simp only [Act.put, List.setIfInBounds_toArray, List.set_cons_zero, List.set_cons_succ, List.getElem_toArray, List.getElem_cons_succ, List.getElem_cons_zero]
  refine wpAnyH_ready (rs := [1]) (by kernel_rfl) (by simp) ?_
  refine AllReadyH.cons rfl (fun K hK => ?_) AllReadyH.nil
  go_simp
  refine (rSeal_any _ ca l HL.out hca _ (HRW.out _ hdr0)).mono ?_
  rintro e w3 ⟨v3, rfl, g3, hw3⟩
  obtain ⟨q3, cap3, rfl, hcap3, hgb3, ho3⟩ := own_gb6 g3 HSL.out
  have cv3 := conv_row (C := cap3) (ho3.row (Hd.rowF_bd _))
  rw [HXS.out] at cv3
  have hb3 : Bw W0 w3 := hdr0.trans hw3
  have hR3 := (hb3.block _ (Array.getElem?_eq_some_iff.1 hR0).1).trans hR0
  refine hK.out _ _ (HRW.out _ hb3) (fun hHeld => ?_)
  clear hK K
  try simp only [Act.put, List.setIfInBounds_toArray, List.set_cons_zero, List.set_cons_succ, List.getElem_toArray, List.getElem_cons_succ, List.getElem_cons_zero]
  refine wpAnyH_ready (rs := [2]) (by kernel_rfl) (by simp) ?_
  refine AllReadyH.cons rfl (fun K hK => ?_) AllReadyH.nil
  go_simp
  refine hK.out _ _ (HRW.out _ hb3) (fun hHeld => ?_)
  clear hK K
  try simp only [Act.put, List.setIfInBounds_toArray, List.set_cons_zero, List.set_cons_succ, List.getElem_toArray, List.getElem_cons_succ, List.getElem_cons_zero]
  refine wpAnyH_take (i := 5) (v := ?_) rfl (by kernel_rfl) (by kernel_rfl) (by kernel_rfl) (fun _ _ _ h => h) (Or.inl ⟨by rfl, ?_⟩) (by assumption) ?_
  rotate_left
  · intro w hSw; (try dsimp only at hSw); go_simp; all_goals (with_reducible rfl)
  try simp only [Act.put, List.setIfInBounds_toArray, List.set_cons_zero, List.set_cons_succ, List.getElem_toArray, List.getElem_cons_succ, List.getElem_cons_zero]
  refine wpAnyH_done (by kernel_rfl) ?_ _
  clear cv3 ho3 g3 hgb3 hdr0 hw3
  go_upto_region 7 with fail
  go_cut [4] from 28 to 40 (fun v wc => v = .pointer (some ⟨w3.heap.size, 0, none⟩) ∧ HeadAt wc w3.heap.size k0 ∧ Bw w3 wc)
  case first =>
    have hdr3 : Bw w3 w3.drew := (Below.refl _ _).drew
    have HR3 : Hid (∀ V, Bw w3 V → RowAt V (some ⟨b, o, none⟩) 512 (Hd.rowF l)) := fun V h => HRW.out _ (hb3.trans h)
    have HF1 : Hid (∀ V, Bw w3 V → Calls Try.prog 34 #[.slice (some ⟨b, o, none⟩) 100 ca] V fun e w' => e = .returned (.string (Hd.S k0.name)) ∧ w' = V) := fun V h => by
      rw [hk0.out]
      obtain ⟨h1, h2⟩ := row_piece (HR3.out V h) HL.out 0 100 (by omega)
      exact rfirst_any b o 100 ca _ h2 (by omega) (by omega) V h1
    have HF2 : Hid (∀ V, Bw w3 V → Calls Try.prog 34 #[.slice (some ⟨b, o + 157, none⟩) 100 (ca - 157)] V fun e w' => e = .returned (.string (Hd.S k0.link)) ∧ w' = V) := fun V h => by
      rw [hk0.out]
      obtain ⟨h1, h2⟩ := row_piece (HR3.out V h) HL.out 157 100 (by omega)
      exact rfirst_any b (o + 157) 100 (ca - 157) _ h2 (by omega) (by omega) V h1
    have HF3 : Hid (∀ V, Bw w3 V → Calls Try.prog 34 #[.slice (some ⟨b, o + 345, none⟩) 155 (ca - 345)] V fun e w' => e = .returned (.string (Hd.S k0.pre)) ∧ w' = V) := fun V h => by
      rw [hk0.out]
      obtain ⟨h1, h2⟩ := row_piece (HR3.out V h) HL.out 345 155 (by omega)
      exact rfirst_any b (o + 345) 155 (ca - 345) _ h2 (by omega) (by omega) V h1
    have HK : Hid (Hd.hv k0 = #[.string (Hd.S k0.name), .string (Hd.S k0.pre), .int .i64 0, .int .i64 0, .int .i64 0, .int .u8 ((c.toNat : Nat) : Int), .string (Hd.S k0.link)]) := by rw [hk0.out]; rfl
    have hNk : Hid (N.size = (Hd.hv k0).size) := by show _ = _; rw [hN.out]; rfl
    obtain ⟨s1, hs1⟩ : ∃ s, Hid (s = Hd.S k0.name) := ⟨_, rfl⟩
    obtain ⟨s2, hs2⟩ : ∃ s, Hid (s = Hd.S k0.link) := ⟨_, rfl⟩
    obtain ⟨s3, hs3⟩ : ∃ s, Hid (s = Hd.S k0.pre) := ⟨_, rfl⟩
    rw [← hs1.out] at HF1
    rw [← hs2.out] at HF2
    rw [← hs3.out] at HF3
    rw [← hs1.out, ← hs2.out, ← hs3.out] at HK
    have hbA : Bw w3 (w3.drew.alloc (.cells N 23)) := bw_alloc7 hdr3 _
    have hnA : (w3.drew.alloc (.cells N 23)).heap[w3.heap.size]? = some (.cells N 23 (0, 0)) := heap_alloc_new w3.drew _
    have ik0 := info_head k0
    have hone := Hd.hv_one k0
    have HONE : Hid ((Hd.hv k0).all (·.oneCell') = true) := hone
    clear hone
    refine wp_region_held_drew (S := fun w' => RowAt w' (some ⟨b, o, none⟩) 512 (Hd.rowF l)) (by kernel_rfl) (HR3.out _ hdr3) (fun hHeld => ?_)
    refine wpAnyH_take (i := 0) (v := ?_) rfl (by kernel_rfl) (by kernel_rfl) (by kernel_rfl) (fun _ _ _ h => h) (Or.inl ⟨by rfl, ?_⟩) (by assumption) ?_
    rotate_left
    · intro w hSw; (try dsimp only at hSw); go_simp; all_goals (with_reducible rfl)
    try simp only [Act.put, List.setIfInBounds_toArray, List.set_cons_zero, List.set_cons_succ, List.getElem_toArray, List.getElem_cons_succ, List.getElem_cons_zero]
    refine wpAnyH_take (i := 1) (v := ?_) rfl (by kernel_rfl) (by kernel_rfl) (by kernel_rfl) (fun _ _ _ h => h) (Or.inl ⟨by rfl, ?_⟩) (by assumption) ?_
    rotate_left
    · intro w hSw; (try dsimp only at hSw); go_simp; all_goals (with_reducible rfl)
    try simp only [Act.put, List.setIfInBounds_toArray, List.set_cons_zero, List.set_cons_succ, List.getElem_toArray, List.getElem_cons_succ, List.getElem_cons_zero]
    refine wpAnyH_take (i := 3) (v := ?_) rfl (by kernel_rfl) (by kernel_rfl) (by kernel_rfl) (fun _ _ _ h => h) (Or.inl ⟨by rfl, ?_⟩) (by assumption) ?_
    rotate_left
    · intro w hSw; (try dsimp only at hSw); go_simp; all_goals (with_reducible rfl)
    try simp only [Act.put, List.setIfInBounds_toArray, List.set_cons_zero, List.set_cons_succ, List.getElem_toArray, List.getElem_cons_succ, List.getElem_cons_zero]
    refine wpAnyH_take (i := 4) (v := ?_) rfl (by kernel_rfl) (by kernel_rfl) (by kernel_rfl) (fun _ _ _ h => h) (Or.inl ⟨by rfl, ?_⟩) (by assumption) ?_
    rotate_left
    · intro w hSw; (try dsimp only at hSw); go_simp; all_goals (with_reducible rfl)
    try simp only [Act.put, List.setIfInBounds_toArray, List.set_cons_zero, List.set_cons_succ, List.getElem_toArray, List.getElem_cons_succ, List.getElem_cons_zero]
    refine wpAnyH_take (i := 5) (v := ?_) rfl (by kernel_rfl) (by kernel_rfl) (by kernel_rfl) (fun _ _ _ h => h) (Or.inl ⟨by rfl, ?_⟩) (by assumption) ?_
    rotate_left
    · intro w hSw; (try dsimp only at hSw); have cc := HCELL.out _ hSw; go_simp; all_goals (with_reducible rfl)
    try simp only [Act.put, List.setIfInBounds_toArray, List.set_cons_zero, List.set_cons_succ, List.getElem_toArray, List.getElem_cons_succ, List.getElem_cons_zero]
    refine wpAnyH_take (i := 6) (v := ?_) rfl (by kernel_rfl) (by kernel_rfl) (by kernel_rfl) (fun _ _ _ h => h) (Or.inl ⟨by rfl, ?_⟩) (by assumption) ?_
    rotate_left
    · intro w hSw; (try dsimp only at hSw); go_simp; all_goals (with_reducible rfl)
    try simp only [Act.put, List.setIfInBounds_toArray, List.set_cons_zero, List.set_cons_succ, List.getElem_toArray, List.getElem_cons_succ, List.getElem_cons_zero]
    refine wpAnyH_take (i := 7) (v := ?_) rfl (by kernel_rfl) (by kernel_rfl) (by kernel_rfl) (fun _ _ _ h => h) (Or.inl ⟨by rfl, ?_⟩) (by assumption) ?_
    rotate_left
    · intro w hSw; (try dsimp only at hSw); go_simp; all_goals (with_reducible rfl)
    try simp only [Act.put, List.setIfInBounds_toArray, List.set_cons_zero, List.set_cons_succ, List.getElem_toArray, List.getElem_cons_succ, List.getElem_cons_zero]
    refine wpAnyH_take (i := 9) (v := ?_) rfl (by kernel_rfl) (by kernel_rfl) (by kernel_rfl) (fun _ _ _ h => h) (Or.inl ⟨by rfl, ?_⟩) (by assumption) ?_
    rotate_left
    · intro w hSw; (try dsimp only at hSw); go_simp; all_goals (with_reducible rfl)
    try simp only [Act.put, List.setIfInBounds_toArray, List.set_cons_zero, List.set_cons_succ, List.getElem_toArray, List.getElem_cons_succ, List.getElem_cons_zero]
    refine wpAnyH_take (i := 10) (v := ?_) rfl (by kernel_rfl) (by kernel_rfl) (by kernel_rfl) (fun _ _ _ h => h) (Or.inl ⟨by rfl, ?_⟩) (by assumption) ?_
    rotate_left
    · intro w hSw; (try dsimp only at hSw); go_simp; all_goals (with_reducible rfl)
    try simp only [Act.put, List.setIfInBounds_toArray, List.set_cons_zero, List.set_cons_succ, List.getElem_toArray, List.getElem_cons_succ, List.getElem_cons_zero]
    refine wpAnyH_ready (rs := [2, 13]) (by kernel_rfl) (by simp) ?_
    refine AllReadyH.cons rfl (fun K hK => ?_) (AllReadyH.cons rfl (fun K hK => ?_) AllReadyH.nil)
    · go_simp
      refine (HF1.out _ hdr3).mono ?_
      rintro e w' ⟨rfl, hw'⟩
      subst w'
      refine hK.out _ _ (HR3.out _ hdr3) (fun hHeld => ?_)
      clear hK K
      try simp only [Act.put, List.setIfInBounds_toArray, List.set_cons_zero, List.set_cons_succ, List.getElem_toArray, List.getElem_cons_succ, List.getElem_cons_zero]
      refine wpAnyH_ready (rs := [8, 13]) (by kernel_rfl) (by simp) ?_
      refine AllReadyH.cons rfl (fun K hK => ?_) (AllReadyH.cons rfl (fun K hK => ?_) AllReadyH.nil)
      · go_simp
        refine (HF2.out _ hdr3).mono ?_
        rintro e w' ⟨rfl, hw'⟩
        subst w'
        refine hK.out _ _ (HR3.out _ hdr3) (fun hHeld => ?_)
        clear hK K
        try simp only [Act.put, List.setIfInBounds_toArray, List.set_cons_zero, List.set_cons_succ, List.getElem_toArray, List.getElem_cons_succ, List.getElem_cons_zero]
        refine wpAnyH_ready (rs := [11, 13]) (by kernel_rfl) (by simp) ?_
        refine AllReadyH.cons rfl (fun K hK => ?_) (AllReadyH.cons rfl (fun K hK => ?_) AllReadyH.nil)
        · go_simp
          refine (HF3.out _ hdr3).mono ?_
          rintro e w' ⟨rfl, hw'⟩
          subst w'
          refine hK.out _ _ (HR3.out _ hdr3) (fun hHeld => ?_)
          clear hK K
          try simp only [Act.put, List.setIfInBounds_toArray, List.set_cons_zero, List.set_cons_succ, List.getElem_toArray, List.getElem_cons_succ, List.getElem_cons_zero]
          refine wpAnyH_take (i := 12) (v := .agg (Hd.hv k0)) rfl (by kernel_rfl) (by kernel_rfl) (by kernel_rfl) (fun _ _ _ h => h) (Or.inl ⟨by rfl, ?_⟩) (by assumption) ?_
          · intro w hSw; clear hz7; rw [HK.out]; go_simp; all_goals (with_reducible rfl)
          try simp only [Act.put, List.setIfInBounds_toArray, List.set_cons_zero, List.set_cons_succ, List.getElem_toArray, List.getElem_cons_succ, List.getElem_cons_zero]
          refine wpAnyH_ready (rs := [13]) (by kernel_rfl) (by simp) ?_
          refine AllReadyH.cons rfl (fun K hK => ?_) AllReadyH.nil
          go_simp
          refine hK.out _ _ (HR3.out _ hbA) (fun hHeld => ?_)
          clear hK K
          try simp only [Act.put, List.setIfInBounds_toArray, List.set_cons_zero, List.set_cons_succ, List.getElem_toArray, List.getElem_cons_succ, List.getElem_cons_zero]
          refine wpAnyH_ready (rs := [14]) (by kernel_rfl) (by simp) ?_
          refine AllReadyH.cons rfl (fun K hK => ?_) AllReadyH.nil
          refine step_store_row (by rfl) 23 _ _ (by rfl) w3.heap.size (Hd.hv k0) (by rfl) (by rfl) 23 N hnA ik0 hNk.out HONE.out ?_
          refine hK.out _ _ (HR3.out _ (bw_of_bx hbA (bx_set _ w3.heap.size _ rfl) (fun k e => by omega))) (fun hHeld => ?_)
          clear hK K
          try simp only [Act.put, List.setIfInBounds_toArray, List.set_cons_zero, List.set_cons_succ, List.getElem_toArray, List.getElem_cons_succ, List.getElem_cons_zero]
          refine wpAnyH_done (by kernel_rfl) ?_ _
          go_wp2_with fail
          go_meet
          case rel => exact ⟨rfl, setRow_heap _ w3.heap.size _ _ _ _ hnA, bw_of_bx hbA (bx_set _ w3.heap.size _ rfl) (fun k e => by omega)⟩
        · go_simp
          refine hK.out _ _ (HR3.out _ hbA) (fun hHeld => ?_)
          clear hK K
          try simp only [Act.put, List.setIfInBounds_toArray, List.set_cons_zero, List.set_cons_succ, List.getElem_toArray, List.getElem_cons_succ, List.getElem_cons_zero]
          refine wpAnyH_ready (rs := [11]) (by kernel_rfl) (by simp) ?_
          refine AllReadyH.cons rfl (fun K hK => ?_) AllReadyH.nil
          go_simp
          refine (HF3.out _ hbA).mono ?_
          rintro e w' ⟨rfl, hw'⟩
          subst w'
          refine hK.out _ _ (HR3.out _ hbA) (fun hHeld => ?_)
          clear hK K
          try simp only [Act.put, List.setIfInBounds_toArray, List.set_cons_zero, List.set_cons_succ, List.getElem_toArray, List.getElem_cons_succ, List.getElem_cons_zero]
          refine wpAnyH_take (i := 12) (v := .agg (Hd.hv k0)) rfl (by kernel_rfl) (by kernel_rfl) (by kernel_rfl) (fun _ _ _ h => h) (Or.inl ⟨by rfl, ?_⟩) (by assumption) ?_
          · intro w hSw; clear hz7; rw [HK.out]; go_simp; all_goals (with_reducible rfl)
          try simp only [Act.put, List.setIfInBounds_toArray, List.set_cons_zero, List.set_cons_succ, List.getElem_toArray, List.getElem_cons_succ, List.getElem_cons_zero]
          refine wpAnyH_ready (rs := [14]) (by kernel_rfl) (by simp) ?_
          refine AllReadyH.cons rfl (fun K hK => ?_) AllReadyH.nil
          refine step_store_row (by rfl) 23 _ _ (by rfl) w3.heap.size (Hd.hv k0) (by rfl) (by rfl) 23 N hnA ik0 hNk.out HONE.out ?_
          refine hK.out _ _ (HR3.out _ (bw_of_bx hbA (bx_set _ w3.heap.size _ rfl) (fun k e => by omega))) (fun hHeld => ?_)
          clear hK K
          try simp only [Act.put, List.setIfInBounds_toArray, List.set_cons_zero, List.set_cons_succ, List.getElem_toArray, List.getElem_cons_succ, List.getElem_cons_zero]
          refine wpAnyH_done (by kernel_rfl) ?_ _
          go_wp2_with fail
          go_meet
          case rel => exact ⟨rfl, setRow_heap _ w3.heap.size _ _ _ _ hnA, bw_of_bx hbA (bx_set _ w3.heap.size _ rfl) (fun k e => by omega)⟩
      · go_simp
        refine hK.out _ _ (HR3.out _ hbA) (fun hHeld => ?_)
        clear hK K
        try simp only [Act.put, List.setIfInBounds_toArray, List.set_cons_zero, List.set_cons_succ, List.getElem_toArray, List.getElem_cons_succ, List.getElem_cons_zero]
        refine wpAnyH_ready (rs := [8]) (by kernel_rfl) (by simp) ?_
        refine AllReadyH.cons rfl (fun K hK => ?_) AllReadyH.nil
        go_simp
        refine (HF2.out _ hbA).mono ?_
        rintro e w' ⟨rfl, hw'⟩
        subst w'
        refine hK.out _ _ (HR3.out _ hbA) (fun hHeld => ?_)
        clear hK K
        try simp only [Act.put, List.setIfInBounds_toArray, List.set_cons_zero, List.set_cons_succ, List.getElem_toArray, List.getElem_cons_succ, List.getElem_cons_zero]
        refine wpAnyH_ready (rs := [11]) (by kernel_rfl) (by simp) ?_
        refine AllReadyH.cons rfl (fun K hK => ?_) AllReadyH.nil
        go_simp
        refine (HF3.out _ hbA).mono ?_
        rintro e w' ⟨rfl, hw'⟩
        subst w'
        refine hK.out _ _ (HR3.out _ hbA) (fun hHeld => ?_)
        clear hK K
        try simp only [Act.put, List.setIfInBounds_toArray, List.set_cons_zero, List.set_cons_succ, List.getElem_toArray, List.getElem_cons_succ, List.getElem_cons_zero]
        refine wpAnyH_take (i := 12) (v := .agg (Hd.hv k0)) rfl (by kernel_rfl) (by kernel_rfl) (by kernel_rfl) (fun _ _ _ h => h) (Or.inl ⟨by rfl, ?_⟩) (by assumption) ?_
        · intro w hSw; clear hz7; rw [HK.out]; go_simp; all_goals (with_reducible rfl)
        try simp only [Act.put, List.setIfInBounds_toArray, List.set_cons_zero, List.set_cons_succ, List.getElem_toArray, List.getElem_cons_succ, List.getElem_cons_zero]
        refine wpAnyH_ready (rs := [14]) (by kernel_rfl) (by simp) ?_
        refine AllReadyH.cons rfl (fun K hK => ?_) AllReadyH.nil
        refine step_store_row (by rfl) 23 _ _ (by rfl) w3.heap.size (Hd.hv k0) (by rfl) (by rfl) 23 N hnA ik0 hNk.out HONE.out ?_
        refine hK.out _ _ (HR3.out _ (bw_of_bx hbA (bx_set _ w3.heap.size _ rfl) (fun k e => by omega))) (fun hHeld => ?_)
        clear hK K
        try simp only [Act.put, List.setIfInBounds_toArray, List.set_cons_zero, List.set_cons_succ, List.getElem_toArray, List.getElem_cons_succ, List.getElem_cons_zero]
        refine wpAnyH_done (by kernel_rfl) ?_ _
        go_wp2_with fail
        go_meet
        case rel => exact ⟨rfl, setRow_heap _ w3.heap.size _ _ _ _ hnA, bw_of_bx hbA (bx_set _ w3.heap.size _ rfl) (fun k e => by omega)⟩
    · go_simp
      refine hK.out _ _ (HR3.out _ hbA) (fun hHeld => ?_)
      clear hK K
      try simp only [Act.put, List.setIfInBounds_toArray, List.set_cons_zero, List.set_cons_succ, List.getElem_toArray, List.getElem_cons_succ, List.getElem_cons_zero]
      refine wpAnyH_ready (rs := [2]) (by kernel_rfl) (by simp) ?_
      refine AllReadyH.cons rfl (fun K hK => ?_) AllReadyH.nil
      go_simp
      refine (HF1.out _ hbA).mono ?_
      rintro e w' ⟨rfl, hw'⟩
      subst w'
      refine hK.out _ _ (HR3.out _ hbA) (fun hHeld => ?_)
      clear hK K
      try simp only [Act.put, List.setIfInBounds_toArray, List.set_cons_zero, List.set_cons_succ, List.getElem_toArray, List.getElem_cons_succ, List.getElem_cons_zero]
      refine wpAnyH_ready (rs := [8]) (by kernel_rfl) (by simp) ?_
      refine AllReadyH.cons rfl (fun K hK => ?_) AllReadyH.nil
      go_simp
      refine (HF2.out _ hbA).mono ?_
      rintro e w' ⟨rfl, hw'⟩
      subst w'
      refine hK.out _ _ (HR3.out _ hbA) (fun hHeld => ?_)
      clear hK K
      try simp only [Act.put, List.setIfInBounds_toArray, List.set_cons_zero, List.set_cons_succ, List.getElem_toArray, List.getElem_cons_succ, List.getElem_cons_zero]
      refine wpAnyH_ready (rs := [11]) (by kernel_rfl) (by simp) ?_
      refine AllReadyH.cons rfl (fun K hK => ?_) AllReadyH.nil
      go_simp
      refine (HF3.out _ hbA).mono ?_
      rintro e w' ⟨rfl, hw'⟩
      subst w'
      refine hK.out _ _ (HR3.out _ hbA) (fun hHeld => ?_)
      clear hK K
      try simp only [Act.put, List.setIfInBounds_toArray, List.set_cons_zero, List.set_cons_succ, List.getElem_toArray, List.getElem_cons_succ, List.getElem_cons_zero]
      refine wpAnyH_take (i := 12) (v := .agg (Hd.hv k0)) rfl (by kernel_rfl) (by kernel_rfl) (by kernel_rfl) (fun _ _ _ h => h) (Or.inl ⟨by rfl, ?_⟩) (by assumption) ?_
      · intro w hSw; clear hz7; rw [HK.out]; go_simp; all_goals (with_reducible rfl)
      try simp only [Act.put, List.setIfInBounds_toArray, List.set_cons_zero, List.set_cons_succ, List.getElem_toArray, List.getElem_cons_succ, List.getElem_cons_zero]
      refine wpAnyH_ready (rs := [14]) (by kernel_rfl) (by simp) ?_
      refine AllReadyH.cons rfl (fun K hK => ?_) AllReadyH.nil
      refine step_store_row (by rfl) 23 _ _ (by rfl) w3.heap.size (Hd.hv k0) (by rfl) (by rfl) 23 N hnA ik0 hNk.out HONE.out ?_
      refine hK.out _ _ (HR3.out _ (bw_of_bx hbA (bx_set _ w3.heap.size _ rfl) (fun k e => by omega))) (fun hHeld => ?_)
      clear hK K
      try simp only [Act.put, List.setIfInBounds_toArray, List.set_cons_zero, List.set_cons_succ, List.getElem_toArray, List.getElem_cons_succ, List.getElem_cons_zero]
      refine wpAnyH_done (by kernel_rfl) ?_ _
      go_wp2_with fail
      go_meet
      case rel => exact ⟨rfl, setRow_heap _ w3.heap.size _ _ _ _ hnA, bw_of_bx hbA (bx_set _ w3.heap.size _ rfl) (fun k e => by omega)⟩
  case rest =>
    obtain ⟨rfl, hH4, hb4⟩ := hcut
    have hR4 := (hb4.block _ (Array.getElem?_eq_some_iff.1 hR3).1).trans hR3
    have HB4 : Hid (Bw W0 wc) := hb3.trans hb4
    have tok1 : Hid (w = w) := rfl
    have tok2 : Hid (w = w) := rfl
    clear HCELL hb4 hR3
    go_wp2_with (go_at_call 35; clear tok1; refine (HE1.out _ HB4.out).mono ?_; rintro e w5 ⟨rfl, hw5⟩; have hb5 := HB4.out.trans hw5)
    go_wp2_with (go_at_call 35; clear tok2; refine (HE2.out _ hb5).mono ?_; rintro e w6 ⟨rfl, hw6⟩; have hb6 := hb5.trans hw6)
    go_wp2_with (go_at_call 35; refine (HE3.out _ hb6).mono ?_; rintro e w7 ⟨rfl, hw7⟩; have hb7 := hb6.trans hw7; refine Hid.out ?_)
    show Hid _
    have hw47 : Bw wc w7 := hw5.trans (hw6.trans hw7)
    have hR7 := (hw47.block _ (Array.getElem?_eq_some_iff.1 hR4).1).trans hR4
    have hH7 := hH4.keep hw47
    clear hw5 hw6 hw7 hb5 hb6 hH4 hR4 HE1 HE2 HE3
    have HNO : Hid ((∀ k, Hd.Good k → Hd.layB k ≠ l) → Hd.Reads l Hd.none 100) := fun h => ⟨fun h => absurd HL.out h, fun _ h => absurd HM.out h, fun _ _ h => absurd HSS.out h, fun _ _ _ k gk ek => absurd ek (h k gk), fun _ _ _ _ => ⟨rfl, rfl⟩⟩
    by_cases y1 : e1 = 0
    rotate_left
    · have q1 : (e1 != 0) = true := by rw [bne_iff_ne]; exact y1
      have HR := HNO.out (Hd.none_mode HX1.out y1)
      clear y1 hz7
      unfold Hid
      go_wp2_with (refine wpList_store_row rfl 23 _ _ rfl w.heap.size Hd.none7 rfl rfl 23 N hR7 hi7 hN7.out hO7.out ?_)
      exact bodyPost_ret (results_row_tmp10 (p := 2) (u := 3) (by rfl) _ _ w.heap.size 23 Hd.none7 (0, 0) _ rfl (setRow_heap _ w.heap.size _ _ _ _ hR7) Try.underlying23 rfl hi7) rfl ⟨⟨Hd.none, 100, by rw [Hd.hv_none]; rfl, HR⟩, bw_of_bx (hb0.trans hb7) (bx_set _ w.heap.size _ rfl) (fun k e => by omega)⟩
    by_cases y2 : e2 = 0
    rotate_left
    · have q2 : (e2 != 0) = true := by rw [bne_iff_ne]; exact y2
      have HR := HNO.out (Hd.none_size HX2.out y2)
      subst y1
      clear y2 hz7
      unfold Hid
      go_wp2_with (refine wpList_store_row rfl 23 _ _ rfl w.heap.size Hd.none7 rfl rfl 23 N hR7 hi7 hN7.out hO7.out ?_)
      exact bodyPost_ret (results_row_tmp10 (p := 2) (u := 3) (by rfl) _ _ w.heap.size 23 Hd.none7 (0, 0) _ rfl (setRow_heap _ w.heap.size _ _ _ _ hR7) Try.underlying23 rfl hi7) rfl ⟨⟨Hd.none, 100, by rw [Hd.hv_none]; rfl, HR⟩, bw_of_bx (hb0.trans hb7) (bx_set _ w.heap.size _ rfl) (fun k e => by omega)⟩
    by_cases y3 : e3 = 0
    rotate_left
    · have q3 : (e3 != 0) = true := by rw [bne_iff_ne]; exact y3
      have HR := HNO.out (Hd.none_time HX3.out y3)
      subst y1 y2
      clear y3 hz7
      unfold Hid
      go_wp2_with (refine wpList_store_row rfl 23 _ _ rfl w.heap.size Hd.none7 rfl rfl 23 N hR7 hi7 hN7.out hO7.out ?_)
      exact bodyPost_ret (results_row_tmp10 (p := 2) (u := 3) (by rfl) _ _ w.heap.size 23 Hd.none7 (0, 0) _ rfl (setRow_heap _ w.heap.size _ _ _ _ hR7) Try.underlying23 rfl hi7) rfl ⟨⟨Hd.none, 100, by rw [Hd.hv_none]; rfl, HR⟩, bw_of_bx (hb0.trans hb7) (bx_set _ w.heap.size _ rfl) (fun k e => by omega)⟩
    obtain ⟨kk, hkk⟩ : ∃ k : Hd.Hdr, Hid (k = ⟨k0.name, z1, z2, z3, c, k0.link, k0.pre⟩) := ⟨_, rfl⟩
    have HTOLD : Hid (Hd.Told l kk) := by
      have hlen : ∀ p n, p + n ≤ 512 → ((l.drop p).take n).length = n := fun p n h => (row_piece (HRW.out _ (Bw.refl _)) HL.out p n h).2
      rw [hkk.out, hk0.out]
      exact ⟨by dsimp only; rw [List.drop_zero], rfl, rfl, hc.out, Hd.numof_exa (by rw [hlen 100 8 (by omega)]; omega) HX1.out y1, Hd.numof_exa (by rw [hlen 124 12 (by omega)]; omega) HX2.out y2, Hd.numof_exa (by rw [hlen 136 12 (by omega)]; omega) HX3.out y3⟩
    subst y1 y2 y3
    obtain ⟨W8, hW8⟩ : ∃ V, V = ((w7.setCell ⟨w3.heap.size, 2, none⟩ (.int .i64 z1)).setCell ⟨w3.heap.size, 3, none⟩ (.int .i64 z2)).setCell ⟨w3.heap.size, 4, none⟩ (.int .i64 z3) := ⟨_, rfl⟩
    have hH7' : w7.heap[w3.heap.size]? = some (.cells #[.string (Hd.S k0.name), .string (Hd.S k0.pre), .int .i64 0, .int .i64 0, .int .i64 0, .int .u8 ((c.toNat : Nat) : Int), .string (Hd.S k0.link)] 23 (0, 0)) := by
      have := hH7
      unfold HeadAt at this
      rw [this]
      congr 2
      rw [hk0.out]; rfl
    have s1 := heap_setCell_same w7 w3.heap.size 2 _ _ (.int .i64 z1) hH7'
    have s2 := heap_setCell_same _ w3.heap.size 3 _ _ (.int .i64 z2) s1
    have s3 := heap_setCell_same _ w3.heap.size 4 _ _ (.int .i64 z3) s2
    have hH8 : HeadAt W8 w3.heap.size kk := by
      rw [hW8]
      unfold HeadAt
      rw [s3, hkk.out]
      rfl
    have c2 : w7.cell? ⟨w3.heap.size, 2, none⟩ = some (.int .i64 0) := cell_of_row _ _ 2 _ _ _ hH7'
    have f2 : w7.frozen? ⟨w3.heap.size, 2, none⟩ = false := frozen_of_row _ _ 2 _ _ hH7'
    have c3 : (w7.setCell ⟨w3.heap.size, 2, none⟩ (.int .i64 z1)).cell? ⟨w3.heap.size, 3, none⟩ = some (.int .i64 0) := cell_of_row _ _ 3 _ _ _ s1
    have f3 : (w7.setCell ⟨w3.heap.size, 2, none⟩ (.int .i64 z1)).frozen? ⟨w3.heap.size, 3, none⟩ = false := frozen_of_row _ _ 3 _ _ s1
    have c4 : ((w7.setCell ⟨w3.heap.size, 2, none⟩ (.int .i64 z1)).setCell ⟨w3.heap.size, 3, none⟩ (.int .i64 z2)).cell? ⟨w3.heap.size, 4, none⟩ = some (.int .i64 0) := cell_of_row _ _ 4 _ _ _ s2
    have f4 : ((w7.setCell ⟨w3.heap.size, 2, none⟩ (.int .i64 z1)).setCell ⟨w3.heap.size, 3, none⟩ (.int .i64 z2)).frozen? ⟨w3.heap.size, 4, none⟩ = false := frozen_of_row _ _ 4 _ _ s2
    have szl : w.heap.size + 1 ≤ w3.heap.size := by have := hb3.size; have := (Array.getElem?_eq_some_iff.1 hR0).1; omega
    have hR8 : W8.heap[w.heap.size]? = some (.cells N 23 (0, 0)) := by
      rw [hW8]
      exact (heap_setCell_other _ ⟨w3.heap.size, 4, none⟩ w.heap.size _ (by simp only; omega)).trans ((heap_setCell_other _ ⟨w3.heap.size, 3, none⟩ w.heap.size _ (by simp only; omega)).trans ((heap_setCell_other _ ⟨w3.heap.size, 2, none⟩ w.heap.size _ (by simp only; omega)).trans hR7))
    have HB8 : Hid (Bw w W8) := by
      rw [hW8]
      exact (((hb0.trans hb7).put (by omega) _ _).put (by omega) _ _).put (by omega) _ _
    have HRW8 : Hid (RowAt W8 (some ⟨b, o, none⟩) 512 (Hd.rowF l)) := HRB.out.keep HB8.out
    have hsk : Hid (Hd.Small kk) := by
      have hfl : ∀ p n, p + n ≤ 512 → (Hd.first ((l.drop p).take n)).length ≤ 512 := fun p n h => by
        have h1 := (List.takeWhile_sublist (l := (l.drop p).take n) (fun c : UInt8 => c != 0)).length_le
        have h2 := (row_piece (HRW.out _ (Bw.refl _)) HL.out p n h).2
        unfold Hd.first
        omega
      rw [hkk.out, hk0.out]
      exact ⟨by have := hfl 0 100 (by omega); dsimp only; omega, by have := hfl 157 100 (by omega); dsimp only; omega, by have := hfl 345 155 (by omega); dsimp only; omega⟩
    have ikk := info_head kk
    have HNK : Hid (N.size = (Hd.hv kk).size) := by show _ = _; rw [hN.out]; rfl
    obtain ⟨M, hMe⟩ : ∃ M, Hid (M = Hd.may kk) := ⟨_, rfl⟩
    clear s1 s2 s3 hH7' hH7 hR7 hw47 hb7
    by_cases hm0 : M = 0
    rotate_left
    · have q1 : ((M : Int) != 0) = true := by rw [bne_iff_ne]; omega
      have HMK : Hid (Hd.may kk ≠ 0) := by rw [← hMe.out]; exact hm0
      have HR : Hd.Reads l Hd.none 100 := HNO.out (fun k gk ek => by have e := Hd.told_lay HTOLD.out gk ek; rw [e] at HMK; exact HMK.out (Hd.good_may gk))
      clear hm0 hz7
      unfold Hid
      go_wp2_with (first
        | (rw [← hW8]; clear hW8; refine wpList_load_row rfl 23 _ rfl w3.heap.size rfl 23 (Hd.hv kk) (0, 0) _ hH8 Try.underlying23 rfl ikk ?_)
        | (go_at_call 10; refine (rPut_any kk hsk.out _).mono ?_; rintro e w9 ⟨h9, -, hw9⟩; obtain rfl := h9 HMK.out; rw [← hMe.out]; have hR9 := (hw9.block _ (Array.getElem?_eq_some_iff.1 hR8).1).trans hR8)
        | (refine wpList_store_row rfl 23 _ _ rfl w.heap.size Hd.none7 rfl rfl 23 N hR9 hi7 hN7.out hO7.out ?_))
      exact bodyPost_ret (results_row_tmp10 (p := 2) (u := 3) (by rfl) _ _ w.heap.size 23 Hd.none7 (0, 0) _ rfl (setRow_heap _ w.heap.size _ _ _ _ hR9) Try.underlying23 rfl hi7) rfl ⟨⟨Hd.none, 100, by rw [Hd.hv_none]; rfl, HR⟩, bw_of_bx (HB8.out.trans hw9) (bx_set _ w.heap.size _ rfl) (fun k e => by omega)⟩
    · have HMK : Hid (Hd.may kk = 0) := by rw [← hMe.out]; exact hm0
      have gk := Hd.may_good HMK.out
      have HLK : Hid ((Hd.layB kk).length = 512) := Hd.lay_len gk
      obtain ⟨XK, hXK⟩ : ∃ X, Hid (X = Hd.S (Hd.layB kk)) := ⟨_, rfl⟩
      have HXK : Hid (str (Hd.rowF (Hd.layB kk)) 512 = XK) := by show _ = _; rw [str_512 HLK.out, hXK.out]
      have HGK : Hid (Hd.Good kk) := gk
      subst hm0
      clear gk
      unfold Hid
      cases hle : (Hd.layB kk == l) with
      | true =>
        have HR : Hd.Reads l kk 0 := by
          have e := eq_of_beq hle
          rw [← e]
          exact Hd.lay_reads HGK.out
        have mk2 : (XK.toList == XL.toList) = true := by rw [hXK.out, hXL.out, Hd.toList_S, Hd.toList_S]; exact hle
        clear hle hz7
        go_wp2_with (first
          | (rw [← hW8]; clear hW8; refine wpList_load_row rfl 23 _ rfl w3.heap.size rfl 23 (Hd.hv kk) (0, 0) _ hH8 Try.underlying23 rfl ikk ?_)
          | (go_at_call 10; refine (rPut_any kk hsk.out _).mono ?_; rintro e w9 ⟨-, h9, hw9⟩; obtain ⟨v9, rfl, g9⟩ := h9 HMK.out; obtain ⟨q9, cap9, rfl, hcap9, hgb9, ho9⟩ := own_gb6 g9 HLK.out; have cv9 := conv_row (C := cap9) (ho9.row (Hd.rowF_bd _)); rw [HXK.out] at cv9; have cvl := conv_row (C := ca) (HRW8.out.keep hw9); rw [HXL.out] at cvl; have hR9 := (hw9.block _ (Array.getElem?_eq_some_iff.1 hR8).1).trans hR8; have hH9 := hH8.keep hw9; clear g9 hgb9)
          | (refine wpList_load_row rfl 23 _ rfl w3.heap.size rfl 23 (Hd.hv kk) (0, 0) _ hH9 Try.underlying23 rfl ikk ?_)
          | (refine wpList_store_row rfl 23 _ _ rfl w.heap.size (Hd.hv kk) rfl rfl 23 N hR9 ikk HNK.out (Hd.hv_one kk) ?_))
        exact bodyPost_ret (results_row_tmp10 (p := 2) (u := 3) (by rfl) _ _ w.heap.size 23 (Hd.hv kk) (0, 0) _ rfl (setRow_heap _ w.heap.size _ _ _ _ hR9) Try.underlying23 rfl ikk) rfl ⟨⟨kk, 0, rfl, HR⟩, bw_of_bx (HB8.out.trans hw9) (bx_set _ w.heap.size _ rfl) (fun k e => by omega)⟩
      | false =>
        have HR : Hd.Reads l Hd.none 100 := HNO.out (fun k gk ek => by have e := Hd.told_lay HTOLD.out gk ek; rw [e] at hle; exact beq_eq_false_iff_ne.1 hle ek)
        have mk2 : (XK.toList == XL.toList) = false := by rw [hXK.out, hXL.out, Hd.toList_S, Hd.toList_S]; exact hle
        clear hle hz7
        go_wp2_with (first
          | (rw [← hW8]; clear hW8; refine wpList_load_row rfl 23 _ rfl w3.heap.size rfl 23 (Hd.hv kk) (0, 0) _ hH8 Try.underlying23 rfl ikk ?_)
          | (go_at_call 10; refine (rPut_any kk hsk.out _).mono ?_; rintro e w9 ⟨-, h9, hw9⟩; obtain ⟨v9, rfl, g9⟩ := h9 HMK.out; obtain ⟨q9, cap9, rfl, hcap9, hgb9, ho9⟩ := own_gb6 g9 HLK.out; have cv9 := conv_row (C := cap9) (ho9.row (Hd.rowF_bd _)); rw [HXK.out] at cv9; have cvl := conv_row (C := ca) (HRW8.out.keep hw9); rw [HXL.out] at cvl; have hR9 := (hw9.block _ (Array.getElem?_eq_some_iff.1 hR8).1).trans hR8; have hH9 := hH8.keep hw9; clear g9 hgb9)
          | (refine wpList_store_row rfl 23 _ _ rfl w.heap.size Hd.none7 rfl rfl 23 N hR9 hi7 hN7.out hO7.out ?_))
        exact bodyPost_ret (results_row_tmp10 (p := 2) (u := 3) (by rfl) _ _ w.heap.size 23 Hd.none7 (0, 0) _ rfl (setRow_heap _ w.heap.size _ _ _ _ hR9) Try.underlying23 rfl hi7) rfl ⟨⟨Hd.none, 100, by rw [Hd.hv_none]; rfl, HR⟩, bw_of_bx (HB8.out.trans hw9) (bx_set _ w.heap.size _ rfl) (fun k e => by omega)⟩
set_option maxRecDepth 100000 in
theorem rgetD_arg (A : Option Addr) (n ca : Nat) (hn : n ≠ 512) (w : World) : Calls Try.prog 17 #[.slice A n ca] w fun e w' => e = .returned (.tuple #[.agg (Hd.hv Hd.none), .int .i64 1]) ∧ Bw w w' := by
  have hz7 := zero_head
  obtain ⟨N, hN⟩ : ∃ N, Hid (N = Hd.none7) := ⟨_, rfl⟩
  have hi7 := info_head Hd.none
  rw [Hd.hv_none] at hi7 ⊢
  have hN7 : Hid (N.size = Hd.none7.size) := by show _ = _; rw [hN.out]
  have hO7 : Hid (Hd.none7.all (·.oneCell') = true) := Hd.hv_one Hd.none
  rw [← hN.out] at hz7
  obtain ⟨W0, hW0⟩ : ∃ V, V = w.alloc (.cells N 23) := ⟨_, rfl⟩
  have hR0 : W0.heap[w.heap.size]? = some (.cells N 23 (0, 0)) := by rw [hW0]; exact heap_alloc_new _ _
  have hb0 : Bw w W0 := by rw [hW0]; exact bw_alloc7 (Bw.refl _) _
  have e1 : ((n : Int) != 512) = true := by rw [bne_iff_ne]; omega
  go_enter Try.func17, Try.ntmps17
  go_upto_region 1 with fail
  rw [← hW0]
  clear hW0 hz7
  go_wp2_with (refine wpList_store_row rfl 23 _ _ rfl w.heap.size Hd.none7 rfl rfl 23 N hR0 hi7 hN7.out hO7.out ?_)
  exact bodyPost_ret (results_row_tmp10 (p := 2) (u := 3) (by rfl) _ _ w.heap.size 23 Hd.none7 (0, 0) _ rfl (setRow_heap _ w.heap.size _ _ _ _ hR0) Try.underlying23 rfl hi7) rfl ⟨rfl, bw_of_bx hb0 (bx_set _ w.heap.size _ rfl) (fun k e => by omega)⟩
theorem rGet_reads (A : Option Addr) (n ca : Nat) (l : Hd.B) (k : Hd.Hdr) (er : Nat) (hl : l.length = n) (hca : n ≤ ca) (hrd : Hd.Reads l k er) (w : World) (hr : RowAt w A n (Hd.rowF l)) : Calls Try.prog 17 #[.slice A n ca] w fun e w' => e = .returned (.tuple #[.agg (Hd.hv k), .int .i64 ((er : Nat) : Int)]) ∧ Bw w w' := by
  have key : Calls Try.prog 17 #[.slice A n ca] w fun e w' => GetSays10 l e ∧ Bw w w' := by
    by_cases hn : n = 512
    · subst hn
      obtain ⟨b, o, rfl, -⟩ := hr.at (k := 0) (by omega)
      cases hm : (Hd.mark l == Hd.ustar) with
      | false => exact rget_mark b o ca l hl hca hm w hr
      | true =>
        cases hs : (Hd.sealB l == l) with
        | false => exact rget_sum b o ca l hl hca hm hs w hr
        | true => exact rget_rest b o ca l hl hca hm hs w hr
    · refine (rgetD_arg A n ca hn w).mono ?_
      rintro e w' ⟨rfl, hw⟩
      have hln : l.length ≠ 512 := by rw [hl]; exact hn
      exact ⟨⟨Hd.none, 1, rfl, ⟨fun _ => ⟨rfl, rfl⟩, fun h => absurd h hln, fun h => absurd h hln, fun h => absurd h hln, fun h => absurd h hln⟩⟩, hw⟩
  refine key.mono ?_
  rintro e w' ⟨⟨k', er', rfl, hr'⟩, hb⟩
  obtain ⟨rfl, rfl⟩ := Hd.reads_unique hrd hr'
  exact ⟨rfl, hb⟩
end Go.Proofs.Ytkoacehgfmflmaa
