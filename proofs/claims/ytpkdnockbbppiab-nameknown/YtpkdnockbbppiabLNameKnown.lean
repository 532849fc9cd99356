/- Proved: the closed statement NameKnown answers true (the document's P8.1 to P8.8: the limits and errors have their numbers; the document's examples), with no condition. -/
import Derived.Test.YtpkdnockbbppiabNC
import Derived.Test.YtpkdnockbbppiabNS
import Derived.Great.BuildSlice
import Derived.BigRegion
import Derived.Test.YtpkdnockbbppiabFs
import Derived.ShutString
import Derived.ChangeOld
namespace Go.Proofs.Ytpkdnockbbppiab.nameKnown
open Go.ChangeShapes Go.WideShapes Go.ChangeAt Go.RowKit
set_option linter.unusedVariables false

set_option linter.unusedSimpArgs false
attribute [local go_sem] List.getElem?_cons_zero Option.getD_some
theorem parts_evalV (a : Act) (parts : Array (Nat × Operand)) (vs : List Value) (hparts : parts.toList = (vs.zipIdx 0).map fun x => (x.2, Operand.const x.1)) :
    (parts.map fun (i, x) => (i, a.eval x)).toList = (vs.zipIdx 0).map fun x => (x.2, x.1) := by
  rw [Array.toList_map, hparts, List.map_map]
  rfl
/-- a written list of one-cell values -/
theorem wpList_litV {ops : Array Oper} {rest : List Oper} {o : Oper} {a : Act} {w : World} {Q : Exit → Act → World → Prop} (hgd : o.guard = none) (t e : TypeId) (i0 : TypeInfo) (z : Value) (ht : Try.prog.underlying t = some (.slice e)) (hi0 : Try.prog.info? e = some i0) (hz0 : i0.zero = some z) (hz1 : i0.size = 1)
    (len : Nat) (parts : Array (Nat × Operand)) (ho : o.op = .buildSlice t len parts)
    (vs : List Value) (hlen : len = vs.length) (hpos : 0 < len) (hsmall : len ≤ 2 ^ 24) (hone : ∀ v ∈ vs, v.cells = #[v])
    (hparts : parts.toList = (vs.zipIdx 0).map fun x => (x.2, Operand.const x.1))
    (h : wpList Try.prog ops Q rest (a.put o.dst (.slice (some ⟨w.heap.size, 0, none⟩) len len)) (w.alloc (.cells vs.toArray e))) : wpList Try.prog ops Q (o :: rest) a w := by
  refine wpList_buildSlice hgd t e len parts ho _ i0 z ht hi0 hz0 (by rw [hz1]; omega) (by rw [hz1]; omega) ?_ h
  rw [parts_evalV a parts vs hparts, hz1]
  exact Great.fill_flat _ _ hone (by simp [hlen])
theorem info_i64 : (Try.prog.info? 3).map (fun i => (i.zero, i.size, i.bytes)) = some (some (.int .i64 0), 1, 8) := by kernel_rfl
theorem info_err : (Try.prog.info? 22).map (fun i => (i.zero, i.size, i.bytes)) = some (some (.int .i64 0), 1, 8) := by kernel_rfl
theorem strs_lit (W : World) (ps : List Nm.B) : StrsAt (W.alloc (.cells (ps.map fun p => Value.string (Nm.S p)).toArray 9)) (some ⟨W.heap.size, 0, none⟩) ps.length (fun i => Nm.S (ps.getD i [])) := by
  refine Or.inr ⟨W.heap.size, 0, rfl, fun i hi => ?_⟩
  rw [Nat.zero_add, World.cell?_alloc_at _ _ _ i rfl, List.getElem?_toArray, List.getElem?_map, List.getElem?_eq_getElem hi]
  dsimp only [Option.map]
  rw [List.getD_eq_getElem?_getD, List.getElem?_eq_getElem hi]; rfl
theorem lit_cells (W : World) (vs : List Value) (t : TypeId) (i : Nat) (v : Value) (h : vs[i]? = some v) : (W.alloc (.cells vs.toArray t)).cell? ⟨W.heap.size, i, none⟩ = some v := by
  rw [World.cell?_alloc_at _ _ _ i rfl, List.getElem?_toArray]; exact h
theorem cell_later {w w' : World} {a : Addr} {v : Value} (h : Bw w w') (hc : w.cell? a = some v) : w'.cell? a = some v := by
  rw [h.cell (p := a) (block_lt_of_cell hc)]; exact hc
theorem strs_small (ps : List Nm.B) (h : ∀ p ∈ ps, p.length ≤ 100) (i : Nat) : (Nm.S (ps.getD i [])).size ≤ 100 := by
  rw [Nm.size_S]
  rcases Nat.lt_or_ge i ps.length with hi | hi
  · rw [List.getD_eq_getElem?_getD, List.getElem?_eq_getElem hi]; exact h _ (List.getElem_mem hi)
  · rw [List.getD_eq_getElem?_getD, List.getElem?_eq_none hi]; exact Nat.zero_le _
theorem rp_succ (k : Nat) : rp k ++ [120] = rp (k + 1) := by unfold rp; exact List.replicate_succ'.symm
theorem k_ll : Nm.check (rp 90 ++ [47] ++ rp 90) = (0, 0) := by decide +kernel
theorem s_ll : Nm.SplitSays (rp 90 ++ [47] ++ rp 90) (rp 90) (rp 90) 0 := by
  have hl : (rp 90 ++ [47] ++ rp 90).length = 181 := by decide +kernel
  have hc : Nm.CutAt (rp 90 ++ [47] ++ rp 90) 90 := ⟨by decide +kernel, by decide, by rw [hl]; decide⟩
  have hno : ∀ j, j < 181 → 90 < j → (rp 90 ++ [47] ++ rp 90)[j]? ≠ some 47 := by decide +kernel
  refine ⟨fun h => absurd (by rw [k_ll]) h, fun _ h => by rw [hl] at h; omega, fun _ _ i hi hlast => ?_, fun _ _ h => absurd hc (h 90)⟩
  have : i = 90 := by
    have h1 := Nm.cut_lt hi
    rw [hl] at h1
    rcases Nat.lt_trichotomy i 90 with h | h | h
    · exact absurd hc (hlast 90 h)
    · exact h
    · exact absurd hi.1 (hno i h1 h)
  subst this
  exact ⟨by decide +kernel, by decide +kernel, rfl⟩
theorem k_l110 : Nm.check (rp 110) = (0, 0) := by decide +kernel
theorem s_l110 : Nm.SplitSays (rp 110) [] [] 2 := by
  have hl : (rp 110).length = 110 := by decide +kernel
  refine ⟨fun h => absurd (by rw [k_l110]) h, fun _ h => by rw [hl] at h; omega, fun _ _ i hi => absurd (List.mem_of_getElem? hi.1) (rp_no 110), fun _ _ _ => ⟨rfl, rfl, rfl⟩⟩
theorem kt0 : Nm.check [] = (0, 80) := by decide
theorem kt1 : Nm.check [47, 97] = (0, 80) := by decide
theorem kt2 : Nm.check [97, 47] = (2, 80) := by decide
theorem kt3 : Nm.check [97, 47, 46, 46, 46] = (0, 0) := by decide
theorem kt4 : Nm.check [97, 0] = (1, 82) := by decide
theorem kt5 : Nm.check [97, 47, 47, 98] = (2, 80) := by decide
theorem kl0 : Nm.lead [108] [46, 46, 47, 99] = ([], 83) := by decide
theorem kl1 : Nm.lead [97, 47, 108] [46, 46] = ([], 0) := by decide
theorem kl2 : Nm.lead [97, 47, 108] [47, 99] = ([], 83) := by decide
theorem kl3 : Nm.lead [97, 47, 108] [120, 47, 46, 47, 121, 47, 47] = ([97, 47, 120, 47, 121], 0) := by decide
theorem kl4 : Nm.lead [97, 47, 108] [46, 46, 97] = ([97, 47, 46, 46, 97], 0) := by decide
theorem kj1 : Nm.joinE [[97], [98]] = ([97, 47, 98], 0) := by unfold Nm.joinE; rw [if_neg (by decide), if_neg (by decide), if_pos (by decide)]; rfl
theorem kj2 : Nm.joinE [] = ([], 4) := by unfold Nm.joinE; rw [if_pos rfl]
theorem kj3 : Nm.joinE [[97, 47, 98]] = ([], 1) := by unfold Nm.joinE; rw [if_neg (by decide), if_pos (by decide)]
theorem kj4 : Nm.joinE [[46, 46]] = ([], 81) := by unfold Nm.joinE; rw [if_neg (by decide), if_neg (by decide), if_neg (by decide)]; rfl
theorem kc1 : Nm.cmp [97] [97, 47, 98] = -1 := by decide
theorem kc2 : Nm.cmp [98] [97, 47, 122] = 1 := by decide
theorem ku1 : Nm.up [97, 47, 98, 47, 99] = [97, 47, 98] := by decide
theorem ku2 : Nm.up [97] = [] := by decide
theorem kb1 : Nm.Beneath [] [97] := ⟨by decide, Or.inl rfl⟩
set_option maxRecDepth 100000 in
set_option maxHeartbeats 4000000 in
theorem known (w : World) : Calls Try.prog 7 #[] w fun e w' => e = .returned (.bool true) ∧ Bw w w' := by
  obtain ⟨i0, hi0, hz0, hz1, hz2⟩ := info_parts info_str
  obtain ⟨i1, hj0, hk0, hk1, hk2⟩ := info_parts info_i64
  obtain ⟨i2, hl0, hm0, hm1, hm2⟩ := info_parts info_err
  have tok1 : Hid (w = w) := rfl
  have tok2 : Hid (w = w) := rfl
  have tok3 : Hid (w = w) := rfl
  have tok4 : Hid (w = w) := rfl
  have tok5 : Hid (w = w) := rfl
  have tok6 : Hid (w = w) := rfl
  have tok7 : Hid (w = w) := rfl
  have tok8 : Hid (w = w) := rfl
  have tok9 : Hid (w = w) := rfl
  have tok10 : Hid (w = w) := rfl
  have tok11 : Hid (w = w) := rfl
  have tok12 : Hid (w = w) := rfl
  go_enter Try.func7, Try.ntmps7
  go_wp2_with (first | (refine wpList_litV rfl 39 9 i0 _ Try.underlying39 hi0 hz0 hz1 6 _ rfl [.string (Nm.S []), .string (Nm.S [47, 97]), .string (Nm.S [97, 47]), .string (Nm.S [97, 47, 46, 46, 46]), .string (Nm.S [97, 0]), .string (Nm.S [97, 47, 47, 98])] rfl (by decide) (by decide) (by simp [Value.cells]) rfl ?_) | (refine wpList_litV rfl 40 3 i1 _ Try.underlying40 hj0 hk0 hk1 6 _ rfl [.int .i64 0, .int .i64 0, .int .i64 2, .int .i64 0, .int .i64 1, .int .i64 2] rfl (by decide) (by decide) (by simp [Value.cells]) rfl ?_) | (refine wpList_litV rfl 41 22 i2 _ Try.underlying41 hl0 hm0 hm1 6 _ rfl [.int .i64 80, .int .i64 80, .int .i64 80, .int .i64 0, .int .i64 82, .int .i64 80] rfl (by decide) (by decide) (by simp [Value.cells]) rfl ?_))
  obtain ⟨wa, hwa⟩ : ∃ W, W = w.alloc (.cells ([.string (Nm.S []), .string (Nm.S [47, 97]), .string (Nm.S [97, 47]), .string (Nm.S [97, 47, 46, 46, 46]), .string (Nm.S [97, 0]), .string (Nm.S [97, 47, 47, 98])]).toArray 9) := ⟨_, rfl⟩
  have swa : wa.heap.size = w.heap.size + 1 := by rw [hwa, size_alloc]
  have bwa : Bw w wa := by rw [hwa]; exact Below.alloc (Bw.refl _) (Nat.le_refl _) _
  have cwa : Hid (∀ i v, ([.string (Nm.S []), .string (Nm.S [47, 97]), .string (Nm.S [97, 47]), .string (Nm.S [97, 47, 46, 46, 46]), .string (Nm.S [97, 0]), .string (Nm.S [97, 47, 47, 98])] : List Value)[i]? = some v → wa.cell? ⟨w.heap.size, i, none⟩ = some v) := fun i v h => by rw [hwa]; exact lit_cells _ _ _ _ _ h
  obtain ⟨wb, hwb⟩ : ∃ W, W = wa.alloc (.cells ([.int .i64 0, .int .i64 0, .int .i64 2, .int .i64 0, .int .i64 1, .int .i64 2]).toArray 3) := ⟨_, rfl⟩
  have swb : wb.heap.size = wa.heap.size + 1 := by rw [hwb, size_alloc]
  have bwb : Bw wa wb := by rw [hwb]; exact Below.alloc (Bw.refl _) (Nat.le_refl _) _
  have cwb : Hid (∀ i v, ([.int .i64 0, .int .i64 0, .int .i64 2, .int .i64 0, .int .i64 1, .int .i64 2] : List Value)[i]? = some v → wb.cell? ⟨wa.heap.size, i, none⟩ = some v) := fun i v h => by rw [hwb]; exact lit_cells _ _ _ _ _ h
  obtain ⟨wc, hwc⟩ : ∃ W, W = wb.alloc (.cells ([.int .i64 80, .int .i64 80, .int .i64 80, .int .i64 0, .int .i64 82, .int .i64 80]).toArray 22) := ⟨_, rfl⟩
  have swc : wc.heap.size = wb.heap.size + 1 := by rw [hwc, size_alloc]
  have bwc : Bw wb wc := by rw [hwc]; exact Below.alloc (Bw.refl _) (Nat.le_refl _) _
  have cwc : Hid (∀ i v, ([.int .i64 80, .int .i64 80, .int .i64 80, .int .i64 0, .int .i64 82, .int .i64 80] : List Value)[i]? = some v → wc.cell? ⟨wb.heap.size, i, none⟩ = some v) := fun i v h => by rw [hwc]; exact lit_cells _ _ _ _ _ h
  rw [← hwa, ← hwb, ← hwc]
  have HC1 : Hid (∀ W, Bw wc W → ∀ i, i < 6 → ∀ x y z, ([.string (Nm.S []), .string (Nm.S [47, 97]), .string (Nm.S [97, 47]), .string (Nm.S [97, 47, 46, 46, 46]), .string (Nm.S [97, 0]), .string (Nm.S [97, 47, 47, 98])] : List Value)[i]? = some x → ([.int .i64 0, .int .i64 0, .int .i64 2, .int .i64 0, .int .i64 1, .int .i64 2] : List Value)[i]? = some y → ([.int .i64 80, .int .i64 80, .int .i64 80, .int .i64 0, .int .i64 82, .int .i64 80] : List Value)[i]? = some z → W.cell? ⟨w.heap.size, i, none⟩ = some x ∧ W.cell? ⟨w.heap.size + 1, i, none⟩ = some y ∧ W.cell? ⟨w.heap.size + 1 + 1, i, none⟩ = some z) := fun W hW i hi x y z hx hy hz => by
    have e1 := cell_later ((bwb.trans bwc).trans hW) (cwa.out i x hx)
    have e2 := cell_later (bwc.trans hW) (cwb.out i y hy)
    have e3 := cell_later hW (cwc.out i z hz)
    rw [swa] at e2
    rw [swb, swa] at e3
    exact ⟨e1, e2, e3⟩
  have HB0 : Hid (Bw w wc) := bwa.trans (bwb.trans bwc)
  clear cwa cwb cwc bwa bwb bwc swa swb swc hwa hwb hwc
  go_loopw [0, 4] (fun r i wr => ∃ k : Nat, k ≤ 6 ∧ r = .bool false ∧ i = .int .i64 (k : Int) ∧ Bw wc wr) (fun _ i _ => 6 - (intOf i).toNat)
  case atStart => exact ⟨0, by omega, rfl, rfl, Bw.refl _⟩
  case round =>
    obtain ⟨k, hk, rfl, rfl, hb⟩ := hrel
    by_cases hlt : k < 6
    · rcases (show k = 0 ∨ k = 1 ∨ k = 2 ∨ k = 3 ∨ k = 4 ∨ k = 5 by omega) with rfl | rfl | rfl | rfl | rfl | rfl
      · obtain ⟨x1, x2, x3⟩ := HC1.out _ hb 0 (by decide) _ _ _ rfl rfl rfl
        go_wp2_with (go_at_call 13; refine (ncheck_any (Nm.S []) (by decide) _).mono ?_; rintro e v1 ⟨rfl, hv1⟩; rw [Nm.toList_S, kt0]; have x2' := cell_later hv1 x2; have x3' := cell_later hv1 x3)
        go_roundw
        case rel => exact ⟨1, by omega, rfl, by go_num, hb.trans hv1⟩
        case measure => simp [intOf]
      · obtain ⟨x1, x2, x3⟩ := HC1.out _ hb 1 (by decide) _ _ _ rfl rfl rfl
        go_wp2_with (go_at_call 13; refine (ncheck_any (Nm.S [47, 97]) (by decide) _).mono ?_; rintro e v1 ⟨rfl, hv1⟩; rw [Nm.toList_S, kt1]; have x2' := cell_later hv1 x2; have x3' := cell_later hv1 x3)
        go_roundw
        case rel => exact ⟨2, by omega, rfl, by go_num, hb.trans hv1⟩
        case measure => simp [intOf]
      · obtain ⟨x1, x2, x3⟩ := HC1.out _ hb 2 (by decide) _ _ _ rfl rfl rfl
        go_wp2_with (go_at_call 13; refine (ncheck_any (Nm.S [97, 47]) (by decide) _).mono ?_; rintro e v1 ⟨rfl, hv1⟩; rw [Nm.toList_S, kt2]; have x2' := cell_later hv1 x2; have x3' := cell_later hv1 x3)
        go_roundw
        case rel => exact ⟨3, by omega, rfl, by go_num, hb.trans hv1⟩
        case measure => simp [intOf]
      · obtain ⟨x1, x2, x3⟩ := HC1.out _ hb 3 (by decide) _ _ _ rfl rfl rfl
        go_wp2_with (go_at_call 13; refine (ncheck_any (Nm.S [97, 47, 46, 46, 46]) (by decide) _).mono ?_; rintro e v1 ⟨rfl, hv1⟩; rw [Nm.toList_S, kt3]; have x2' := cell_later hv1 x2; have x3' := cell_later hv1 x3)
        go_roundw
        case rel => exact ⟨4, by omega, rfl, by go_num, hb.trans hv1⟩
        case measure => simp [intOf]
      · obtain ⟨x1, x2, x3⟩ := HC1.out _ hb 4 (by decide) _ _ _ rfl rfl rfl
        go_wp2_with (go_at_call 13; refine (ncheck_any (Nm.S [97, 0]) (by decide) _).mono ?_; rintro e v1 ⟨rfl, hv1⟩; rw [Nm.toList_S, kt4]; have x2' := cell_later hv1 x2; have x3' := cell_later hv1 x3)
        go_roundw
        case rel => exact ⟨5, by omega, rfl, by go_num, hb.trans hv1⟩
        case measure => simp [intOf]
      · obtain ⟨x1, x2, x3⟩ := HC1.out _ hb 5 (by decide) _ _ _ rfl rfl rfl
        go_wp2_with (go_at_call 13; refine (ncheck_any (Nm.S [97, 47, 47, 98]) (by decide) _).mono ?_; rintro e v1 ⟨rfl, hv1⟩; rw [Nm.toList_S, kt5]; have x2' := cell_later hv1 x2; have x3' := cell_later hv1 x3)
        go_roundw
        case rel => exact ⟨6, by omega, rfl, by go_num, hb.trans hv1⟩
        case measure => simp [intOf]
    · obtain rfl : k = 6 := by omega
      have HB1 : Hid (Bw w wr) := HB0.out.trans hb
      rename World => wd
      clear hb HC1 HB0 hlt hk
      go_wp2_with (first | (refine wpList_litV rfl 39 9 i0 _ Try.underlying39 hi0 hz0 hz1 2 _ rfl [.string (Nm.S [97]), .string (Nm.S [98])] rfl (by decide) (by decide) (by simp [Value.cells]) rfl ?_) | (go_at_call 18; clear tok1; refine (njoin_any _ ([[97], [98]] : List Nm.B).length 2 (fun i => Nm.S (([[97], [98]] : List Nm.B).getD i [])) (by decide) (by decide) (by rw [partsL_of]; decide) _ (strs_lit _ [[97], [98]])).mono ?_; rintro e v1 ⟨rfl, hv1⟩; rw [partsL_of, kj1, show Nm.S [97, 47, 98] = ⟨#[97, 47, 98]⟩ from rfl]; have hbv1 : Bw wd v1 := Bw.trans (Below.alloc (Bw.refl _) (Nat.le_refl _) _) hv1))
      go_wp2_with (go_at_call 18; clear tok2; refine (njoin_any none 0 0 (fun _ => ⟨#[]⟩) (by decide) (by decide) (by decide) _ (Or.inl rfl)).mono ?_; rintro e v2 ⟨rfl, hbv2⟩; rw [show partsL (fun _ => (⟨#[]⟩ : ByteArray)) 0 = [] from rfl, kj2])
      go_wp2_with (first | (refine wpList_litV rfl 39 9 i0 _ Try.underlying39 hi0 hz0 hz1 1 _ rfl [.string (Nm.S [97, 47, 98])] rfl (by decide) (by decide) (by simp [Value.cells]) rfl ?_) | (go_at_call 18; clear tok3; refine (njoin_any _ ([[97, 47, 98]] : List Nm.B).length 1 (fun i => Nm.S (([[97, 47, 98]] : List Nm.B).getD i [])) (by decide) (by decide) (by rw [partsL_of]; decide) _ (strs_lit _ [[97, 47, 98]])).mono ?_; rintro e v3 ⟨rfl, hv3⟩; rw [partsL_of, kj3]; have hbv3 : Bw v2 v3 := Bw.trans (Below.alloc (Bw.refl _) (Nat.le_refl _) _) hv3))
      go_wp2_with (first | (refine wpList_litV rfl 39 9 i0 _ Try.underlying39 hi0 hz0 hz1 1 _ rfl [.string (Nm.S [46, 46])] rfl (by decide) (by decide) (by simp [Value.cells]) rfl ?_) | (go_at_call 18; clear tok4; refine (njoin_any _ ([[46, 46]] : List Nm.B).length 1 (fun i => Nm.S (([[46, 46]] : List Nm.B).getD i [])) (by decide) (by decide) (by rw [partsL_of]; decide) _ (strs_lit _ [[46, 46]])).mono ?_; rintro e v4 ⟨rfl, hv4⟩; rw [partsL_of, kj4]; have hbv4 : Bw v3 v4 := Bw.trans (Below.alloc (Bw.refl _) (Nat.le_refl _) _) hv4))
      go_wp2_with (go_at_call 11; clear tok5; refine (ncompare_any ⟨#[97]⟩ ⟨#[97, 47, 98]⟩ (by decide) (by decide) _).mono ?_; rintro e v5 ⟨rfl, hbv5⟩; rw [show (⟨#[97]⟩ : ByteArray).toList = [97] from Nm.toList_S [97], show (⟨#[97, 47, 98]⟩ : ByteArray).toList = [97, 47, 98] from Nm.toList_S [97, 47, 98], kc1])
      go_wp2_with (go_at_call 11; clear tok6; refine (ncompare_any ⟨#[98]⟩ ⟨#[97, 47, 122]⟩ (by decide) (by decide) _).mono ?_; rintro e v6 ⟨rfl, hbv6⟩; rw [show (⟨#[98]⟩ : ByteArray).toList = [98] from Nm.toList_S [98], show (⟨#[97, 47, 122]⟩ : ByteArray).toList = [97, 47, 122] from Nm.toList_S [97, 47, 122], kc2])
      go_wp2_with (go_at_call 17; clear tok7; refine (nup_any ⟨#[97, 47, 98, 47, 99]⟩ (by decide) _).mono ?_; rintro e v7 ⟨rfl, hbv7⟩; rw [show (⟨#[97, 47, 98, 47, 99]⟩ : ByteArray).toList = [97, 47, 98, 47, 99] from Nm.toList_S [97, 47, 98, 47, 99], ku1, show Nm.S [97, 47, 98] = ⟨#[97, 47, 98]⟩ from rfl])
      go_wp2_with (go_at_call 17; clear tok8; refine (nup_any ⟨#[97]⟩ (by decide) _).mono ?_; rintro e v8 ⟨rfl, hbv8⟩; rw [show (⟨#[97]⟩ : ByteArray).toList = [97] from Nm.toList_S [97], ku2, show Nm.S [] = ⟨#[]⟩ from rfl])
      go_wp2_with (first | (go_at_call 12; refine (nbeneath_any ⟨#[]⟩ ⟨#[97]⟩ (by decide) (by decide) _).mono ?_; rintro e v9 ⟨⟨x, rfl, hx⟩, hbv9⟩; rw [show (⟨#[]⟩ : ByteArray).toList = [] from Nm.toList_S [], show (⟨#[97]⟩ : ByteArray).toList = [97] from Nm.toList_S [97]] at hx; obtain rfl : x = true := hx.2 kb1; clear hx) | (refine wpList_litV rfl 39 9 i0 _ Try.underlying39 hi0 hz0 hz1 5 _ rfl [.string (Nm.S [108]), .string (Nm.S [97, 47, 108]), .string (Nm.S [97, 47, 108]), .string (Nm.S [97, 47, 108]), .string (Nm.S [97, 47, 108])] rfl (by decide) (by decide) (by simp [Value.cells]) rfl ?_) | (refine wpList_litV rfl 39 9 i0 _ Try.underlying39 hi0 hz0 hz1 5 _ rfl [.string (Nm.S [46, 46, 47, 99]), .string (Nm.S [46, 46]), .string (Nm.S [47, 99]), .string (Nm.S [120, 47, 46, 47, 121, 47, 47]), .string (Nm.S [46, 46, 97])] rfl (by decide) (by decide) (by simp [Value.cells]) rfl ?_) | (refine wpList_litV rfl 39 9 i0 _ Try.underlying39 hi0 hz0 hz1 5 _ rfl [.string (Nm.S []), .string (Nm.S []), .string (Nm.S []), .string (Nm.S [97, 47, 120, 47, 121]), .string (Nm.S [97, 47, 46, 46, 97])] rfl (by decide) (by decide) (by simp [Value.cells]) rfl ?_) | (refine wpList_litV rfl 41 22 i2 _ Try.underlying41 hl0 hm0 hm1 5 _ rfl [.int .i64 83, .int .i64 0, .int .i64 83, .int .i64 0, .int .i64 0] rfl (by decide) (by decide) (by simp [Value.cells]) rfl ?_))
      have HB2 : Hid (Bw w v9) := HB1.out.trans (hbv1.trans (hbv2.trans (hbv3.trans (hbv4.trans (hbv5.trans (hbv6.trans (hbv7.trans (hbv8.trans hbv9))))))))
      obtain ⟨ua, hua⟩ : ∃ W, W = v9.alloc (.cells ([.string (Nm.S [108]), .string (Nm.S [97, 47, 108]), .string (Nm.S [97, 47, 108]), .string (Nm.S [97, 47, 108]), .string (Nm.S [97, 47, 108])]).toArray 9) := ⟨_, rfl⟩
      have sua : ua.heap.size = v9.heap.size + 1 := by rw [hua, size_alloc]
      have bua : Bw v9 ua := by rw [hua]; exact Below.alloc (Bw.refl _) (Nat.le_refl _) _
      have cua : Hid (∀ i v, ([.string (Nm.S [108]), .string (Nm.S [97, 47, 108]), .string (Nm.S [97, 47, 108]), .string (Nm.S [97, 47, 108]), .string (Nm.S [97, 47, 108])] : List Value)[i]? = some v → ua.cell? ⟨v9.heap.size, i, none⟩ = some v) := fun i v h => by rw [hua]; exact lit_cells _ _ _ _ _ h
      obtain ⟨ub, hub⟩ : ∃ W, W = ua.alloc (.cells ([.string (Nm.S [46, 46, 47, 99]), .string (Nm.S [46, 46]), .string (Nm.S [47, 99]), .string (Nm.S [120, 47, 46, 47, 121, 47, 47]), .string (Nm.S [46, 46, 97])]).toArray 9) := ⟨_, rfl⟩
      have sub : ub.heap.size = ua.heap.size + 1 := by rw [hub, size_alloc]
      have bub : Bw ua ub := by rw [hub]; exact Below.alloc (Bw.refl _) (Nat.le_refl _) _
      have cub : Hid (∀ i v, ([.string (Nm.S [46, 46, 47, 99]), .string (Nm.S [46, 46]), .string (Nm.S [47, 99]), .string (Nm.S [120, 47, 46, 47, 121, 47, 47]), .string (Nm.S [46, 46, 97])] : List Value)[i]? = some v → ub.cell? ⟨ua.heap.size, i, none⟩ = some v) := fun i v h => by rw [hub]; exact lit_cells _ _ _ _ _ h
      obtain ⟨uc, huc⟩ : ∃ W, W = ub.alloc (.cells ([.string (Nm.S []), .string (Nm.S []), .string (Nm.S []), .string (Nm.S [97, 47, 120, 47, 121]), .string (Nm.S [97, 47, 46, 46, 97])]).toArray 9) := ⟨_, rfl⟩
      have suc : uc.heap.size = ub.heap.size + 1 := by rw [huc, size_alloc]
      have buc : Bw ub uc := by rw [huc]; exact Below.alloc (Bw.refl _) (Nat.le_refl _) _
      have cuc : Hid (∀ i v, ([.string (Nm.S []), .string (Nm.S []), .string (Nm.S []), .string (Nm.S [97, 47, 120, 47, 121]), .string (Nm.S [97, 47, 46, 46, 97])] : List Value)[i]? = some v → uc.cell? ⟨ub.heap.size, i, none⟩ = some v) := fun i v h => by rw [huc]; exact lit_cells _ _ _ _ _ h
      obtain ⟨ud, hud⟩ : ∃ W, W = uc.alloc (.cells ([.int .i64 83, .int .i64 0, .int .i64 83, .int .i64 0, .int .i64 0]).toArray 22) := ⟨_, rfl⟩
      have sud : ud.heap.size = uc.heap.size + 1 := by rw [hud, size_alloc]
      have bud : Bw uc ud := by rw [hud]; exact Below.alloc (Bw.refl _) (Nat.le_refl _) _
      have cud : Hid (∀ i v, ([.int .i64 83, .int .i64 0, .int .i64 83, .int .i64 0, .int .i64 0] : List Value)[i]? = some v → ud.cell? ⟨uc.heap.size, i, none⟩ = some v) := fun i v h => by rw [hud]; exact lit_cells _ _ _ _ _ h
      rw [← hua, ← hub, ← huc, ← hud]
      have HC2 : Hid (∀ W, Bw ud W → ∀ i, i < 5 → ∀ p x y z, ([.string (Nm.S [108]), .string (Nm.S [97, 47, 108]), .string (Nm.S [97, 47, 108]), .string (Nm.S [97, 47, 108]), .string (Nm.S [97, 47, 108])] : List Value)[i]? = some p → ([.string (Nm.S [46, 46, 47, 99]), .string (Nm.S [46, 46]), .string (Nm.S [47, 99]), .string (Nm.S [120, 47, 46, 47, 121, 47, 47]), .string (Nm.S [46, 46, 97])] : List Value)[i]? = some x → ([.string (Nm.S []), .string (Nm.S []), .string (Nm.S []), .string (Nm.S [97, 47, 120, 47, 121]), .string (Nm.S [97, 47, 46, 46, 97])] : List Value)[i]? = some y → ([.int .i64 83, .int .i64 0, .int .i64 83, .int .i64 0, .int .i64 0] : List Value)[i]? = some z → W.cell? ⟨v9.heap.size, i, none⟩ = some p ∧ W.cell? ⟨v9.heap.size + 1, i, none⟩ = some x ∧ W.cell? ⟨v9.heap.size + 1 + 1, i, none⟩ = some y ∧ W.cell? ⟨v9.heap.size + 1 + 1 + 1, i, none⟩ = some z) := fun W hW i hi p x y z hp hx hy hz => by
        have e1 := cell_later ((bub.trans (buc.trans bud)).trans hW) (cua.out i p hp)
        have e2 := cell_later ((buc.trans bud).trans hW) (cub.out i x hx)
        have e3 := cell_later (bud.trans hW) (cuc.out i y hy)
        have e4 := cell_later hW (cud.out i z hz)
        rw [sua] at e2
        rw [sub, sua] at e3
        rw [suc, sub, sua] at e4
        exact ⟨e1, e2, e3, e4⟩
      have HB3 : Hid (Bw w ud) := HB2.out.trans (bua.trans (bub.trans (buc.trans bud)))
      clear cua cub cuc cud bua bub buc bud sua sub suc sud hua hub huc hud hbv1 hbv2 hbv3 hbv4 hbv5 hbv6 hbv7 hbv8 hbv9 HB1 HB2
      go_loopw [0, 19] (fun r i wr => ∃ k : Nat, k ≤ 5 ∧ r = .bool false ∧ i = .int .i64 (k : Int) ∧ Bw ud wr) (fun _ i _ => 5 - (intOf i).toNat)
      case atStart => exact ⟨0, by omega, rfl, rfl, Bw.refl _⟩
      case round =>
        obtain ⟨k, hk, rfl, rfl, hb⟩ := hrel
        by_cases hlt : k < 5
        · rcases (show k = 0 ∨ k = 1 ∨ k = 2 ∨ k = 3 ∨ k = 4 by omega) with rfl | rfl | rfl | rfl | rfl
          · obtain ⟨x1, x2, x3, x4⟩ := HC2.out _ hb 0 (by decide) _ _ _ _ rfl rfl rfl rfl
            go_wp2
            go_region_with (go_at_call 8; refine (nlead_any (Nm.S [108]) (Nm.S [46, 46, 47, 99]) (by decide) (by decide) _).mono ?_; rintro e v10 ⟨rfl, hv10⟩; rw [Nm.toList_S, Nm.toList_S, kl0]; have x3' := cell_later hv10 x3; have x4' := cell_later hv10 x4; have hb10 : Bw wr v10 := (by first | exact hv10 | exact (Bw.drewN wr 1).trans hv10 | exact (Bw.drewN wr 2).trans hv10 | exact (Bw.drewN wr 3).trans hv10 | exact (Bw.drewN wr 4).trans hv10 | exact (Bw.drewN wr 5).trans hv10 | exact (Bw.drewN wr 6).trans hv10 | exact (Bw.drewN wr 7).trans hv10 | exact (Bw.drewN wr 8).trans hv10 | exact (Bw.drewN wr 9).trans hv10 | exact (Bw.drewN wr 10).trans hv10))
            all_goals
              go_wp2
              go_roundw
              case rel => first | exact ⟨1, by omega, rfl, by go_num, hb.trans hb10⟩ | exact ⟨1, by omega, rfl, by go_num, (hb.trans hb10).drew⟩ | ((repeat apply Exists.intro); exact ⟨⟨1, by omega, rfl, by go_num, hb.trans hb10⟩, rfl⟩)
              case measure => simp [intOf]
          · obtain ⟨x1, x2, x3, x4⟩ := HC2.out _ hb 1 (by decide) _ _ _ _ rfl rfl rfl rfl
            go_wp2
            go_region_with (go_at_call 8; refine (nlead_any (Nm.S [97, 47, 108]) (Nm.S [46, 46]) (by decide) (by decide) _).mono ?_; rintro e v10 ⟨rfl, hv10⟩; rw [Nm.toList_S, Nm.toList_S, kl1]; have x3' := cell_later hv10 x3; have x4' := cell_later hv10 x4; have hb10 : Bw wr v10 := (by first | exact hv10 | exact (Bw.drewN wr 1).trans hv10 | exact (Bw.drewN wr 2).trans hv10 | exact (Bw.drewN wr 3).trans hv10 | exact (Bw.drewN wr 4).trans hv10 | exact (Bw.drewN wr 5).trans hv10 | exact (Bw.drewN wr 6).trans hv10 | exact (Bw.drewN wr 7).trans hv10 | exact (Bw.drewN wr 8).trans hv10 | exact (Bw.drewN wr 9).trans hv10 | exact (Bw.drewN wr 10).trans hv10))
            all_goals
              go_wp2
              go_roundw
              case rel => first | exact ⟨2, by omega, rfl, by go_num, hb.trans hb10⟩ | exact ⟨2, by omega, rfl, by go_num, (hb.trans hb10).drew⟩ | ((repeat apply Exists.intro); exact ⟨⟨2, by omega, rfl, by go_num, hb.trans hb10⟩, rfl⟩)
              case measure => simp [intOf]
          · obtain ⟨x1, x2, x3, x4⟩ := HC2.out _ hb 2 (by decide) _ _ _ _ rfl rfl rfl rfl
            go_wp2
            go_region_with (go_at_call 8; refine (nlead_any (Nm.S [97, 47, 108]) (Nm.S [47, 99]) (by decide) (by decide) _).mono ?_; rintro e v10 ⟨rfl, hv10⟩; rw [Nm.toList_S, Nm.toList_S, kl2]; have x3' := cell_later hv10 x3; have x4' := cell_later hv10 x4; have hb10 : Bw wr v10 := (by first | exact hv10 | exact (Bw.drewN wr 1).trans hv10 | exact (Bw.drewN wr 2).trans hv10 | exact (Bw.drewN wr 3).trans hv10 | exact (Bw.drewN wr 4).trans hv10 | exact (Bw.drewN wr 5).trans hv10 | exact (Bw.drewN wr 6).trans hv10 | exact (Bw.drewN wr 7).trans hv10 | exact (Bw.drewN wr 8).trans hv10 | exact (Bw.drewN wr 9).trans hv10 | exact (Bw.drewN wr 10).trans hv10))
            all_goals
              go_wp2
              go_roundw
              case rel => first | exact ⟨3, by omega, rfl, by go_num, hb.trans hb10⟩ | exact ⟨3, by omega, rfl, by go_num, (hb.trans hb10).drew⟩ | ((repeat apply Exists.intro); exact ⟨⟨3, by omega, rfl, by go_num, hb.trans hb10⟩, rfl⟩)
              case measure => simp [intOf]
          · obtain ⟨x1, x2, x3, x4⟩ := HC2.out _ hb 3 (by decide) _ _ _ _ rfl rfl rfl rfl
            go_wp2
            go_region_with (go_at_call 8; refine (nlead_any (Nm.S [97, 47, 108]) (Nm.S [120, 47, 46, 47, 121, 47, 47]) (by decide) (by decide) _).mono ?_; rintro e v10 ⟨rfl, hv10⟩; rw [Nm.toList_S, Nm.toList_S, kl3]; have x3' := cell_later hv10 x3; have x4' := cell_later hv10 x4; have hb10 : Bw wr v10 := (by first | exact hv10 | exact (Bw.drewN wr 1).trans hv10 | exact (Bw.drewN wr 2).trans hv10 | exact (Bw.drewN wr 3).trans hv10 | exact (Bw.drewN wr 4).trans hv10 | exact (Bw.drewN wr 5).trans hv10 | exact (Bw.drewN wr 6).trans hv10 | exact (Bw.drewN wr 7).trans hv10 | exact (Bw.drewN wr 8).trans hv10 | exact (Bw.drewN wr 9).trans hv10 | exact (Bw.drewN wr 10).trans hv10))
            all_goals
              go_wp2
              go_roundw
              case rel => first | exact ⟨4, by omega, rfl, by go_num, hb.trans hb10⟩ | exact ⟨4, by omega, rfl, by go_num, (hb.trans hb10).drew⟩ | ((repeat apply Exists.intro); exact ⟨⟨4, by omega, rfl, by go_num, hb.trans hb10⟩, rfl⟩)
              case measure => simp [intOf]
          · obtain ⟨x1, x2, x3, x4⟩ := HC2.out _ hb 4 (by decide) _ _ _ _ rfl rfl rfl rfl
            go_wp2
            go_region_with (go_at_call 8; refine (nlead_any (Nm.S [97, 47, 108]) (Nm.S [46, 46, 97]) (by decide) (by decide) _).mono ?_; rintro e v10 ⟨rfl, hv10⟩; rw [Nm.toList_S, Nm.toList_S, kl4]; have x3' := cell_later hv10 x3; have x4' := cell_later hv10 x4; have hb10 : Bw wr v10 := (by first | exact hv10 | exact (Bw.drewN wr 1).trans hv10 | exact (Bw.drewN wr 2).trans hv10 | exact (Bw.drewN wr 3).trans hv10 | exact (Bw.drewN wr 4).trans hv10 | exact (Bw.drewN wr 5).trans hv10 | exact (Bw.drewN wr 6).trans hv10 | exact (Bw.drewN wr 7).trans hv10 | exact (Bw.drewN wr 8).trans hv10 | exact (Bw.drewN wr 9).trans hv10 | exact (Bw.drewN wr 10).trans hv10))
            all_goals
              go_wp2
              go_roundw
              case rel => first | exact ⟨5, by omega, rfl, by go_num, hb.trans hb10⟩ | exact ⟨5, by omega, rfl, by go_num, (hb.trans hb10).drew⟩ | ((repeat apply Exists.intro); exact ⟨⟨5, by omega, rfl, by go_num, hb.trans hb10⟩, rfl⟩)
              case measure => simp [intOf]
        · obtain rfl : k = 5 := by omega
          have HB4 : Hid (Bw w wr) := HB3.out.trans hb
          rename World => we
          clear hb HC2 HB3 hlt hk
          have z0 : (Nm.S (rp 0)).size = 0 := by rw [Nm.size_S]; rfl
          go_wp2
          go_loop [22, 23] (fun x i => ∃ (k : Nat) (X : ByteArray), k ≤ 90 ∧ x = .string X ∧ i = .int .i64 (k : Int) ∧ Hid (X = Nm.S (rp k))) (fun _ i => 90 - (intOf i).toNat)
          case atStart => exact ⟨0, _, by omega, rfl, rfl, rfl⟩
          case round =>
            obtain ⟨k, X, hk, rfl, rfl, hX⟩ := hrel
            have k0 : (0 : Int) ≤ (k : Int) := Int.natCast_nonneg _
            by_cases hlt : k < 90
            · have t1 : (k : Int) < 90 := by omega
              obtain ⟨Y, hY⟩ := nm_hid (rp (k + 1))
              have r1 : ∀ u : World, (Op.stringOp .add X ⟨#[120]⟩).run Try.prog u = .ok (.string Y) u := fun u => by
                rw [hX.out, show ((⟨#[120]⟩ : ByteArray)) = Nm.S [120] from rfl, add_S _ _ (by unfold rp; rw [List.length_replicate]; simp; omega), rp_succ, hY.out]
              go_wp2
              go_round
              case rel => exact ⟨k + 1, Y, by omega, rfl, by go_num, hY⟩
              case measure => simp [intOf]; omega
            · obtain rfl : k = 90 := by omega
              have zX : X.size = 90 := by rw [hX.out, Nm.size_S]; decide +kernel
              obtain ⟨Y1, hY1⟩ := nm_hid (rp 90 ++ [47])
              obtain ⟨Y2, hY2⟩ := nm_hid (rp 90 ++ [47] ++ rp 90)
              obtain ⟨Y3, hY3⟩ := nm_hid (rp 20)
              obtain ⟨Y4, hY4⟩ := nm_hid (rp 110)
              obtain ⟨N0, hN0⟩ := nm_hid []
              have r1 : ∀ u : World, (Op.stringOp .add X ⟨#[47]⟩).run Try.prog u = .ok (.string Y1) u := fun u => by
                rw [hX.out, show ((⟨#[47]⟩ : ByteArray)) = Nm.S [47] from rfl, hY1.out, add_S _ _ (by decide +kernel)]
              have r2 : ∀ u : World, (Op.stringOp .add Y1 X).run Try.prog u = .ok (.string Y2) u := fun u => by
                rw [hX.out, hY1.out, hY2.out, add_S _ _ (by decide +kernel)]
              have x3 : X.extract 0 20 = Y3 := by rw [Nm.extract_to, hX.out, hY3.out, Nm.toList_S, rp_take _ _ (by decide)]
              have r4 : ∀ u : World, (Op.stringOp .add X Y3).run Try.prog u = .ok (.string Y4) u := fun u => by
                rw [hX.out, hY3.out, hY4.out, add_S _ _ (by decide +kernel), rp_add]
              have z2 : Y2.size = 181 := by rw [hY2.out, Nm.size_S]; decide +kernel
              have z4 : Y4.size = 110 := by rw [hY4.out, Nm.size_S]; decide +kernel
              have l2 : Hid (Y2.toList = rp 90 ++ [47] ++ rp 90) := by show _ = _; rw [hY2.out, Nm.toList_S]
              have l4 : Hid (Y4.toList = rp 110) := by show _ = _; rw [hY4.out, Nm.toList_S]
              clear hlt hk k0
              go_wp2_with (go_at_call 14; clear tok9; refine (nsplit_any Y2 (by omega) _).mono ?_; rintro e v1 ⟨⟨a', b', er', rfl, hsp'⟩, hv1⟩; rw [l2.out] at hsp'; obtain ⟨rfl, rfl, rfl⟩ := Nm.split_unique s_ll hsp'; clear hsp'; rw [← hX.out])
              go_wp2_with (go_at_call 14; clear tok10; refine (nsplit_any Y4 (by omega) _).mono ?_; rintro e v2 ⟨⟨a', b', er', rfl, hsp'⟩, hv2⟩; rw [l4.out] at hsp'; obtain ⟨rfl, rfl, rfl⟩ := Nm.split_unique s_l110 hsp'; clear hsp'; rw [← hN0.out])
              go_wp2_with (go_at_call 10; refine (awake8_any _).mono ?_; rintro e v3 ⟨rfl, hv3⟩)
              go_wp2_with (go_at_call 19; refine (edges_any X hX.out _).mono ?_; rintro e v4 ⟨rfl, hv4⟩)
              go_ret
              exact ⟨rfl, HB4.out.trans (hv1.trans (hv2.trans (hv3.trans hv4)))⟩
theorem walk  (w : World)  :
    Calls Try.prog 7 #[] w fun e w' => e = .returned (.bool true) ∧ Below w.heap.size w w' := by
  exact known w

set_option maxRecDepth 100000 in
theorem lifted (os : Os) (started : os.Started) (H : Type) (enc : TypeId × Value → H) :
    ReturnsInHanded {} Try.checked os 7 .any (Rows.nameKnownSpec.pre6 enc Try.prog Try.f7 Rows.nameKnownRow.domain false) (Rows.nameKnownSpec.post enc Try.prog Try.f7 false true false false) := by
  refine returnsInHanded_of_change_sized (C := Try.checked) own started (by kernel_rfl) Try.func7
    (ChangeSpec.witness6 (enc := enc) (C := Try.checked) false ⟨#[], #[], []⟩ 8 (by kernel_rfl) (by kernel_rfl) (by kernel_rfl) (by kernel_rfl)) ?_
  intro W base args ds gs before hval0 hW hcnd hsz0 _
  have hval : ∀ (j : Nat) t v, Try.f7.params[j]? = some t → args[j]? = some v → Value.okWide Try.prog W .any base t v := hval0
  have hW' := hW
  obtain ⟨p, q, hA0, hV, rfl, hfz, hnd⟩ := hW
  have hA : DataW.TrodAll enc Try.prog W 0 (fun _ => true) true Try.f7.params.toList args.toList ds p := hA0
  have hsz : (DataW.weightsEach Try.prog (Try.f7.params.toList ++ Rows.nameKnownSpec.plain.varTypes Try.prog) (ds ++ gs)).all (· ≤ reachBytes) = true := hsz0
  rw [Try.params7] at hA hval hsz
  obtain ⟨rfl, rfl, rfl⟩ := trodAll_none hA
  obtain ⟨rfl, rfl⟩ := trodVars_none hV
  clear hA0 hval0
  refine (walk  W ).mono fun e W' ⟨he, bel⟩ => ?_
  subst he
  exact ⟨_, rfl, _, _, _, [], _, [], hW', trodAll_mk1 (shut_bool Try.underlying4 _), trodAll_mk0, rfl, bel.frame _, fun h => by cases h⟩

theorem over : Rows.nameKnownRow.holds Try.pinned (OpenSpec.ofChange Rows.nameKnownSpec) :=
  OpenClaim.holds_of_wide 7 Try.f7 rfl rfl rfl rfl rfl rfl rfl ⟨rfl, rfl, rfl, rfl, rfl⟩ rfl rfl rfl rfl rfl (by kernel_rfl) Try.func7 (by kernel_rfl)
    (of_decide_eq_true (by kernel_rfl)) (by unfold Func.isWrapper; first | (rw [if_pos (by decide +kernel)]; kernel_rfl) | (rw [if_neg (by decide +kernel)]; exact ⟨rfl, rfl⟩))
    (fun os started H enc _ => lifted os started H enc)

theorem proved : Rows.NameKnownSaid := over
#print axioms proved
end Go.Proofs.Ytpkdnockbbppiab.nameKnown
