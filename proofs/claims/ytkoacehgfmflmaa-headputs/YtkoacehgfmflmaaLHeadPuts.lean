/- Proved: for every head the statement HeadPuts answers true (the document's P10.1 and P10.5: every Put and Full), with no condition but the reach. -/
import Derived.Test.YtkoacehgfmflmaaI4
import Derived.Test.YtkoacehgfmflmaaX1
import Derived.Test.YtkoacehgfmflmaaFh
import Derived.ShutString
import Derived.ChangeOld
namespace Go.Proofs.Ytkoacehgfmflmaa.headPuts
open Go.ChangeShapes Go.WideShapes Go.ChangeAt Go.RowKit
set_option linter.unusedVariables false

set_option linter.unusedSimpArgs false
theorem hFull_hv (h : Hd.Hdr) (hs : h.pre.length + 1 + h.name.length ≤ 9223372036854775807) (w : World) : Calls Try.prog 12 #[.agg (Hd.hv h)] w fun e w' => e = .returned (.string (Hd.full (Hd.S h.name) (Hd.S h.pre))) ∧ Bw w w' :=
  hFull_any (Hd.S h.name) (Hd.S h.pre) (Hd.S h.link) h.mode h.size h.time _ (by rw [Hd.size_S, Hd.size_S]; exact hs) w
theorem rFull_hv (h : Hd.Hdr) (hs : h.pre.length + 1 + h.name.length ≤ 9223372036854775807) (w : World) : Calls Try.prog 13 #[.agg (Hd.hv h)] w fun e w' => e = .returned (.string (Hd.full (Hd.S h.name) (Hd.S h.pre))) ∧ Bw w w' :=
  rFull_any (Hd.S h.name) (Hd.S h.pre) (Hd.S h.link) h.mode h.size h.time _ (by rw [Hd.size_S, Hd.size_S]; exact hs) w
set_option maxRecDepth 100000 in
set_option maxHeartbeats 8000000 in
theorem puts_bad (h : Hd.Hdr) (hsm : Hd.Small h) (hs : h.pre.length + 1 + h.name.length ≤ 9223372036854775807) (M : Nat) (hM : Hid (M = Hd.may h)) (hm : M ≠ 0) (w : World) : Calls Try.prog 3 #[.agg (Hd.hv h)] w fun e w' => e = .returned (.bool true) ∧ Below w.heap.size w w' := by
  have hih := info_head h
  obtain ⟨W1, hW1⟩ : ∃ V, V = w.alloc (.cells (Hd.hv h) 23) := ⟨_, rfl⟩
  have hH1 : HeadAt W1 w.heap.size h := by rw [hW1]; exact heap_alloc_new _ _
  have hb1 : Bw w W1 := by rw [hW1]; exact bw_alloc7 (Bw.refl _) _
  obtain ⟨F, hF⟩ : ∃ F, Hid (F = Hd.full (Hd.S h.name) (Hd.S h.pre)) := ⟨_, rfl⟩
  have HM : Hid (Hd.may h ≠ 0) := by rw [← hM.out]; exact hm
  clear hm
  have HS : Hid (h.pre.length + 1 + h.name.length ≤ 9223372036854775807) := hs
  clear hs
  go_enter Try.func3, Try.ntmps3
  go_wp2_with (first
    | (rw [← hW1]; clear hW1; refine wpList_load_row rfl 23 _ rfl w.heap.size rfl 23 (Hd.hv h) (0, 0) _ hH1 Try.underlying23 rfl hih ?_)
    | (go_at_call 9; refine (hPut_any h _).mono ?_; rintro e w2 ⟨h2, -, hw2⟩; obtain rfl := h2 HM.out; rw [← hM.out]; have hH2 := hH1.keep hw2)
    | (refine wpList_load_row rfl 23 _ rfl w.heap.size rfl 23 (Hd.hv h) (0, 0) _ hH2 Try.underlying23 rfl hih ?_)
    | (go_at_call 10; refine (rPut_any h hsm _).mono ?_; rintro e w3 ⟨h3, -, hw3⟩; obtain rfl := h3 HM.out; rw [← hM.out]; have hH3 := hH2.keep hw3))
  have hb3 : Bw w w3 := (hb1.trans hw2).trans hw3
  have hdr : Bw w3 w3.drew := (Below.refl _ _).drew
  refine wp_region_held_drew (S := fun w' => HeadAt w' w.heap.size h) (by kernel_rfl) (hH3.keep hdr) (fun hHeld => ?_)
  refine wpAnyH_take (i := 0) (v := ?_) rfl (by kernel_rfl) (by kernel_rfl) (by kernel_rfl) (fun _ _ _ h => h) (Or.inl ⟨by rfl, ?_⟩) (by assumption) ?_
  rotate_left
  · intro w hSw; (try dsimp only at hSw); go_simp; all_goals (with_reducible rfl)
  try simp only [Act.put, List.setIfInBounds_toArray, List.set_cons_zero, List.set_cons_succ, List.getElem_toArray, List.getElem_cons_succ, List.getElem_cons_zero]
  refine wpAnyH_take (i := 1) (v := ?_) rfl (by kernel_rfl) (by kernel_rfl) (by kernel_rfl) (fun _ _ _ h => h) (Or.inl ⟨by rfl, ?_⟩) (by assumption) ?_
  rotate_left
  · intro w hSw; (try dsimp only at hSw); go_simp; all_goals (with_reducible rfl)
  try simp only [Act.put, List.setIfInBounds_toArray, List.set_cons_zero, List.set_cons_succ, List.getElem_toArray, List.getElem_cons_succ, List.getElem_cons_zero]
  refine wpAnyH_ready (rs := [2]) (by kernel_rfl) (by simp) ?_
  refine AllReadyH.cons rfl (fun K hK => ?_) AllReadyH.nil
  go_simp
  refine (same10_any none none 0 0 0 0 (fun _ => 0) (fun _ => 0) (by omega) (by omega) _ (row_none _) (row_none _)).mono ?_
  rintro e w4 ⟨⟨x, rfl, hx⟩, q, hq⟩
  obtain rfl : x = true := hx.2 ⟨rfl, fun _ _ => rfl⟩
  have hb4 : Bw w3 w4 := by rw [hq]; exact hdr.trans (Bw.drewN _ q)
  clear hq hx
  refine hK.out _ _ (hH3.keep hb4) (fun hHeld => ?_)
  clear hK K
  try simp only [Act.put, List.setIfInBounds_toArray, List.set_cons_zero, List.set_cons_succ, List.getElem_toArray, List.getElem_cons_succ, List.getElem_cons_zero]
  refine wpAnyH_take (i := 3) (v := ?_) rfl (by kernel_rfl) (by kernel_rfl) (by kernel_rfl) (fun _ _ _ h => h) (Or.inl ⟨by rfl, ?_⟩) (by assumption) ?_
  rotate_left
  · intro w hSw; (try dsimp only at hSw); go_simp; all_goals (with_reducible rfl)
  try simp only [Act.put, List.setIfInBounds_toArray, List.set_cons_zero, List.set_cons_succ, List.getElem_toArray, List.getElem_cons_succ, List.getElem_cons_zero]
  refine wpAnyH_take (i := 4) (v := ?_) rfl (by kernel_rfl) (by kernel_rfl) (by kernel_rfl) (fun _ _ _ h => h) (Or.inl ⟨by rfl, ?_⟩) (by assumption) ?_
  rotate_left
  · intro w hSw; (try dsimp only at hSw); go_simp; all_goals (with_reducible rfl)
  try simp only [Act.put, List.setIfInBounds_toArray, List.set_cons_zero, List.set_cons_succ, List.getElem_toArray, List.getElem_cons_succ, List.getElem_cons_zero]
  refine wpAnyH_take (i := 5) (v := ?_) rfl (by kernel_rfl) (by kernel_rfl) (by kernel_rfl) (fun _ _ _ h => h) (Or.inl ⟨by rfl, ?_⟩) (by assumption) ?_
  rotate_left
  · intro w hSw; (try dsimp only at hSw); go_simp; all_goals (with_reducible rfl)
  try simp only [Act.put, List.setIfInBounds_toArray, List.set_cons_zero, List.set_cons_succ, List.getElem_toArray, List.getElem_cons_succ, List.getElem_cons_zero]
  refine wpAnyH_take (i := 6) (v := ?_) rfl (by kernel_rfl) (by kernel_rfl) (by kernel_rfl) (fun _ _ _ h => h) (Or.inl ⟨by rfl, ?_⟩) (by assumption) ?_
  rotate_left
  · intro w hSw; (try dsimp only at hSw); go_simp; all_goals (with_reducible rfl)
  try simp only [Act.put, List.setIfInBounds_toArray, List.set_cons_zero, List.set_cons_succ, List.getElem_toArray, List.getElem_cons_succ, List.getElem_cons_zero]
  refine wpAnyH_take (i := 7) (v := ?_) rfl (by kernel_rfl) (by kernel_rfl) (by kernel_rfl) (fun _ _ _ h => h) (Or.inl ⟨by rfl, ?_⟩) (by assumption) ?_
  rotate_left
  · intro w hSw; (try dsimp only at hSw); go_simp; all_goals (with_reducible rfl)
  try simp only [Act.put, List.setIfInBounds_toArray, List.set_cons_zero, List.set_cons_succ, List.getElem_toArray, List.getElem_cons_succ, List.getElem_cons_zero]
  refine wpAnyH_take (i := 8) (v := ?_) rfl (by kernel_rfl) (by kernel_rfl) (by kernel_rfl) (fun _ _ _ h => h) (Or.inl ⟨by rfl, ?_⟩) (by assumption) ?_
  rotate_left
  · intro w hSw; (try dsimp only at hSw); go_simp; all_goals (with_reducible rfl)
  try simp only [Act.put, List.setIfInBounds_toArray, List.set_cons_zero, List.set_cons_succ, List.getElem_toArray, List.getElem_cons_succ, List.getElem_cons_zero]
  refine wpAnyH_take (i := 9) rfl (by kernel_rfl) (by kernel_rfl) (by kernel_rfl) (fun _ _ _ h => h) (yieldsIf_row10 (by rfl) 23 _ (by rfl) w.heap.size (by rfl) 23 (Hd.hv h) (0, 0) _ (fun _ h => h) Try.underlying23 rfl hih) (by assumption) ?_
  try simp only [Act.put, List.setIfInBounds_toArray, List.set_cons_zero, List.set_cons_succ, List.getElem_toArray, List.getElem_cons_succ, List.getElem_cons_zero]
  refine wpAnyH_take (i := 11) rfl (by kernel_rfl) (by kernel_rfl) (by kernel_rfl) (fun _ _ _ h => h) (yieldsIf_row10 (by rfl) 23 _ (by rfl) w.heap.size (by rfl) 23 (Hd.hv h) (0, 0) _ (fun _ h => h) Try.underlying23 rfl hih) (by assumption) ?_
  try simp only [Act.put, List.setIfInBounds_toArray, List.set_cons_zero, List.set_cons_succ, List.getElem_toArray, List.getElem_cons_succ, List.getElem_cons_zero]
  refine wpAnyH_ready (rs := [10]) (by kernel_rfl) (by simp) ?_
  refine AllReadyH.cons rfl (fun K hK => ?_) AllReadyH.nil
  go_simp
  refine (hFull_hv h HS.out _).mono ?_
  rintro e w5 ⟨rfl, hw5⟩
  rw [← hF.out]
  have hb5 := hb4.trans hw5
  refine hK.out _ _ (hH3.keep hb5) (fun hHeld => ?_)
  clear hK K
  try simp only [Act.put, List.setIfInBounds_toArray, List.set_cons_zero, List.set_cons_succ, List.getElem_toArray, List.getElem_cons_succ, List.getElem_cons_zero]
  refine wpAnyH_ready (rs := [12]) (by kernel_rfl) (by simp) ?_
  refine AllReadyH.cons rfl (fun K hK => ?_) AllReadyH.nil
  go_simp
  refine (rFull_hv h HS.out _).mono ?_
  rintro e w6 ⟨rfl, hw6⟩
  rw [← hF.out]
  have hb6 := hb5.trans hw6
  refine hK.out _ _ (hH3.keep hb6) (fun hHeld => ?_)
  clear hK K
  try simp only [Act.put, List.setIfInBounds_toArray, List.set_cons_zero, List.set_cons_succ, List.getElem_toArray, List.getElem_cons_succ, List.getElem_cons_zero]
  refine wpAnyH_take (i := 13) (v := ?_) rfl (by kernel_rfl) (by kernel_rfl) (by kernel_rfl) (fun _ _ _ h => h) (Or.inl ⟨by rfl, ?_⟩) (by assumption) ?_
  rotate_left
  · intro w hSw; (try dsimp only at hSw); go_simp; all_goals (with_reducible rfl)
  try simp only [Act.put, List.setIfInBounds_toArray, List.set_cons_zero, List.set_cons_succ, List.getElem_toArray, List.getElem_cons_succ, List.getElem_cons_zero]
  refine wpAnyH_take (i := 14) (v := ?_) rfl (by kernel_rfl) (by kernel_rfl) (by kernel_rfl) (fun _ _ _ h => h) (Or.inl ⟨by rfl, ?_⟩) (by assumption) ?_
  rotate_left
  · intro w hSw; (try dsimp only at hSw); go_simp; all_goals (with_reducible rfl)
  try simp only [Act.put, List.setIfInBounds_toArray, List.set_cons_zero, List.set_cons_succ, List.getElem_toArray, List.getElem_cons_succ, List.getElem_cons_zero]
  refine wpAnyH_take (i := 15) (v := ?_) rfl (by kernel_rfl) (by kernel_rfl) (by kernel_rfl) (fun _ _ _ h => h) (Or.inl ⟨by rfl, ?_⟩) (by assumption) ?_
  rotate_left
  · intro w hSw; (try dsimp only at hSw); go_simp; all_goals (with_reducible rfl)
  try simp only [Act.put, List.setIfInBounds_toArray, List.set_cons_zero, List.set_cons_succ, List.getElem_toArray, List.getElem_cons_succ, List.getElem_cons_zero]
  refine wpAnyH_done (by kernel_rfl) ?_ _
  go_wp2
  go_ret
  exact ⟨rfl, hb3.trans hb6⟩
set_option maxRecDepth 100000 in
set_option maxHeartbeats 8000000 in
theorem puts_good (h : Hd.Hdr) (hsm : Hd.Small h) (hs : h.pre.length + 1 + h.name.length ≤ 9223372036854775807) (hm : Hd.may h = 0) (w : World) : Calls Try.prog 3 #[.agg (Hd.hv h)] w fun e w' => e = .returned (.bool true) ∧ Below w.heap.size w w' := by
  have hih := info_head h
  obtain ⟨W1, hW1⟩ : ∃ V, V = w.alloc (.cells (Hd.hv h) 23) := ⟨_, rfl⟩
  have hH1 : HeadAt W1 w.heap.size h := by rw [hW1]; exact heap_alloc_new _ _
  have hb1 : Bw w W1 := by rw [hW1]; exact bw_alloc7 (Bw.refl _) _
  obtain ⟨F, hF⟩ : ∃ F, Hid (F = Hd.full (Hd.S h.name) (Hd.S h.pre)) := ⟨_, rfl⟩
  have HM : Hid (Hd.may h = 0) := hm
  have HL : Hid ((Hd.layB h).length = 512) := Hd.lay_len (Hd.may_good hm)
  clear hm
  have HS : Hid (h.pre.length + 1 + h.name.length ≤ 9223372036854775807) := hs
  clear hs
  go_enter Try.func3, Try.ntmps3
  go_wp2_with (first
    | (rw [← hW1]; clear hW1; refine wpList_load_row rfl 23 _ rfl w.heap.size rfl 23 (Hd.hv h) (0, 0) _ hH1 Try.underlying23 rfl hih ?_)
    | (go_at_call 9; refine (hPut_any h _).mono ?_; rintro e w2 ⟨-, h2, hw2⟩; obtain ⟨b, rfl, hn2⟩ := h2 HM.out; have hH2 := hH1.keep hw2)
    | (refine wpList_load_row rfl 23 _ rfl w.heap.size rfl 23 (Hd.hv h) (0, 0) _ hH2 Try.underlying23 rfl hih ?_)
    | (go_at_call 10; refine (rPut_any h hsm _).mono ?_; rintro e w3 ⟨-, h3, hw3⟩; obtain ⟨v, rfl, g3⟩ := h3 HM.out; have hA3 := hn2.arr.keep hw3; obtain ⟨B, cap, rfl, hc1, hc2, hr3, -, -⟩ := g3.row; rw [HL.out] at hr3; rw [HL.out]; have hH3 := hH2.keep hw3))
  have hb3 : Bw w w3 := (hb1.trans hw2).trans hw3
  have hdr : Bw w3 w3.drew := (Below.refl _ _).drew
  refine wp_region_held_drew (S := fun w' => HeadAt w' w.heap.size h) (by kernel_rfl) (hH3.keep hdr) (fun hHeld => ?_)
  refine wpAnyH_take (i := 0) (v := ?_) rfl (by kernel_rfl) (by kernel_rfl) (by kernel_rfl) (fun _ _ _ h => h) (Or.inl ⟨by rfl, ?_⟩) (by assumption) ?_
  rotate_left
  · intro w hSw; (try dsimp only at hSw); go_simp; all_goals (with_reducible rfl)
  try simp only [Act.put, List.setIfInBounds_toArray, List.set_cons_zero, List.set_cons_succ, List.getElem_toArray, List.getElem_cons_succ, List.getElem_cons_zero]
  refine wpAnyH_take (i := 1) (v := ?_) rfl (by kernel_rfl) (by kernel_rfl) (by kernel_rfl) (fun _ _ _ h => h) (Or.inl ⟨by rfl, ?_⟩) (by assumption) ?_
  rotate_left
  · intro w hSw; (try dsimp only at hSw); go_simp; all_goals (with_reducible rfl)
  try simp only [Act.put, List.setIfInBounds_toArray, List.set_cons_zero, List.set_cons_succ, List.getElem_toArray, List.getElem_cons_succ, List.getElem_cons_zero]
  refine wpAnyH_ready (rs := [2]) (by kernel_rfl) (by simp) ?_
  refine AllReadyH.cons rfl (fun K hK => ?_) AllReadyH.nil
  go_simp
  refine (same10_any (some ⟨b, 0, none⟩) B 512 512 512 cap (Hd.rowF (Hd.layB h)) (Hd.rowF (Hd.layB h)) (by omega) (by omega) _ ((arr_row512 hA3 HL.out).keep hdr) (hr3.keep hdr)).mono ?_
  rintro e w4 ⟨⟨x, rfl, hx⟩, q, hq⟩
  obtain rfl : x = true := hx.2 ⟨rfl, fun _ _ => rfl⟩
  have hb4 : Bw w3 w4 := by rw [hq]; exact hdr.trans (Bw.drewN _ q)
  clear hq hx
  refine hK.out _ _ (hH3.keep hb4) (fun hHeld => ?_)
  clear hK K
  try simp only [Act.put, List.setIfInBounds_toArray, List.set_cons_zero, List.set_cons_succ, List.getElem_toArray, List.getElem_cons_succ, List.getElem_cons_zero]
  refine wpAnyH_take (i := 3) (v := ?_) rfl (by kernel_rfl) (by kernel_rfl) (by kernel_rfl) (fun _ _ _ h => h) (Or.inl ⟨by rfl, ?_⟩) (by assumption) ?_
  rotate_left
  · intro w hSw; (try dsimp only at hSw); go_simp; all_goals (with_reducible rfl)
  try simp only [Act.put, List.setIfInBounds_toArray, List.set_cons_zero, List.set_cons_succ, List.getElem_toArray, List.getElem_cons_succ, List.getElem_cons_zero]
  refine wpAnyH_take (i := 4) (v := ?_) rfl (by kernel_rfl) (by kernel_rfl) (by kernel_rfl) (fun _ _ _ h => h) (Or.inl ⟨by rfl, ?_⟩) (by assumption) ?_
  rotate_left
  · intro w hSw; (try dsimp only at hSw); go_simp; all_goals (with_reducible rfl)
  try simp only [Act.put, List.setIfInBounds_toArray, List.set_cons_zero, List.set_cons_succ, List.getElem_toArray, List.getElem_cons_succ, List.getElem_cons_zero]
  refine wpAnyH_take (i := 5) (v := ?_) rfl (by kernel_rfl) (by kernel_rfl) (by kernel_rfl) (fun _ _ _ h => h) (Or.inl ⟨by rfl, ?_⟩) (by assumption) ?_
  rotate_left
  · intro w hSw; (try dsimp only at hSw); go_simp; all_goals (with_reducible rfl)
  try simp only [Act.put, List.setIfInBounds_toArray, List.set_cons_zero, List.set_cons_succ, List.getElem_toArray, List.getElem_cons_succ, List.getElem_cons_zero]
  refine wpAnyH_take (i := 6) (v := ?_) rfl (by kernel_rfl) (by kernel_rfl) (by kernel_rfl) (fun _ _ _ h => h) (Or.inl ⟨by rfl, ?_⟩) (by assumption) ?_
  rotate_left
  · intro w hSw; (try dsimp only at hSw); go_simp; all_goals (with_reducible rfl)
  try simp only [Act.put, List.setIfInBounds_toArray, List.set_cons_zero, List.set_cons_succ, List.getElem_toArray, List.getElem_cons_succ, List.getElem_cons_zero]
  refine wpAnyH_take (i := 7) (v := ?_) rfl (by kernel_rfl) (by kernel_rfl) (by kernel_rfl) (fun _ _ _ h => h) (Or.inl ⟨by rfl, ?_⟩) (by assumption) ?_
  rotate_left
  · intro w hSw; (try dsimp only at hSw); go_simp; all_goals (with_reducible rfl)
  try simp only [Act.put, List.setIfInBounds_toArray, List.set_cons_zero, List.set_cons_succ, List.getElem_toArray, List.getElem_cons_succ, List.getElem_cons_zero]
  refine wpAnyH_take (i := 8) (v := ?_) rfl (by kernel_rfl) (by kernel_rfl) (by kernel_rfl) (fun _ _ _ h => h) (Or.inl ⟨by rfl, ?_⟩) (by assumption) ?_
  rotate_left
  · intro w hSw; (try dsimp only at hSw); go_simp; all_goals (with_reducible rfl)
  try simp only [Act.put, List.setIfInBounds_toArray, List.set_cons_zero, List.set_cons_succ, List.getElem_toArray, List.getElem_cons_succ, List.getElem_cons_zero]
  refine wpAnyH_take (i := 9) rfl (by kernel_rfl) (by kernel_rfl) (by kernel_rfl) (fun _ _ _ h => h) (yieldsIf_row10 (by rfl) 23 _ (by rfl) w.heap.size (by rfl) 23 (Hd.hv h) (0, 0) _ (fun _ h => h) Try.underlying23 rfl hih) (by assumption) ?_
  try simp only [Act.put, List.setIfInBounds_toArray, List.set_cons_zero, List.set_cons_succ, List.getElem_toArray, List.getElem_cons_succ, List.getElem_cons_zero]
  refine wpAnyH_take (i := 11) rfl (by kernel_rfl) (by kernel_rfl) (by kernel_rfl) (fun _ _ _ h => h) (yieldsIf_row10 (by rfl) 23 _ (by rfl) w.heap.size (by rfl) 23 (Hd.hv h) (0, 0) _ (fun _ h => h) Try.underlying23 rfl hih) (by assumption) ?_
  try simp only [Act.put, List.setIfInBounds_toArray, List.set_cons_zero, List.set_cons_succ, List.getElem_toArray, List.getElem_cons_succ, List.getElem_cons_zero]
  refine wpAnyH_ready (rs := [10]) (by kernel_rfl) (by simp) ?_
  refine AllReadyH.cons rfl (fun K hK => ?_) AllReadyH.nil
  go_simp
  refine (hFull_hv h HS.out _).mono ?_
  rintro e w5 ⟨rfl, hw5⟩
  rw [← hF.out]
  have hb5 := hb4.trans hw5
  refine hK.out _ _ (hH3.keep hb5) (fun hHeld => ?_)
  clear hK K
  try simp only [Act.put, List.setIfInBounds_toArray, List.set_cons_zero, List.set_cons_succ, List.getElem_toArray, List.getElem_cons_succ, List.getElem_cons_zero]
  refine wpAnyH_ready (rs := [12]) (by kernel_rfl) (by simp) ?_
  refine AllReadyH.cons rfl (fun K hK => ?_) AllReadyH.nil
  go_simp
  refine (rFull_hv h HS.out _).mono ?_
  rintro e w6 ⟨rfl, hw6⟩
  rw [← hF.out]
  have hb6 := hb5.trans hw6
  refine hK.out _ _ (hH3.keep hb6) (fun hHeld => ?_)
  clear hK K
  try simp only [Act.put, List.setIfInBounds_toArray, List.set_cons_zero, List.set_cons_succ, List.getElem_toArray, List.getElem_cons_succ, List.getElem_cons_zero]
  refine wpAnyH_take (i := 13) (v := ?_) rfl (by kernel_rfl) (by kernel_rfl) (by kernel_rfl) (fun _ _ _ h => h) (Or.inl ⟨by rfl, ?_⟩) (by assumption) ?_
  rotate_left
  · intro w hSw; (try dsimp only at hSw); go_simp; all_goals (with_reducible rfl)
  try simp only [Act.put, List.setIfInBounds_toArray, List.set_cons_zero, List.set_cons_succ, List.getElem_toArray, List.getElem_cons_succ, List.getElem_cons_zero]
  refine wpAnyH_take (i := 14) (v := ?_) rfl (by kernel_rfl) (by kernel_rfl) (by kernel_rfl) (fun _ _ _ h => h) (Or.inl ⟨by rfl, ?_⟩) (by assumption) ?_
  rotate_left
  · intro w hSw; (try dsimp only at hSw); go_simp; all_goals (with_reducible rfl)
  try simp only [Act.put, List.setIfInBounds_toArray, List.set_cons_zero, List.set_cons_succ, List.getElem_toArray, List.getElem_cons_succ, List.getElem_cons_zero]
  refine wpAnyH_take (i := 15) (v := ?_) rfl (by kernel_rfl) (by kernel_rfl) (by kernel_rfl) (fun _ _ _ h => h) (Or.inl ⟨by rfl, ?_⟩) (by assumption) ?_
  rotate_left
  · intro w hSw; (try dsimp only at hSw); go_simp; all_goals (with_reducible rfl)
  try simp only [Act.put, List.setIfInBounds_toArray, List.set_cons_zero, List.set_cons_succ, List.getElem_toArray, List.getElem_cons_succ, List.getElem_cons_zero]
  refine wpAnyH_done (by kernel_rfl) ?_ _
  go_wp2
  go_ret
  exact ⟨rfl, hb3.trans hb6⟩
theorem walk (y0 : Hd.Hdr) (w : World) (w0 : InHead y0) :
    Calls Try.prog 3 #[.agg (Hd.hv y0)] w fun e w' => e = .returned (.bool true) ∧ Below w.heap.size w w' := by
  have hsm : Hd.Small y0 := ⟨by have := w0.name; omega, by have := w0.link; omega, by have := w0.pre; omega⟩
  have hs : y0.pre.length + 1 + y0.name.length ≤ 9223372036854775807 := by have := w0.name; have := w0.pre; omega
  by_cases hm : Hd.may y0 = 0
  · exact puts_good y0 hsm hs hm w
  · exact puts_bad y0 hsm hs _ rfl hm w

set_option maxRecDepth 100000 in
theorem lifted (os : Os) (started : os.Started) (H : Type) (enc : TypeId × Value → H) :
    ReturnsInHanded {} Try.checked os 3 .any (Rows.headPutsSpec.pre6 enc Try.prog Try.f3 Rows.headPutsRow.domain false) (Rows.headPutsSpec.post enc Try.prog Try.f3 false true false false) := by
  refine returnsInHanded_of_change_sized (C := Try.checked) own started (by kernel_rfl) Try.func3
    (ChangeSpec.witness6 (enc := enc) (C := Try.checked) false ⟨#[], #[.agg #[.string .empty, .string .empty, .int .i64 0, .int .i64 0, .int .i64 0, .int .u8 0, .string .empty]], []⟩ 8 (by kernel_rfl) (by kernel_rfl) (by kernel_rfl) (by kernel_rfl)) ?_
  intro W base args ds gs before hval0 hW hcnd hsz0 _
  have hval : ∀ (j : Nat) t v, Try.f3.params[j]? = some t → args[j]? = some v → Value.okWide Try.prog W .any base t v := hval0
  have hW' := hW
  obtain ⟨p, q, hA0, hV, rfl, hfz, hnd⟩ := hW
  have hA : DataW.TrodAll enc Try.prog W 0 (fun _ => true) true Try.f3.params.toList args.toList ds p := hA0
  have hsz : (DataW.weightsEach Try.prog (Try.f3.params.toList ++ Rows.headPutsSpec.plain.varTypes Try.prog) (ds ++ gs)).all (· ≤ reachBytes) = true := hsz0
  rw [Try.params3] at hA hval hsz
  obtain ⟨v0, vs0, d0, ds0, p0, q0, hargs, rfl, rfl, h0, r0⟩ := trodAll_cons hA
  obtain ⟨rfl, rfl, rfl⟩ := trodAll_nil r0
  obtain rfl : args = #[v0] := by cases args; simp_all
  obtain ⟨rfl, rfl⟩ := trodVars_none hV
  have k0 := h0
  have lt0 : ∀ x ∈ p0, x.block < W.heap.size := by obtain ⟨m, hm⟩ := k0; exact DataW.trod_lt m _ _ _ hm
  obtain ⟨y0, rfl, w0⟩ := open_head (hval 0 23 v0 rfl rfl) h0 (fun x hx => by simpa using List.all_eq_true.1 hsz x (DataW.weights_mem_each (j := 0) (t := 23) rfl rfl x hx))
  clear hA0 hval0
  refine (walk y0 W w0).mono fun e W' ⟨he, bel⟩ => ?_
  subst he
  exact ⟨_, rfl, _, _, _, [], _, [], hW', trodAll_mk1 (shut_bool Try.underlying4 _), (trodAll_cons_mk (Below.trod laidOut (by kernel_rfl) (of_decide_eq_true (by kernel_rfl)) k0 bel lt0) trodAll_mk0), rfl, bel.frame _, fun h => by cases h⟩

theorem over : Rows.headPutsRow.holds Try.pinned (OpenSpec.ofChange Rows.headPutsSpec) :=
  OpenClaim.holds_of_wide 3 Try.f3 rfl rfl rfl rfl rfl rfl rfl ⟨rfl, rfl, rfl, rfl, rfl⟩ rfl rfl rfl rfl rfl (by kernel_rfl) Try.func3 (by kernel_rfl)
    (of_decide_eq_true (by kernel_rfl)) (by unfold Func.isWrapper; first | (rw [if_pos (by decide +kernel)]; kernel_rfl) | (rw [if_neg (by decide +kernel)]; exact ⟨rfl, rfl⟩))
    (fun os started H enc _ => lifted os started H enc)

theorem proved : Rows.HeadPutsSaid := over
#print axioms proved
end Go.Proofs.Ytkoacehgfmflmaa.headPuts
