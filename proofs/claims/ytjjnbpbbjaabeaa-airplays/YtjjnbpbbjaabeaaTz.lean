/- Layer 19: the document's Lose and Hold (written by mktw.py out of tz.base). -/
import Derived.Test.YtjjnbpbbjaabeaaTy
namespace Go.Proofs.Ytjjnbpbbjaabeaa
open Go.RowKit Go.Deep
set_option linter.unusedVariables false
set_option linter.unusedSimpArgs false

set_option maxRecDepth 100000 in
set_option maxHeartbeats 4000000 in
theorem rcarry_no {w : World} {g : Nat} {lv ov : Value} {E : List Raw} {Z : List (Int × Int)} {S : Ai.St} (h : RefX w g lv ov E Z S) (i : Int) (hi : S.has i = false) :
    Calls Try.prog 25 #[.pointer (some ⟨g, 0, none⟩), .int .i64 i] w fun e w' => e = .returned (.tuple #[.agg #[.int .i64 0, .int .i64 0, .slice none 0 0], .bool false]) ∧ Bw w w' := by
  obtain ⟨zr, hzr⟩ : ∃ z, Hid (w.heap.size = z) := ⟨_, rfl⟩
  obtain ⟨W1, hW1⟩ : ∃ W, Hid (w.alloc (.cells #[.int .i64 0, .int .i64 0, .slice none 0 0] 35) = W) := ⟨_, rfl⟩
  have kW : Bw w W1 := by rw [← hW1.out]; exact bw_allocx (Bw.refl _)
  have hDr : DgAt W1 zr 0 0 (.slice none 0 0) := by rw [← hW1.out, ← hzr.out]; exact heap_alloc_new _ _
  have hzw : Hid (w.heap.size ≤ zr) := Nat.le_of_eq hzr.out
  have hkW : Hid (Bw w W1) := kW
  have HDr : Hid (∀ u, Bw W1 u → DgAt u zr 0 0 (.slice none 0 0)) := fun u ku => (ku.block zr (Array.getElem?_eq_some_iff.1 hDr).1).trans hDr
  have HA : Hid (Calls Try.prog 31 #[.pointer (some ⟨g, 0, none⟩), .int .i64 i] W1 fun e w' => e = .returned (.tuple #[.agg #[.int .i64 0, .int .i64 0, .slice none 0 0], .bool false]) ∧ Bw W1 w') := rat_no (h.keep kW) i hi
  clear h hi kW hDr
  go_enter Try.func25, Try.ntmps25
  go_upto_region 1 with fail
  rw [hW1.out, hzr.out]
  go_upto_region 2 with (first
    | (go_at_call 31; refine HA.out.mono ?_; rintro e w1 ⟨rfl, kk1⟩; obtain ⟨z, W2, X, hz, hW2, hD2, hX, ho2, hE2, hkX⟩ := dg_box w1 0 0 (v := .slice none 0 0) rfl)
    | (rw [hW2.out, hz.out]; refine wpList_store_row rfl 35 _ _ rfl z (dcs 0 0 (.slice none 0 0)) rfl rfl 35 _ hD2.out (dg_info _ _ _) rfl (dg_all _ _ rfl).out ?_; rw [hX.out]))
  have hE3 := hE2.out
  have hE4 := HDr.out X (Bw.trans kk1 hkX.out)
  clear hW2 hz hD2 hX hE2
  go_wp2_with (first
    | refine wpList_load_row rfl 35 _ rfl z rfl 35 (dcs 0 0 (.slice none 0 0)) (0, 0) _ hE3 Try.underlying35 rfl (dg_info _ _ _) ?_
    | refine wpList_store_row rfl 35 _ _ rfl zr (dcs 0 0 (.slice none 0 0)) rfl rfl 35 _ hE4 (dg_info _ _ _) rfl (dg_all _ _ rfl).out ?_)
  try simp only [Exit.inBlock, Exit.then]
  refine bodyPost_ret (results_row_tmp (p := 4) (u := 5) (by rfl) _ _ zr 35 (dcs 0 0 (.slice none 0 0)) (0, 0) _ (by rfl) (setRow_heap _ _ _ _ _ _ hE4) Try.underlying35 rfl (dg_info _ _ _)) rfl ?_
  exact ⟨rfl, bw_setRow (hkW.out.trans (Bw.trans kk1 hkX.out)) hzw.out _⟩
/-- Lose out of Carry's answer -/
theorem rlose_gen {w : World} {g : Nat} (i x y : Int) (v : Value) (b : Bool) (R : World → Prop) (ho : v.oneCell' = true) (hR : ∀ u u', R u → Bw u u' → R u')
    (HC : Calls Try.prog 25 #[.pointer (some ⟨g, 0, none⟩), .int .i64 i] w fun e w' => e = .returned (.tuple #[.agg #[.int .i64 x, .int .i64 y, v], .bool b]) ∧ R w') :
    Calls Try.prog 26 #[.pointer (some ⟨g, 0, none⟩), .int .i64 i] w fun e w' => e = .returned (.bool b) ∧ R w' := by
  have HC1 : Hid (Calls Try.prog 25 #[.pointer (some ⟨g, 0, none⟩), .int .i64 i] w fun e w' => e = .returned (.tuple #[.agg #[.int .i64 x, .int .i64 y, v], .bool b]) ∧ Hid (R w')) := HC
  have HRR : Hid (∀ u u', R u → Bw u u' → R u') := hR
  have hoH : Hid (v.oneCell' = true) := ho
  clear HC hR ho
  go_enter Try.func26, Try.ntmps26
  go_upto_region 2 with (first
    | (go_at_call 25; refine HC1.out.mono ?_; rintro e w1 ⟨rfl, hr1⟩; obtain ⟨z, W2, X, hz, hW2, hD2, hX, ho2, hE2, hkX⟩ := dg_box w1 x y hoH.out)
    | (rw [hW2.out, hz.out]; refine wpList_store_row rfl 35 _ _ rfl z (dcs x y v) rfl rfl 35 _ hD2.out (dg_info _ _ _) rfl (dg_all _ _ ho2.out).out ?_; rw [hX.out]))
  go_wp2
  go_ret
  exact ⟨rfl, HRR.out _ _ hr1.out hkX.out⟩
theorem rhold_no {w : World} {g : Nat} (i : Int)
    (HC : Calls Try.prog 25 #[.pointer (some ⟨g, 0, none⟩), .int .i64 i] w fun e w' => e = .returned (.tuple #[.agg #[.int .i64 0, .int .i64 0, .slice none 0 0], .bool false]) ∧ Bw w w') :
    Calls Try.prog 28 #[.pointer (some ⟨g, 0, none⟩), .int .i64 i] w fun e w' => e = .returned (.bool false) ∧ Bw w w' := by
  have HC1 : Hid (Calls Try.prog 25 #[.pointer (some ⟨g, 0, none⟩), .int .i64 i] w fun e w' => e = .returned (.tuple #[.agg #[.int .i64 0, .int .i64 0, .slice none 0 0], .bool false]) ∧ Bw w w') := HC
  clear HC
  go_enter Try.func28, Try.ntmps28
  go_upto_region 2 with (first
    | (go_at_call 25; refine HC1.out.mono ?_; rintro e w1 ⟨rfl, hr1⟩; obtain ⟨z, W2, X, hz, hW2, hD2, hX, ho2, hE2, hkX⟩ := dg_box w1 0 0 (v := .slice none 0 0) rfl)
    | (rw [hW2.out, hz.out]; refine wpList_store_row rfl 35 _ _ rfl z (dcs 0 0 (.slice none 0 0)) rfl rfl 35 _ hD2.out (dg_info _ _ _) rfl (dg_all _ _ rfl).out ?_; rw [hX.out]))
  go_wp2
  go_ret
  exact ⟨rfl, Bw.trans hr1 hkX.out⟩
/-- how the document's Hold ends -/
def RHold (w : World) (g : Nat) (lv ov : Value) (E : List Raw) (Z : List (Int × Int)) (S : Ai.St) (k : Nat) (r : Raw) (w' : World) : Prop := ∃ lv', RefX w' g lv' ov (E.eraseIdx k ++ [r]) Z (S.hold (k : Int)) ∧ (∀ b, lv'.ownBlock = some b → w.heap.size ≤ b) ∧ Bx (rIn g lv ov) w w'
set_option maxRecDepth 100000 in
set_option maxHeartbeats 8000000 in
theorem rhold_yes {w : World} {g : Nat} {lv ov : Value} {E : List Raw} {Z : List (Int × Int)} {S : Ai.St} (h : RefX w g lv ov E Z S) {k : Nat} {r : Raw} (hr : E[k]? = some r) :
    Calls Try.prog 28 #[.pointer (some ⟨g, 0, none⟩), .int .i64 (k : Int)] w fun e w' => e = .returned (.bool true) ∧ RHold w g lv ov E Z S k r w' := by
  have hkE := (List.getElem?_eq_some_iff.1 hr).1
  have hk : k < S.L.length := by rw [← h.len]; exact hkE
  have ho := h.dgs.cellOne r (List.mem_of_getElem? hr)
  have hre : r ∈ E := List.mem_of_getElem? hr
  obtain ⟨r', d, hr', hd, e1, e2, hrow⟩ := h.dgs.get hk
  obtain rfl : r' = r := by rw [hr] at hr'; exact (Option.some.inj hr').symm
  have hat : S.at (k : Int) = d := by rw [Ai.at_of hk]; rw [List.getElem?_eq_getElem hk] at hd; exact Option.some.inj hd
  have hlose : S.lose (k : Int) = { S with L := S.L.eraseIdx k } := by unfold Ai.St.lose; rw [if_pos (Ai.has_of hk), Int.toNat_natCast]
  have hhold : S.hold (k : Int) = { S with L := S.L.eraseIdx k ++ [d] } := by unfold Ai.St.hold; rw [if_pos (Ai.has_of hk), hat, Int.toNat_natCast]
  have hok : ({ S with L := S.L.eraseIdx k ++ [d] } : Ai.St).Ok := by rw [← hhold]; exact Ai.hold_ok h.ok _
  obtain ⟨n, hn⟩ : ∃ n, Hid ((E.eraseIdx k).length = n) := ⟨_, rfl⟩
  have hlf : (n : Int) < 4096 := by
    have h1 := hn.out
    have h2 := h.ok.few
    rw [List.length_eraseIdx, if_pos hkE, h.len] at h1
    omega
  have HC : Hid (Calls Try.prog 25 #[.pointer (some ⟨g, 0, none⟩), .int .i64 (k : Int)] w fun e w' => e = .returned (.tuple #[.agg #[.int .i64 r'.src, .int .i64 r'.dst, r'.v], .bool true]) ∧ Hid (RCarry w g lv ov E Z S k r' w')) := rcarry_yes h hr
  have HH : Hid (∀ w1, RCarry w g lv ov E Z S k r' w1 → ∃ A' c', Hid (∀ u, Bw w1 u → u.cell? ⟨g, 1, none⟩ = some (.slice A' n c')) ∧ Hid (∀ u, Bw w1 u → u.ownsRow 0 35 3 (.slice A' n c') n (flat (E.eraseIdx k))) ∧
      Hid (∀ (W : World) (g2 c2 : Nat) (w2 : World), Bw w1 W → w2.ownsRow 0 35 3 (.slice (some ⟨g2, 0, none⟩) (n + 1) c2) (n + 1) (flat (E.eraseIdx k) ++ [.int .i64 r'.src, .int .i64 r'.dst, r'.v]) → (W.alloc (.cells #[.int .i64 r'.src, .int .i64 r'.dst, r'.v] 35)).grownBy w2 (Value.slice A' n c').ownBlock → ((Value.slice A' n c').ownBlock = some g2 ∨ g2 = W.heap.size + 1) →
          (w2.cell? ⟨g, 1, none⟩ = some (.slice A' n c') ∧ w2.frozen? ⟨g, 1, none⟩ = false) ∧ RHold w g lv ov E Z S k r' (w2.setCell ⟨g, 1, none⟩ (.slice (some ⟨g2, 0, none⟩) (n + 1) c2)))) := fun w1 hC => by
    obtain ⟨lv', hA, hge, hx⟩ := hC
    rw [hlose] at hA
    obtain ⟨A', c', elv⟩ := hA.form
    have hl2 : (S.L.eraseIdx k).length = n := by rw [← hA.len, hn.out]
    have elv2 : lv' = .slice A' n c' := by rw [elv]; show Value.slice A' (S.L.eraseIdx k).length c' = _; rw [hl2]
    have hrow1 : RowV w1 r'.v d.b := hrow.keepx hx (h.sep r' hre)
    have hlow := hrow.low
    have hvin : VIn (fun b => ¬ rIn g lv' ov b) r'.v := fun b o m c e h0 hb => by
      have q1 := h.sep r' hre b o m c e h0
      have q2 := hlow b o m c e h0
      rcases hb with hb | hb | hb
      · exact q1 (.inl hb)
      · have := hge b hb; omega
      · exact q1 (.inr (.inr hb))
    refine ⟨A', c', fun u ku => by rw [(hA.keep ku).c1, elv2], fun u ku => ?_, fun W g2 c2 w2 kW own2 gr at2 => ?_⟩
    · have h1 := ((hA.und.keep ku).own (base := 0) (fun _ _ => Nat.zero_le _))
      rw [hn.out, elv2] at h1
      exact h1
    · rw [← elv2] at gr at2 ⊢
      obtain ⟨q1, q2, q3, q4⟩ := hA.pushX kW e1 e2 (hrow1.keep kW) hvin hn.out own2 gr at2 hok
      refine ⟨q1, ⟨_, by rw [hhold]; exact q2, fun b hb => ?_, ?_⟩⟩
      · rcases q3 b hb with q5 | q5
        · exact hge b q5
        · exact Nat.le_trans hx.size q5
      · exact hx.new q4 (fun b hb hr2 => by
          rcases hr2 with hr2 | hr2 | hr2
          · exact .inl hr2
          · have := hge b hr2; omega
          · exact .inr (.inr hr2))
  obtain ⟨i0, hi0, hz0, hz1, hz2⟩ := info_parts infoD
  have few1 : Hid (n + 1 ≤ maxLen) := by show _ ≤ _; unfold maxLen; omega
  have few2 : Hid ((n + 1) * 40 ≤ 140737488355328) := by show _ ≤ _; omega
  have HEnd : Hid (∀ W, RHold w g lv ov E Z S k r' W → RHold w g lv ov E Z S k r' W) := fun W h => h
  clear h hr hkE hk hre hr' hd e1 e2 hrow hat hlose hhold hok
  go_enter Try.func28, Try.ntmps28
  go_upto_region 2 with (first
    | (go_at_call 25; refine HC.out.mono ?_; rintro e w1 ⟨rfl, hr1⟩; obtain ⟨A', c', HC1, HOwn, HPush⟩ := HH.out w1 hr1.out; obtain ⟨z, W2, X, hz, hW2, hD2, hX, ho2, hE2, hkX⟩ := dg_box w1 r'.src r'.dst ho)
    | (rw [hW2.out, hz.out]; refine wpList_store_row rfl 35 _ _ rfl z (dcs r'.src r'.dst r'.v) rfl rfl 35 _ hD2.out (dg_info _ _ _) rfl (dg_all _ _ ho2.out).out ?_; rw [hX.out]))
  have HDz : Hid (∀ u, Bw X u → u.rangeAt z 0 [.int .i64 r'.src, .int .i64 r'.dst, r'.v]) := fun u ku => DgAt.range (r := r') ((ku.block z (Array.getElem?_eq_some_iff.1 hE2.out).1).trans hE2.out)
  clear HC HH hr1 hz hW2 hD2 hX hE2 ho2
  go_upto_region 3 with fail
  have kwd : Bw X X.drew := (Bw.refl X).drew
  refine wp_region_held_drew (S := fun _ => True) (by kernel_rfl) trivial (fun hHeld => ?_)
  generalize X.drew = wd at kwd hHeld ⊢
  refine wpAnyH_take (i := 0) (v := ?_) rfl (by kernel_rfl) (by kernel_rfl) (by kernel_rfl) (fun _ _ _ h => h) (Or.inl ⟨by rfl, ?_⟩) trivial ?_
  rotate_left
  · intro w hSw; clear hSw; go_simp; all_goals (with_reducible rfl)
  try simp only [Act.put, List.setIfInBounds_toArray, List.set_cons_zero, List.set_cons_succ, List.getElem_toArray, List.getElem_cons_succ, List.getElem_cons_zero]
  refine wpAnyH_take (i := 1) (v := ?_) rfl (by kernel_rfl) (by kernel_rfl) (by kernel_rfl) (fun _ _ _ h => h) (Or.inl ⟨by rfl, ?_⟩) trivial ?_
  rotate_left
  · intro w hSw; clear hSw; go_simp; all_goals (with_reducible rfl)
  try simp only [Act.put, List.setIfInBounds_toArray, List.set_cons_zero, List.set_cons_succ, List.getElem_toArray, List.getElem_cons_succ, List.getElem_cons_zero]
  refine wpAnyH_take (i := 2) (v := ?_) rfl (by kernel_rfl) (by kernel_rfl) (by kernel_rfl) (fun _ _ _ h => h) (Or.inl ⟨by rfl, ?_⟩) trivial ?_
  rotate_left
  · intro w hSw; clear hSw; go_simp; all_goals (with_reducible rfl)
  try simp only [Act.put, List.setIfInBounds_toArray, List.set_cons_zero, List.set_cons_succ, List.getElem_toArray, List.getElem_cons_succ, List.getElem_cons_zero]
  refine wpAnyH_take (i := 3) (v := ?_) rfl (by kernel_rfl) (by kernel_rfl) (by kernel_rfl) (fun _ _ _ h => h) (Or.inl ⟨by rfl, ?_⟩) trivial ?_
  rotate_left
  · intro w hSw; clear hSw; go_simp; all_goals (with_reducible rfl)
  try simp only [Act.put, List.setIfInBounds_toArray, List.set_cons_zero, List.set_cons_succ, List.getElem_toArray, List.getElem_cons_succ, List.getElem_cons_zero]
  refine wpAnyH_ready (rs := [4, 5]) (by kernel_rfl) (by simp) ?_
  refine (AllReadyH.cons rfl (fun K hK => ?_) (AllReadyH.cons rfl (fun K hK => ?_) AllReadyH.nil))
  · skip
    have c1 := HC1.out wd (hkX.out.trans kwd)
    go_simp
    refine hK.out _ _ trivial (fun hHeld => ?_)
    clear hK K
    try simp only [Act.put, List.setIfInBounds_toArray, List.set_cons_zero, List.set_cons_succ, List.getElem_toArray, List.getElem_cons_succ, List.getElem_cons_zero]
    clear c1
    refine wpAnyH_ready (rs := [5]) (by kernel_rfl) (by simp) ?_
    refine (AllReadyH.cons rfl (fun K hK => ?_) AllReadyH.nil)
    refine step_load_mid (by rfl) 35 _ (by rfl) z 0 (by rfl) [.int .i64 r'.src, .int .i64 r'.dst, r'.v] _ (HDz.out wd kwd) Try.underlying35 rfl (dg_info _ _ r'.v) ?_
    refine hK.out _ _ trivial (fun hHeld => ?_)
    clear hK K
    try simp only [Act.put, List.setIfInBounds_toArray, List.set_cons_zero, List.set_cons_succ, List.getElem_toArray, List.getElem_cons_succ, List.getElem_cons_zero]
    refine wpAnyH_ready (rs := [6]) (by kernel_rfl) (by simp) ?_
    refine (AllReadyH.cons rfl (fun K hK => ?_) AllReadyH.nil)
    go_simp
    refine hK.out _ _ trivial (fun hHeld => ?_)
    clear hK K
    try simp only [Act.put, List.setIfInBounds_toArray, List.set_cons_zero, List.set_cons_succ, List.getElem_toArray, List.getElem_cons_succ, List.getElem_cons_zero]
    refine wpAnyH_ready (rs := [7]) (by kernel_rfl) (by simp) ?_
    refine (AllReadyH.cons rfl (fun K hK => ?_) AllReadyH.nil)
    have kW : Bw w1 wd := hkX.out.trans kwd
    skip
    refine step_append_lies _ (by rfl) (.tmp 18) (.tmp 20) _ (by rfl) 0 35 i0 _ 3 40 Try.underlying50 hi0 hz0 hz1 hz2 rfl (by omega) _ _ _ (by rfl) ((HOwn.out _ kW).alloc _) ⟨wd.heap.size, 0, none⟩ 1 1 [_, _, _] (by rfl) (by rfl) (World.news_of_block (cs := #[_, _, _]) (t := 35) (fr := (0, 0)) (heap_alloc_new wd _)) (by simp [Value.oneCell'] <;> exact ho) (by omega) few1.out few2.out (Nat.zero_le _) (wd.heap.size + 1) (by simp) ?_
    intro g2 c2 w2 hown2 hgrow2 hat2 hlt2
    obtain ⟨⟨d6, f6⟩, hfin⟩ := HPush.out _ g2 c2 w2 kW hown2 hgrow2 hat2
    replace hfin := (show Hid _ from hfin)
    clear hown2 hgrow2 hat2 hlt2
    refine hK.out _ _ trivial (fun hHeld => ?_)
    clear hK K
    try simp only [Act.put, List.setIfInBounds_toArray, List.set_cons_zero, List.set_cons_succ, List.getElem_toArray, List.getElem_cons_succ, List.getElem_cons_zero]
    refine wpAnyH_take (i := 8) (v := ?_) rfl (by kernel_rfl) (by kernel_rfl) (by kernel_rfl) (fun _ _ _ h => h) (Or.inl ⟨by rfl, ?_⟩) trivial ?_
    rotate_left
    · intro w hSw; clear hSw; go_simp; all_goals (with_reducible rfl)
    try simp only [Act.put, List.setIfInBounds_toArray, List.set_cons_zero, List.set_cons_succ, List.getElem_toArray, List.getElem_cons_succ, List.getElem_cons_zero]
    refine wpAnyH_take (i := 9) (v := ?_) rfl (by kernel_rfl) (by kernel_rfl) (by kernel_rfl) (fun _ _ _ h => h) (Or.inl ⟨by rfl, ?_⟩) trivial ?_
    rotate_left
    · intro w hSw; clear hSw; go_simp; all_goals (with_reducible rfl)
    try simp only [Act.put, List.setIfInBounds_toArray, List.set_cons_zero, List.set_cons_succ, List.getElem_toArray, List.getElem_cons_succ, List.getElem_cons_zero]
    refine wpAnyH_ready (rs := [10]) (by kernel_rfl) (by simp) ?_
    refine (AllReadyH.cons rfl (fun K hK => ?_) AllReadyH.nil)
    go_simp
    refine hK.out _ _ trivial (fun hHeld => ?_)
    clear hK K
    try simp only [Act.put, List.setIfInBounds_toArray, List.set_cons_zero, List.set_cons_succ, List.getElem_toArray, List.getElem_cons_succ, List.getElem_cons_zero]
    refine wpAnyH_done (by kernel_rfl) ?_ _
    go_wp2
    go_ret
    exact ⟨rfl, HEnd.out _ hfin.out⟩
  · skip
    refine step_load_mid (by rfl) 35 _ (by rfl) z 0 (by rfl) [.int .i64 r'.src, .int .i64 r'.dst, r'.v] _ (HDz.out wd kwd) Try.underlying35 rfl (dg_info _ _ r'.v) ?_
    refine hK.out _ _ trivial (fun hHeld => ?_)
    clear hK K
    try simp only [Act.put, List.setIfInBounds_toArray, List.set_cons_zero, List.set_cons_succ, List.getElem_toArray, List.getElem_cons_succ, List.getElem_cons_zero]
    refine wpAnyH_ready (rs := [4, 6]) (by kernel_rfl) (by simp) ?_
    refine (AllReadyH.cons rfl (fun K hK => ?_) (AllReadyH.cons rfl (fun K hK => ?_) AllReadyH.nil))
    · skip
      have c1 := HC1.out wd (hkX.out.trans kwd)
      go_simp
      refine hK.out _ _ trivial (fun hHeld => ?_)
      clear hK K
      try simp only [Act.put, List.setIfInBounds_toArray, List.set_cons_zero, List.set_cons_succ, List.getElem_toArray, List.getElem_cons_succ, List.getElem_cons_zero]
      clear c1
      refine wpAnyH_ready (rs := [6]) (by kernel_rfl) (by simp) ?_
      refine (AllReadyH.cons rfl (fun K hK => ?_) AllReadyH.nil)
      go_simp
      refine hK.out _ _ trivial (fun hHeld => ?_)
      clear hK K
      try simp only [Act.put, List.setIfInBounds_toArray, List.set_cons_zero, List.set_cons_succ, List.getElem_toArray, List.getElem_cons_succ, List.getElem_cons_zero]
      refine wpAnyH_ready (rs := [7]) (by kernel_rfl) (by simp) ?_
      refine (AllReadyH.cons rfl (fun K hK => ?_) AllReadyH.nil)
      have kW : Bw w1 wd := hkX.out.trans kwd
      skip
      refine step_append_lies _ (by rfl) (.tmp 18) (.tmp 20) _ (by rfl) 0 35 i0 _ 3 40 Try.underlying50 hi0 hz0 hz1 hz2 rfl (by omega) _ _ _ (by rfl) ((HOwn.out _ kW).alloc _) ⟨wd.heap.size, 0, none⟩ 1 1 [_, _, _] (by rfl) (by rfl) (World.news_of_block (cs := #[_, _, _]) (t := 35) (fr := (0, 0)) (heap_alloc_new wd _)) (by simp [Value.oneCell'] <;> exact ho) (by omega) few1.out few2.out (Nat.zero_le _) (wd.heap.size + 1) (by simp) ?_
      intro g2 c2 w2 hown2 hgrow2 hat2 hlt2
      obtain ⟨⟨d6, f6⟩, hfin⟩ := HPush.out _ g2 c2 w2 kW hown2 hgrow2 hat2
      replace hfin := (show Hid _ from hfin)
      clear hown2 hgrow2 hat2 hlt2
      refine hK.out _ _ trivial (fun hHeld => ?_)
      clear hK K
      try simp only [Act.put, List.setIfInBounds_toArray, List.set_cons_zero, List.set_cons_succ, List.getElem_toArray, List.getElem_cons_succ, List.getElem_cons_zero]
      refine wpAnyH_take (i := 8) (v := ?_) rfl (by kernel_rfl) (by kernel_rfl) (by kernel_rfl) (fun _ _ _ h => h) (Or.inl ⟨by rfl, ?_⟩) trivial ?_
      rotate_left
      · intro w hSw; clear hSw; go_simp; all_goals (with_reducible rfl)
      try simp only [Act.put, List.setIfInBounds_toArray, List.set_cons_zero, List.set_cons_succ, List.getElem_toArray, List.getElem_cons_succ, List.getElem_cons_zero]
      refine wpAnyH_take (i := 9) (v := ?_) rfl (by kernel_rfl) (by kernel_rfl) (by kernel_rfl) (fun _ _ _ h => h) (Or.inl ⟨by rfl, ?_⟩) trivial ?_
      rotate_left
      · intro w hSw; clear hSw; go_simp; all_goals (with_reducible rfl)
      try simp only [Act.put, List.setIfInBounds_toArray, List.set_cons_zero, List.set_cons_succ, List.getElem_toArray, List.getElem_cons_succ, List.getElem_cons_zero]
      refine wpAnyH_ready (rs := [10]) (by kernel_rfl) (by simp) ?_
      refine (AllReadyH.cons rfl (fun K hK => ?_) AllReadyH.nil)
      go_simp
      refine hK.out _ _ trivial (fun hHeld => ?_)
      clear hK K
      try simp only [Act.put, List.setIfInBounds_toArray, List.set_cons_zero, List.set_cons_succ, List.getElem_toArray, List.getElem_cons_succ, List.getElem_cons_zero]
      refine wpAnyH_done (by kernel_rfl) ?_ _
      go_wp2
      go_ret
      exact ⟨rfl, HEnd.out _ hfin.out⟩
    · skip
      go_simp
      refine hK.out _ _ trivial (fun hHeld => ?_)
      clear hK K
      try simp only [Act.put, List.setIfInBounds_toArray, List.set_cons_zero, List.set_cons_succ, List.getElem_toArray, List.getElem_cons_succ, List.getElem_cons_zero]
      refine wpAnyH_ready (rs := [4]) (by kernel_rfl) (by simp) ?_
      refine (AllReadyH.cons rfl (fun K hK => ?_) AllReadyH.nil)
      have c1 : ∀ o, (wd.alloc o).cell? ⟨g, 1, none⟩ = _ := fun o => HC1.out _ (bw_allocx (hkX.out.trans kwd))
      go_simp
      refine hK.out _ _ trivial (fun hHeld => ?_)
      clear hK K
      try simp only [Act.put, List.setIfInBounds_toArray, List.set_cons_zero, List.set_cons_succ, List.getElem_toArray, List.getElem_cons_succ, List.getElem_cons_zero]
      clear c1
      refine wpAnyH_ready (rs := [7]) (by kernel_rfl) (by simp) ?_
      refine (AllReadyH.cons rfl (fun K hK => ?_) AllReadyH.nil)
      have kW : Bw w1 wd := hkX.out.trans kwd
      skip
      refine step_append_lies _ (by rfl) (.tmp 18) (.tmp 20) _ (by rfl) 0 35 i0 _ 3 40 Try.underlying50 hi0 hz0 hz1 hz2 rfl (by omega) _ _ _ (by rfl) ((HOwn.out _ kW).alloc _) ⟨wd.heap.size, 0, none⟩ 1 1 [_, _, _] (by rfl) (by rfl) (World.news_of_block (cs := #[_, _, _]) (t := 35) (fr := (0, 0)) (heap_alloc_new wd _)) (by simp [Value.oneCell'] <;> exact ho) (by omega) few1.out few2.out (Nat.zero_le _) (wd.heap.size + 1) (by simp) ?_
      intro g2 c2 w2 hown2 hgrow2 hat2 hlt2
      obtain ⟨⟨d6, f6⟩, hfin⟩ := HPush.out _ g2 c2 w2 kW hown2 hgrow2 hat2
      replace hfin := (show Hid _ from hfin)
      clear hown2 hgrow2 hat2 hlt2
      refine hK.out _ _ trivial (fun hHeld => ?_)
      clear hK K
      try simp only [Act.put, List.setIfInBounds_toArray, List.set_cons_zero, List.set_cons_succ, List.getElem_toArray, List.getElem_cons_succ, List.getElem_cons_zero]
      refine wpAnyH_take (i := 8) (v := ?_) rfl (by kernel_rfl) (by kernel_rfl) (by kernel_rfl) (fun _ _ _ h => h) (Or.inl ⟨by rfl, ?_⟩) trivial ?_
      rotate_left
      · intro w hSw; clear hSw; go_simp; all_goals (with_reducible rfl)
      try simp only [Act.put, List.setIfInBounds_toArray, List.set_cons_zero, List.set_cons_succ, List.getElem_toArray, List.getElem_cons_succ, List.getElem_cons_zero]
      refine wpAnyH_take (i := 9) (v := ?_) rfl (by kernel_rfl) (by kernel_rfl) (by kernel_rfl) (fun _ _ _ h => h) (Or.inl ⟨by rfl, ?_⟩) trivial ?_
      rotate_left
      · intro w hSw; clear hSw; go_simp; all_goals (with_reducible rfl)
      try simp only [Act.put, List.setIfInBounds_toArray, List.set_cons_zero, List.set_cons_succ, List.getElem_toArray, List.getElem_cons_succ, List.getElem_cons_zero]
      refine wpAnyH_ready (rs := [10]) (by kernel_rfl) (by simp) ?_
      refine (AllReadyH.cons rfl (fun K hK => ?_) AllReadyH.nil)
      go_simp
      refine hK.out _ _ trivial (fun hHeld => ?_)
      clear hK K
      try simp only [Act.put, List.setIfInBounds_toArray, List.set_cons_zero, List.set_cons_succ, List.getElem_toArray, List.getElem_cons_succ, List.getElem_cons_zero]
      refine wpAnyH_done (by kernel_rfl) ?_ _
      go_wp2
      go_ret
      exact ⟨rfl, HEnd.out _ hfin.out⟩
end Go.Proofs.Ytjjnbpbbjaabeaa
