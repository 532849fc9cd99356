/- Layer 19: the document's Send (written by mktw.py out of tx.base). -/
import Derived.Test.YtjjnbpbbjaabeaaTw
namespace Go.Proofs.Ytjjnbpbbjaabeaa
open Go.RowKit Go.Deep
set_option linter.unusedVariables false
set_option linter.unusedSimpArgs false

/-- how Send ends -/
def RSendEnds (w : World) (g : Nat) (lv ov : Value) (E : List Raw) (Z : List (Int × Int)) (S : Ai.St) (d : Ai.Dg) (e : Ending) (w' : World) : Prop :=
  e = .returned (.int .i64 (S.sendE d)) ∧ ((S.goes d = true ∧ RPush w g lv ov E Z S d w') ∨ (S.goes d = false ∧ Bw w w'))
set_option maxRecDepth 100000 in
set_option maxHeartbeats 16000000 in
theorem rsend_any {w : World} {g : Nat} {lv ov : Value} {E : List Raw} {Z : List (Int × Int)} {S : Ai.St} (h : RefX w g lv ov E Z S) (hmm : S.m ≤ 1000000) {d : Ai.Dg} {u : Value} (hu : RowV w u d.b) :
    Calls Try.prog 24 #[.pointer (some ⟨g, 0, none⟩), .agg #[.int .i64 d.src, .int .i64 d.dst, u]] w fun e w' => RSendEnds w g lv ov E Z S d e w' := by
  obtain ⟨z, hz⟩ : ∃ z, Hid (w.heap.size = z) := ⟨_, rfl⟩
  obtain ⟨W1, hW1⟩ : ∃ W, Hid (w.alloc (.cells #[.int .i64 d.src, .int .i64 d.dst, u] 35) = W) := ⟨_, rfl⟩
  have kW : Bw w W1 := by rw [← hW1.out]; exact bw_allocx (Bw.refl _)
  have hD : DgAt W1 z d.src d.dst u := by rw [← hW1.out, ← hz.out]; exact heap_alloc_new _ _
  have hsz : z < W1.heap.size := (Array.getElem?_eq_some_iff.1 hD).1
  have HP : Hid (Calls Try.prog 36 #[.pointer (some ⟨g, 0, none⟩), .int .i64 d.src] W1 fun e w' => e = .returned (.bool (S.is d.src)) ∧ w' = W1) := rparty_any (h.keep kW) d.src
  have HQ : Hid (Calls Try.prog 36 #[.pointer (some ⟨g, 0, none⟩), .int .i64 d.dst] W1 fun e w' => e = .returned (.bool (S.is d.dst)) ∧ w' = W1) := rparty_any (h.keep kW) d.dst
  have HI : Hid (Calls Try.prog 32 #[.pointer (some ⟨g, 0, none⟩), .int .i64 d.src, .int .i64 d.dst] W1 fun e w' => e = .returned (.bool (S.cut d.src d.dst)) ∧ w' = W1) := ris_any (h.keep kW) hmm d.src d.dst
  have d0 : W1.cell? ⟨z, 0, none⟩ = some (.int .i64 d.src) := cell_of_row W1 z 0 _ _ _ hD
  have d1 : W1.cell? ⟨z, 1, none⟩ = some (.int .i64 d.dst) := cell_of_row W1 z 1 _ _ _ hD
  have d2 : W1.cell? ⟨z, 2, none⟩ = some u := cell_of_row W1 z 2 _ _ _ hD
  have HNo : Hid (∀ (x : Int) (W : World), S.goes d = false → S.sendE d = x → Bw w W → RSendEnds w g lv ov E Z S d (.returned (.int .i64 x)) W) := fun x W h1 h2 h3 => ⟨by rw [h2], .inr ⟨h1, h3⟩⟩
  by_cases bs : S.is d.src = true
  · rw [bs] at HP
    by_cases bt : S.is d.dst = true
    · rw [bt] at HQ
      have hfit : S.fits d = true := by unfold Ai.St.fits; rw [bs, bt]; rfl
      obtain ⟨A, uc, rfl, hu1, hu2, hu3, hu4⟩ := id hu
      obtain ⟨m, hm⟩ : ∃ m, Hid (d.b.length = m) := ⟨_, rfl⟩
      by_cases bl : 262144 < d.b.length
      · have HE := HNo.out 2 W1 (by unfold Ai.St.goes; rw [hfit, decide_eq_false (by omega)]; rfl) (by unfold Ai.St.sendE; rw [hfit, if_neg (by decide), if_pos bl]) kW
        replace HE := (show Hid _ from HE)
        have b1 : (262144 : Int) < (m : Int) := by rw [← hm.out]; omega
        rw [hm.out] at d2 hW1
        clear h HI HNo hu hu1 hu2 hu3 hu4 bl hfit bs bt hD
        go_enter Try.func24, Try.ntmps24
        rw [hm.out]
        go_upto_region 1 with fail
        rw [hW1.out, hz.out]
        go_wp2_with (go_at_call 36; first | (refine HP.out.mono ?_; clear HP; rintro e w2 ⟨rfl, hw⟩; subst w2) | (refine HQ.out.mono ?_; rintro e w2 ⟨rfl, hw⟩; subst w2))
        go_ret
        exact HE.out
      · have b1 : ¬ (262144 : Int) < (m : Int) := by rw [← hm.out]; omega
        rw [hm.out] at d2 hW1
        by_cases bc : S.cut d.src d.dst = true
        · have HE : Hid (∀ W, Bw w W → RSendEnds w g lv ov E Z S d (.returned (.int .i64 0)) W) := fun W kw => HNo.out 0 W (by unfold Ai.St.goes; rw [bc, Bool.not_true, Bool.and_false, Bool.false_and]) (by unfold Ai.St.sendE; rw [hfit, if_neg (by decide), if_neg bl, if_pos bc]) kw
          rw [bc] at HI
          clear h HNo hu hu1 hu2 hu3 hu4 bl hfit bs bt hD bc
          go_enter Try.func24, Try.ntmps24
          rw [hm.out]
          go_upto_region 1 with fail
          rw [hW1.out, hz.out]
          go_wp2_with (first
            | (go_at_call 36; first | (refine HP.out.mono ?_; clear HP; rintro e w2 ⟨rfl, hw⟩; subst w2) | (refine HQ.out.mono ?_; rintro e w2 ⟨rfl, hw⟩; subst w2))
            | (go_at_call 32; refine HI.out.mono ?_; rintro e w2 ⟨rfl, hw⟩; subst w2))
          go_ret
          exact HE.out _ kW
        · have bc' : S.cut d.src d.dst = false := by cases e : S.cut d.src d.dst; rfl; exact absurd e bc
          rw [bc'] at HI
          by_cases bf : 4096 ≤ S.L.length
          · have HE : Hid (∀ W, Bw w W → RSendEnds w g lv ov E Z S d (.returned (.int .i64 3)) W) := fun W kw => HNo.out 3 W (by unfold Ai.St.goes; rw [decide_eq_false (show ¬ S.L.length < 4096 by omega), Bool.and_false]) (by unfold Ai.St.sendE; rw [hfit, if_neg (by decide), if_neg bl, if_neg bc, if_pos bf]) kw
            obtain ⟨A', cap', e9⟩ := h.form
            obtain ⟨q, hq⟩ : ∃ q, S.L.length = q := ⟨_, rfl⟩
            have c9 : W1.cell? ⟨g, 1, none⟩ = some (.slice A' q cap') := by rw [(h.keep kW).c1, e9, hq]
            have q1 : (4096 : Int) ≤ (q : Int) := by omega
            clear h HNo hu hu1 hu2 hu3 hu4 bl hfit bs bt hD bc bf hq e9
            go_enter Try.func24, Try.ntmps24
            rw [hm.out]
            go_upto_region 1 with fail
            rw [hW1.out, hz.out]
            go_wp2_with (first
              | (go_at_call 36; first | (refine HP.out.mono ?_; clear HP; rintro e w2 ⟨rfl, hw⟩; subst w2) | (refine HQ.out.mono ?_; rintro e w2 ⟨rfl, hw⟩; subst w2))
              | (go_at_call 32; refine HI.out.mono ?_; rintro e w2 ⟨rfl, hw⟩; subst w2))
            go_ret
            exact HE.out _ kW
          · have hgo : S.goes d = true := by unfold Ai.St.goes; rw [hfit, bc', decide_eq_true (show d.b.length ≤ 262144 by omega), decide_eq_true (show S.L.length < 4096 by omega)]; rfl
            have hse : S.sendE d = 0 := by unfold Ai.St.sendE; rw [hfit, if_neg (by decide), if_neg bl, if_neg bc, if_neg bf]
            have hok : ({ S with L := S.L ++ [d] } : Ai.St).Ok := by
              have h1 := Ai.send_ok h.ok d
              unfold Ai.St.send at h1
              rw [if_pos hgo] at h1
              exact h1
            obtain ⟨n, hn⟩ : ∃ n, Hid (E.length = n) := ⟨_, rfl⟩
            have hlf : (n : Int) < 4096 := by have := hn.out; rw [h.len] at this; omega
            obtain ⟨A', cap', e9⟩ := h.form
            have c9 : w.cell? ⟨g, 1, none⟩ = some (.slice A' n cap') := by rw [h.c1, e9, ← h.len, hn.out]
            have ev : lv = .slice A' n cap' := by rw [e9, ← h.len, hn.out]
            have HC1 : Hid (∀ u, Bw w u → u.cell? ⟨g, 1, none⟩ = some (.slice A' n cap')) := fun u ku => (ku.cell (p := ⟨g, 1, none⟩) (block_lt_of_cell c9)).trans c9
            have HOwn : Hid (∀ u, Bw w u → u.ownsRow 0 35 3 (.slice A' n cap') n (flat E)) := fun u ku => by
              have := ((h.und.keep ku).own (base := 0) (fun _ _ => Nat.zero_le _))
              rw [hn.out, ev] at this; exact this
            have HPush0 : Hid (∀ (W : World) (v1 : Value), Bw w W → RowV W v1 d.b → VIn (fun b => w.heap.size ≤ b) v1 → ∀ (g2 c2 : Nat) (w2 : World), w2.ownsRow 0 35 3 (.slice (some ⟨g2, 0, none⟩) (n + 1) c2) (n + 1) (flat E ++ [.int .i64 d.src, .int .i64 d.dst, v1]) → (W.alloc (.cells #[.int .i64 d.src, .int .i64 d.dst, v1] 35)).grownBy w2 (Value.slice A' n cap').ownBlock → ((Value.slice A' n cap').ownBlock = some g2 ∨ g2 = W.heap.size + 1) →
                (w2.cell? ⟨g, 1, none⟩ = some (.slice A' n cap') ∧ w2.frozen? ⟨g, 1, none⟩ = false) ∧ RSendEnds w g lv ov E Z S d (.returned (.int .i64 0)) (w2.setCell ⟨g, 1, none⟩ (.slice (some ⟨g2, 0, none⟩) (n + 1) c2))) := fun W v1 kW1 hr1 hv1 g2 c2 w2 own2 gr at2 => by
              rw [← ev] at gr at2 ⊢
              obtain ⟨q1, q2⟩ := h.push kW1 rfl rfl hr1 (hv1.mono (fun b hb e => by have := h.inlt b e; omega)) (fun Q hE => hv1.mono (fun b hb => .inr hb)) hn.out own2 gr at2 hok
              exact ⟨q1, by rw [hse], .inl ⟨hgo, q2⟩⟩
            obtain ⟨i0, hi0, hz0, hz1, hz2⟩ := info_parts infoD
            obtain ⟨j0, hj0, hy0, hy1, hy2⟩ := info_parts info_u8
            have few1 : Hid (n + 1 ≤ maxLen) := by show _ ≤ _; unfold maxLen; omega
            have few2 : Hid ((n + 1) * 40 ≤ 140737488355328) := by show _ ≤ _; omega
            have hDz : W1.heap[z]? = some (.cells (dcs d.src d.dst (.slice A m uc)) 35 (0, 0)) := by rw [← hm.out]; exact hD
            have hkW : Hid (Bw w W1) := kW
            have hzw : Hid (w.heap.size ≤ z) := Nat.le_of_eq hz.out
            obtain ⟨f, hf⟩ : ∃ f, Hid (rowL d.b = f) := ⟨_, rfl⟩
            have hrow1 : Hid (RowAt W1 A m f) := by
              have h1 := hu4.keep kW
              rw [hm.out, hf.out] at h1
              exact h1
            have hu3x : Hid (A = none → uc = 0) := hu2
            have hmx : 0 + m ≤ maxLen := by rw [← hm.out]; unfold maxLen; omega
            have hmb : m ≤ 262144 := by rw [← hm.out]; omega
            -- the body's copy, in the box
            have HBody : Hid (∀ v2 w2, w2.ownsRow W1.heap.size 5 1 v2 m (cellsU f m) → Bw W1 w2 → ∃ A2 c2, v2 = .slice A2 m c2 ∧ w2.cell? ⟨z, 2, none⟩ = some (.slice A m uc) ∧ w2.frozen? ⟨z, 2, none⟩ = false ∧ Hid (Bw w (w2.setCell ⟨z, 2, none⟩ (.slice A2 m c2)) ∧ DgAt (w2.setCell ⟨z, 2, none⟩ (.slice A2 m c2)) z d.src d.dst (.slice A2 m c2) ∧ RowV (w2.setCell ⟨z, 2, none⟩ (.slice A2 m c2)) (.slice A2 m c2) d.b ∧ VIn (fun b => w.heap.size ≤ b) (.slice A2 m c2))) := fun v2 w2 hown2 bw2 => by
              obtain ⟨A1, c1, e1, hc1, hc2, hr1, hA1⟩ := row_of_own hrow1.out.2 hown2
              have hn1 : A1 = none → c1 = 0 := fun e => by
                rcases hown2.2 with ⟨e2, _⟩ | ⟨g', cap, cur, e2, _⟩
                · rw [e1] at e2; cases e2; rfl
                · rw [e1] at e2; cases e2; cases e
              have hz2 : w2.heap[z]? = some (.cells (dcs d.src d.dst (.slice A m uc)) 35 (0, 0)) := (bw2.block z hsz).trans hDz
              have hX : Bx (· = z) w2 (w2.setCell ⟨z, 2, none⟩ (.slice A1 m c1)) := (Bx.refl _ _).put rfl
              have hv : VIn (fun b => W1.heap.size ≤ b) (.slice A1 m c1) := fun b o n' c' e h0 => by cases e; exact (hA1 _ rfl).1
              refine ⟨A1, c1, e1, cell_of_row w2 z 2 _ _ _ hz2, frozen_of_row w2 z 2 _ _ hz2, (?_ : _ ∧ _)⟩
              refine ⟨Bw.put (hkW.out.trans bw2) hzw.out _ _, heap_setCell_same w2 z 2 _ _ _ hz2, ?_, hv.mono (fun b hb => Nat.le_trans hkW.out.size hb)⟩
              refine RowV.keepx (P := (· = z)) (w := w2) ⟨A1, c1, by rw [hm.out], by rw [hm.out]; exact hc1, hn1, ⟨by rw [hm.out]; omega, by unfold maxLen at hc2; omega⟩, by rw [hm.out, hf.out]; exact hr1⟩ hX (fun b o n' c' e h0 e' => by have := hv b o n' c' e h0; have e2 : b = z := e'; omega)
            have c3 := (HC1.out W1 hkW.out)
            clear h HNo hu hu1 hu2 hu4 bl hfit bs bt hD hDz bc bc' bf c9 e9 ev hok hgo hse kW
            go_enter Try.func24, Try.ntmps24
            rw [hm.out]
            go_upto_region 1 with fail
            rw [hW1.out, hz.out]
            go_upto_region 12 with (first
              | (go_at_call 36; first | (refine HP.out.mono ?_; clear HP; rintro e w2 ⟨rfl, hw⟩; subst w2) | (refine HQ.out.mono ?_; rintro e w2 ⟨rfl, hw⟩; subst w2))
              | (go_at_call 32; refine HI.out.mono ?_; rintro e w2 ⟨rfl, hw⟩; subst w2)
              | (at_builtin; refine wpList_append_rowat _ (by rfl) (.tmp 35) (.tmp 37) _ (by rfl) W1.heap.size 5 j0 _ 1 Try.underlying33 hj0 hy0 hy1 hy2 rfl _ _ _ (by rfl) (own_empty W1 W1.heap.size _ (Nat.le_refl _)) A m uc f (by rfl) (hrow1.out.keep ((Below.refl _ _).alloc (Nat.le_refl _) _)) hu3x.out hmx (by omega) (by simp) ?_; intro v2 w2 hown2 hgrow2; simp only [Nat.zero_add, List.nil_append] at hown2; have bw2 := bw_fresh hgrow2; obtain ⟨A2, c2, ev2, cz, fz, hB2⟩ := HBody.out v2 w2 hown2 bw2; subst ev2; clear hown2 hgrow2))
            obtain ⟨X, hXe⟩ : ∃ X, Hid (w2.setCell ⟨z, 2, none⟩ (.slice A2 m c2) = X) := ⟨_, rfl⟩
            rw [hXe.out] at hB2 ⊢
            have hkX : Hid (Bw w X) := hB2.out.1
            have HDz : Hid (∀ u, Bw X u → u.rangeAt z 0 [.int .i64 d.src, .int .i64 d.dst, .slice A2 m c2]) := fun u ku => DgAt.range (r := ⟨d.src, d.dst, .slice A2 m c2⟩) ((ku.block z (Array.getElem?_eq_some_iff.1 hB2.out.2.1).1).trans hB2.out.2.1)
            have HPush : Hid (∀ (W : World) (g2 c9 : Nat) (w9 : World), Bw X W → w9.ownsRow 0 35 3 (.slice (some ⟨g2, 0, none⟩) (n + 1) c9) (n + 1) (flat E ++ [.int .i64 d.src, .int .i64 d.dst, .slice A2 m c2]) → (W.alloc (.cells #[.int .i64 d.src, .int .i64 d.dst, .slice A2 m c2] 35)).grownBy w9 (Value.slice A' n cap').ownBlock → ((Value.slice A' n cap').ownBlock = some g2 ∨ g2 = W.heap.size + 1) →
                (w9.cell? ⟨g, 1, none⟩ = some (.slice A' n cap') ∧ w9.frozen? ⟨g, 1, none⟩ = false) ∧ RSendEnds w g lv ov E Z S d (.returned (.int .i64 0)) (w9.setCell ⟨g, 1, none⟩ (.slice (some ⟨g2, 0, none⟩) (n + 1) c9))) := fun W g2 c9 w9 kWW => HPush0.out W _ (hkX.out.trans kWW) (hB2.out.2.2.1.keep kWW) hB2.out.2.2.2 g2 c9 w9
            have ho : Hid ((Value.slice A2 m c2).oneCell' = true) := by show _ = _; rfl
            clear HPush0 HBody cz fz hB2 hXe c3 d0 d1 d2
            have kwd : Bw X X.drew := (Bw.refl X).drew
            refine wp_region_held_drew (S := fun _ => True) (by kernel_rfl) trivial (fun hHeld => ?_)
            generalize X.drew = wd at kwd hHeld ⊢
            refine wpAnyH_take (i := 0) (v := ?_) rfl (by kernel_rfl) (by kernel_rfl) (by kernel_rfl) (fun _ _ _ h => h) (Or.inl ⟨by rfl, ?_⟩) trivial ?_
            rotate_left
            · intro w hSw; clear hSw; go_simp; all_goals (with_reducible rfl)
            try simp only [Act.put, List.setIfInBounds_toArray, List.set_cons_zero, List.set_cons_succ, List.getElem_toArray, List.getElem_cons_succ, List.getElem_cons_zero]
            refine wpAnyH_take (i := 1) (v := ?_) rfl (by kernel_rfl) (by kernel_rfl) (by kernel_rfl) (fun _ _ _ h => h) (Or.inl ⟨by rfl, ?_⟩) trivial ?_
            rotate_left
            · intro w hSw; clear hSw; go_simp; all_goals (with_reducible rfl)
            try simp only [Act.put, List.setIfInBounds_toArray, List.set_cons_zero, List.set_cons_succ, List.getElem_toArray, List.getElem_cons_succ, List.getElem_cons_zero]
            refine wpAnyH_take (i := 2) (v := ?_) rfl (by kernel_rfl) (by kernel_rfl) (by kernel_rfl) (fun _ _ _ h => h) (Or.inl ⟨by rfl, ?_⟩) trivial ?_
            rotate_left
            · intro w hSw; clear hSw; go_simp; all_goals (with_reducible rfl)
            try simp only [Act.put, List.setIfInBounds_toArray, List.set_cons_zero, List.set_cons_succ, List.getElem_toArray, List.getElem_cons_succ, List.getElem_cons_zero]
            refine wpAnyH_take (i := 3) (v := ?_) rfl (by kernel_rfl) (by kernel_rfl) (by kernel_rfl) (fun _ _ _ h => h) (Or.inl ⟨by rfl, ?_⟩) trivial ?_
            rotate_left
            · intro w hSw; clear hSw; go_simp; all_goals (with_reducible rfl)
            try simp only [Act.put, List.setIfInBounds_toArray, List.set_cons_zero, List.set_cons_succ, List.getElem_toArray, List.getElem_cons_succ, List.getElem_cons_zero]
            refine wpAnyH_ready (rs := [4, 5]) (by kernel_rfl) (by simp) ?_
            refine (AllReadyH.cons rfl (fun K hK => ?_) (AllReadyH.cons rfl (fun K hK => ?_) AllReadyH.nil))
            · skip
              have c1 := HC1.out wd (hkX.out.trans kwd)
              go_simp
              refine hK.out _ _ trivial (fun hHeld => ?_)
              clear hK K
              try simp only [Act.put, List.setIfInBounds_toArray, List.set_cons_zero, List.set_cons_succ, List.getElem_toArray, List.getElem_cons_succ, List.getElem_cons_zero]
              clear c1
              refine wpAnyH_ready (rs := [5]) (by kernel_rfl) (by simp) ?_
              refine (AllReadyH.cons rfl (fun K hK => ?_) AllReadyH.nil)
              refine step_load_mid (by rfl) 35 _ (by rfl) z 0 (by rfl) [.int .i64 d.src, .int .i64 d.dst, (.slice A2 m c2)] _ (HDz.out wd kwd) Try.underlying35 rfl (dg_info _ _ (.slice A2 m c2)) ?_
              refine hK.out _ _ trivial (fun hHeld => ?_)
              clear hK K
              try simp only [Act.put, List.setIfInBounds_toArray, List.set_cons_zero, List.set_cons_succ, List.getElem_toArray, List.getElem_cons_succ, List.getElem_cons_zero]
              refine wpAnyH_ready (rs := [6]) (by kernel_rfl) (by simp) ?_
              refine (AllReadyH.cons rfl (fun K hK => ?_) AllReadyH.nil)
              go_simp
              refine hK.out _ _ trivial (fun hHeld => ?_)
              clear hK K
              try simp only [Act.put, List.setIfInBounds_toArray, List.set_cons_zero, List.set_cons_succ, List.getElem_toArray, List.getElem_cons_succ, List.getElem_cons_zero]
              refine wpAnyH_ready (rs := [7]) (by kernel_rfl) (by simp) ?_
              refine (AllReadyH.cons rfl (fun K hK => ?_) AllReadyH.nil)
              have kW : Bw w wd := hkX.out.trans kwd
              have kX := kwd
              refine step_append_lies _ (by rfl) (.tmp 44) (.tmp 46) _ (by rfl) 0 35 i0 _ 3 40 Try.underlying50 hi0 hz0 hz1 hz2 rfl (by omega) _ _ _ (by rfl) ((HOwn.out _ kW).alloc _) ⟨wd.heap.size, 0, none⟩ 1 1 [_, _, _] (by rfl) (by rfl) (World.news_of_block (cs := #[_, _, _]) (t := 35) (fr := (0, 0)) (heap_alloc_new wd _)) (by simp [Value.oneCell'] <;> exact ho.out) (by omega) few1.out few2.out (Nat.zero_le _) (wd.heap.size + 1) (by simp) ?_
              intro g2 c2 w2 hown2 hgrow2 hat2 hlt2
              obtain ⟨⟨d6, f6⟩, hfin⟩ := HPush.out _ g2 c2 w2 kX hown2 hgrow2 hat2
              replace hfin := (show Hid _ from hfin)
              clear hown2 hgrow2 hat2 hlt2
              refine hK.out _ _ trivial (fun hHeld => ?_)
              clear hK K
              try simp only [Act.put, List.setIfInBounds_toArray, List.set_cons_zero, List.set_cons_succ, List.getElem_toArray, List.getElem_cons_succ, List.getElem_cons_zero]
              refine wpAnyH_take (i := 8) (v := ?_) rfl (by kernel_rfl) (by kernel_rfl) (by kernel_rfl) (fun _ _ _ h => h) (Or.inl ⟨by rfl, ?_⟩) trivial ?_
              rotate_left
              · intro w hSw; clear hSw; go_simp; all_goals (with_reducible rfl)
              try simp only [Act.put, List.setIfInBounds_toArray, List.set_cons_zero, List.set_cons_succ, List.getElem_toArray, List.getElem_cons_succ, List.getElem_cons_zero]
              refine wpAnyH_take (i := 9) (v := ?_) rfl (by kernel_rfl) (by kernel_rfl) (by kernel_rfl) (fun _ _ _ h => h) (Or.inl ⟨by rfl, ?_⟩) trivial ?_
              rotate_left
              · intro w hSw; clear hSw; go_simp; all_goals (with_reducible rfl)
              try simp only [Act.put, List.setIfInBounds_toArray, List.set_cons_zero, List.set_cons_succ, List.getElem_toArray, List.getElem_cons_succ, List.getElem_cons_zero]
              refine wpAnyH_ready (rs := [10]) (by kernel_rfl) (by simp) ?_
              refine (AllReadyH.cons rfl (fun K hK => ?_) AllReadyH.nil)
              go_simp
              refine hK.out _ _ trivial (fun hHeld => ?_)
              clear hK K
              try simp only [Act.put, List.setIfInBounds_toArray, List.set_cons_zero, List.set_cons_succ, List.getElem_toArray, List.getElem_cons_succ, List.getElem_cons_zero]
              refine wpAnyH_done (by kernel_rfl) ?_ _
              go_wp2
              go_ret
              exact hfin.out
            · skip
              refine step_load_mid (by rfl) 35 _ (by rfl) z 0 (by rfl) [.int .i64 d.src, .int .i64 d.dst, (.slice A2 m c2)] _ (HDz.out wd kwd) Try.underlying35 rfl (dg_info _ _ (.slice A2 m c2)) ?_
              refine hK.out _ _ trivial (fun hHeld => ?_)
              clear hK K
              try simp only [Act.put, List.setIfInBounds_toArray, List.set_cons_zero, List.set_cons_succ, List.getElem_toArray, List.getElem_cons_succ, List.getElem_cons_zero]
              refine wpAnyH_ready (rs := [4, 6]) (by kernel_rfl) (by simp) ?_
              refine (AllReadyH.cons rfl (fun K hK => ?_) (AllReadyH.cons rfl (fun K hK => ?_) AllReadyH.nil))
              · skip
                have c1 := HC1.out wd (hkX.out.trans kwd)
                go_simp
                refine hK.out _ _ trivial (fun hHeld => ?_)
                clear hK K
                try simp only [Act.put, List.setIfInBounds_toArray, List.set_cons_zero, List.set_cons_succ, List.getElem_toArray, List.getElem_cons_succ, List.getElem_cons_zero]
                clear c1
                refine wpAnyH_ready (rs := [6]) (by kernel_rfl) (by simp) ?_
                refine (AllReadyH.cons rfl (fun K hK => ?_) AllReadyH.nil)
                go_simp
                refine hK.out _ _ trivial (fun hHeld => ?_)
                clear hK K
                try simp only [Act.put, List.setIfInBounds_toArray, List.set_cons_zero, List.set_cons_succ, List.getElem_toArray, List.getElem_cons_succ, List.getElem_cons_zero]
                refine wpAnyH_ready (rs := [7]) (by kernel_rfl) (by simp) ?_
                refine (AllReadyH.cons rfl (fun K hK => ?_) AllReadyH.nil)
                have kW : Bw w wd := hkX.out.trans kwd
                have kX := kwd
                refine step_append_lies _ (by rfl) (.tmp 44) (.tmp 46) _ (by rfl) 0 35 i0 _ 3 40 Try.underlying50 hi0 hz0 hz1 hz2 rfl (by omega) _ _ _ (by rfl) ((HOwn.out _ kW).alloc _) ⟨wd.heap.size, 0, none⟩ 1 1 [_, _, _] (by rfl) (by rfl) (World.news_of_block (cs := #[_, _, _]) (t := 35) (fr := (0, 0)) (heap_alloc_new wd _)) (by simp [Value.oneCell'] <;> exact ho.out) (by omega) few1.out few2.out (Nat.zero_le _) (wd.heap.size + 1) (by simp) ?_
                intro g2 c2 w2 hown2 hgrow2 hat2 hlt2
                obtain ⟨⟨d6, f6⟩, hfin⟩ := HPush.out _ g2 c2 w2 kX hown2 hgrow2 hat2
                replace hfin := (show Hid _ from hfin)
                clear hown2 hgrow2 hat2 hlt2
                refine hK.out _ _ trivial (fun hHeld => ?_)
                clear hK K
                try simp only [Act.put, List.setIfInBounds_toArray, List.set_cons_zero, List.set_cons_succ, List.getElem_toArray, List.getElem_cons_succ, List.getElem_cons_zero]
                refine wpAnyH_take (i := 8) (v := ?_) rfl (by kernel_rfl) (by kernel_rfl) (by kernel_rfl) (fun _ _ _ h => h) (Or.inl ⟨by rfl, ?_⟩) trivial ?_
                rotate_left
                · intro w hSw; clear hSw; go_simp; all_goals (with_reducible rfl)
                try simp only [Act.put, List.setIfInBounds_toArray, List.set_cons_zero, List.set_cons_succ, List.getElem_toArray, List.getElem_cons_succ, List.getElem_cons_zero]
                refine wpAnyH_take (i := 9) (v := ?_) rfl (by kernel_rfl) (by kernel_rfl) (by kernel_rfl) (fun _ _ _ h => h) (Or.inl ⟨by rfl, ?_⟩) trivial ?_
                rotate_left
                · intro w hSw; clear hSw; go_simp; all_goals (with_reducible rfl)
                try simp only [Act.put, List.setIfInBounds_toArray, List.set_cons_zero, List.set_cons_succ, List.getElem_toArray, List.getElem_cons_succ, List.getElem_cons_zero]
                refine wpAnyH_ready (rs := [10]) (by kernel_rfl) (by simp) ?_
                refine (AllReadyH.cons rfl (fun K hK => ?_) AllReadyH.nil)
                go_simp
                refine hK.out _ _ trivial (fun hHeld => ?_)
                clear hK K
                try simp only [Act.put, List.setIfInBounds_toArray, List.set_cons_zero, List.set_cons_succ, List.getElem_toArray, List.getElem_cons_succ, List.getElem_cons_zero]
                refine wpAnyH_done (by kernel_rfl) ?_ _
                go_wp2
                go_ret
                exact hfin.out
              · skip
                go_simp
                refine hK.out _ _ trivial (fun hHeld => ?_)
                clear hK K
                try simp only [Act.put, List.setIfInBounds_toArray, List.set_cons_zero, List.set_cons_succ, List.getElem_toArray, List.getElem_cons_succ, List.getElem_cons_zero]
                refine wpAnyH_ready (rs := [4]) (by kernel_rfl) (by simp) ?_
                refine (AllReadyH.cons rfl (fun K hK => ?_) AllReadyH.nil)
                have c1 : ∀ o, (wd.alloc o).cell? ⟨g, 1, none⟩ = _ := fun o => HC1.out _ (bw_allocx (hkX.out.trans kwd))
                go_simp
                refine hK.out _ _ trivial (fun hHeld => ?_)
                clear hK K
                try simp only [Act.put, List.setIfInBounds_toArray, List.set_cons_zero, List.set_cons_succ, List.getElem_toArray, List.getElem_cons_succ, List.getElem_cons_zero]
                clear c1
                refine wpAnyH_ready (rs := [7]) (by kernel_rfl) (by simp) ?_
                refine (AllReadyH.cons rfl (fun K hK => ?_) AllReadyH.nil)
                have kW : Bw w wd := hkX.out.trans kwd
                have kX := kwd
                refine step_append_lies _ (by rfl) (.tmp 44) (.tmp 46) _ (by rfl) 0 35 i0 _ 3 40 Try.underlying50 hi0 hz0 hz1 hz2 rfl (by omega) _ _ _ (by rfl) ((HOwn.out _ kW).alloc _) ⟨wd.heap.size, 0, none⟩ 1 1 [_, _, _] (by rfl) (by rfl) (World.news_of_block (cs := #[_, _, _]) (t := 35) (fr := (0, 0)) (heap_alloc_new wd _)) (by simp [Value.oneCell'] <;> exact ho.out) (by omega) few1.out few2.out (Nat.zero_le _) (wd.heap.size + 1) (by simp) ?_
                intro g2 c2 w2 hown2 hgrow2 hat2 hlt2
                obtain ⟨⟨d6, f6⟩, hfin⟩ := HPush.out _ g2 c2 w2 kX hown2 hgrow2 hat2
                replace hfin := (show Hid _ from hfin)
                clear hown2 hgrow2 hat2 hlt2
                refine hK.out _ _ trivial (fun hHeld => ?_)
                clear hK K
                try simp only [Act.put, List.setIfInBounds_toArray, List.set_cons_zero, List.set_cons_succ, List.getElem_toArray, List.getElem_cons_succ, List.getElem_cons_zero]
                refine wpAnyH_take (i := 8) (v := ?_) rfl (by kernel_rfl) (by kernel_rfl) (by kernel_rfl) (fun _ _ _ h => h) (Or.inl ⟨by rfl, ?_⟩) trivial ?_
                rotate_left
                · intro w hSw; clear hSw; go_simp; all_goals (with_reducible rfl)
                try simp only [Act.put, List.setIfInBounds_toArray, List.set_cons_zero, List.set_cons_succ, List.getElem_toArray, List.getElem_cons_succ, List.getElem_cons_zero]
                refine wpAnyH_take (i := 9) (v := ?_) rfl (by kernel_rfl) (by kernel_rfl) (by kernel_rfl) (fun _ _ _ h => h) (Or.inl ⟨by rfl, ?_⟩) trivial ?_
                rotate_left
                · intro w hSw; clear hSw; go_simp; all_goals (with_reducible rfl)
                try simp only [Act.put, List.setIfInBounds_toArray, List.set_cons_zero, List.set_cons_succ, List.getElem_toArray, List.getElem_cons_succ, List.getElem_cons_zero]
                refine wpAnyH_ready (rs := [10]) (by kernel_rfl) (by simp) ?_
                refine (AllReadyH.cons rfl (fun K hK => ?_) AllReadyH.nil)
                go_simp
                refine hK.out _ _ trivial (fun hHeld => ?_)
                clear hK K
                try simp only [Act.put, List.setIfInBounds_toArray, List.set_cons_zero, List.set_cons_succ, List.getElem_toArray, List.getElem_cons_succ, List.getElem_cons_zero]
                refine wpAnyH_done (by kernel_rfl) ?_ _
                go_wp2
                go_ret
                exact hfin.out
    · have bt' : S.is d.dst = false := by cases e : S.is d.dst; rfl; exact absurd e bt
      have hfit : S.fits d = false := by unfold Ai.St.fits; rw [bs, bt']; rfl
      have HE := HNo.out 1 W1 (by unfold Ai.St.goes; rw [hfit]; rfl) (by unfold Ai.St.sendE; rw [hfit, if_pos rfl]) kW
      rw [bt'] at HQ
      replace HE := (show Hid _ from HE)
      clear h HI HNo hu bt' bt bs hD hfit
      go_enter Try.func24, Try.ntmps24
      go_upto_region 1 with fail
      rw [hW1.out, hz.out]
      go_wp2_with (go_at_call 36; first | (refine HP.out.mono ?_; clear HP; rintro e w2 ⟨rfl, hw⟩; subst w2) | (refine HQ.out.mono ?_; rintro e w2 ⟨rfl, hw⟩; subst w2))
      go_ret
      exact HE.out
  · have bs' : S.is d.src = false := by cases e : S.is d.src; rfl; exact absurd e bs
    have hfit : S.fits d = false := by unfold Ai.St.fits; rw [bs', Bool.false_and]
    have HE := HNo.out 1 W1 (by unfold Ai.St.goes; rw [hfit]; rfl) (by unfold Ai.St.sendE; rw [hfit, if_pos rfl]) kW
    rw [bs'] at HP
    replace HE := (show Hid _ from HE)
    clear h HI HNo hu bs bs' hD hfit HQ
    go_enter Try.func24, Try.ntmps24
    go_upto_region 1 with fail
    rw [hW1.out, hz.out]
    go_wp2_with (go_at_call 36; refine HP.out.mono ?_; rintro e w2 ⟨rfl, hw⟩; subst w2)
    go_ret
    exact HE.out
end Go.Proofs.Ytjjnbpbbjaabeaa
