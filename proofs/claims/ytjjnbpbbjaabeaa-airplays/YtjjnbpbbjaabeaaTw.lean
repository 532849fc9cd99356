/- Layer 19: the document's Double and Send (written by mktw.py out of tw.base). -/
import Derived.Test.YtjjnbpbbjaabeaaTv
namespace Go.Proofs.Ytjjnbpbbjaabeaa
open Go.RowKit Go.Deep
set_option linter.unusedVariables false
set_option linter.unusedSimpArgs false

set_option maxRecDepth 100000 in
set_option maxHeartbeats 8000000 in
theorem rdbl_any {w : World} {g : Nat} {lv ov : Value} {E : List Raw} {Z : List (Int × Int)} {S : Ai.St} (h : RefX w g lv ov E Z S) (i : Int) :
    Calls Try.prog 27 #[.pointer (some ⟨g, 0, none⟩), .int .i64 i] w fun e w' => e = .returned (.bool (S.dbl i)) ∧ ((S.dbl i = true ∧ RPush w g lv ov E Z S (S.at i) w') ∨ (S.dbl i = false ∧ Bw w w')) := by
  obtain ⟨A', cap', elv⟩ := h.form
  obtain ⟨n, hn⟩ : ∃ n, Hid (S.L.length = n) := ⟨_, rfl⟩
  have c9 : w.cell? ⟨g, 1, none⟩ = some (.slice A' n cap') := by rw [h.c1, elv, hn.out]
  have HC1 : Hid (∀ u, Bw w u → u.cell? ⟨g, 1, none⟩ = some (.slice A' n cap')) := fun u ku => (ku.cell (p := ⟨g, 1, none⟩) (block_lt_of_cell c9)).trans c9
  by_cases hi : S.has i = true
  · obtain ⟨k, rfl, hk⟩ := Ai.has_nat hi
    obtain ⟨r, d, hr, hd, e1, e2, hrow⟩ := h.dgs.get hk
    have hre : r ∈ E := List.mem_of_getElem? hr
    have hat : S.at (k : Int) = d := by rw [Ai.at_of hk]; rw [List.getElem?_eq_getElem hk] at hd; exact Option.some.inj hd
    have ho := h.dgs.cellOne r hre
    have HA : Hid (Calls Try.prog 31 #[.pointer (some ⟨g, 0, none⟩), .int .i64 (k : Int)] w fun e w' => e = .returned (.tuple #[.agg #[.int .i64 r.src, .int .i64 r.dst, r.v], .bool true]) ∧ Bw w w') := rat_yes h hr
    have HB : Hid (∀ w1, Bw w w1 → ∃ z W2 W3, Hid (w1.heap.size = z) ∧ Hid (w1.alloc (.cells #[.int .i64 0, .int .i64 0, .slice none 0 0] 35) = W2) ∧ Hid (DgAt W2 z 0 0 (.slice none 0 0)) ∧ Hid (W2.setRow z (dcs r.src r.dst r.v) = W3) ∧ Hid (r.v.oneCell' = true) ∧ Hid (DgAt W3 z r.src r.dst r.v) ∧ Hid (Bw w W3)) := fun w1 k1 => by
      obtain ⟨z, W2, W3, q1, q2, q3, q4, q5, q6, q7⟩ := dg_box w1 r.src r.dst ho
      exact ⟨z, W2, W3, q1, q2, q3, q4, q5, q6, k1.trans q7.out⟩
    by_cases hf : S.L.length < 4096
    · have hdb : S.dbl (k : Int) = true := by unfold Ai.St.dbl; rw [hi, decide_eq_true hf]; rfl
      have hok : ({ S with L := S.L ++ [d] } : Ai.St).Ok := by
        have h1 := Ai.twice_ok h.ok (k : Int)
        unfold Ai.St.twice at h1
        rw [if_pos hdb, hat] at h1
        exact h1
      have hlf : (n : Int) < 4096 := by rw [← hn.out]; omega
      have HOwn : Hid (∀ u, Bw w u → u.ownsRow 0 35 3 (.slice A' n cap') n (flat E)) := fun u ku => by
        have h1 := ((h.und.keep ku).own (base := 0) (fun _ _ => Nat.zero_le _))
        rw [h.len, hn.out, elv, hn.out] at h1
        exact h1
      have HPush : Hid (∀ (W : World) (g2 c2 : Nat) (w2 : World), Bw w W → w2.ownsRow 0 35 3 (.slice (some ⟨g2, 0, none⟩) (n + 1) c2) (n + 1) (flat E ++ [.int .i64 r.src, .int .i64 r.dst, r.v]) → (W.alloc (.cells #[.int .i64 r.src, .int .i64 r.dst, r.v] 35)).grownBy w2 (Value.slice A' n cap').ownBlock → ((Value.slice A' n cap').ownBlock = some g2 ∨ g2 = W.heap.size + 1) →
          (w2.cell? ⟨g, 1, none⟩ = some (.slice A' n cap') ∧ w2.frozen? ⟨g, 1, none⟩ = false) ∧ RPush w g lv ov E Z S d (w2.setCell ⟨g, 1, none⟩ (.slice (some ⟨g2, 0, none⟩) (n + 1) c2))) := fun W g2 c2 w2 kW own2 gr at2 => by
        have ev : lv = .slice A' n cap' := by rw [elv, hn.out]
        rw [← ev] at gr at2 ⊢
        exact h.push kW e1 e2 (hrow.keep kW) (h.sep r hre) (fun Q hE => (hE r hre).mono (fun b hb => .inl hb)) (by rw [h.len, hn.out]) own2 gr at2 hok
      have HEnd : Hid (∀ W, RPush w g lv ov E Z S d W → (true = true ∧ RPush w g lv ov E Z S (S.at (k : Int)) W) ∨ (true = false ∧ Bw w W)) := fun W hW => .inl ⟨rfl, by rw [hat]; exact hW⟩
      rw [hdb]
      obtain ⟨i0, hi0, hz0, hz1, hz2⟩ := info_parts infoD
      have few1 : Hid (n + 1 ≤ maxLen) := by show _ ≤ _; unfold maxLen; omega
      have few2 : Hid ((n + 1) * 40 ≤ 140737488355328) := by show _ ≤ _; omega
      clear h hr hd hat hrow hk hf hi hok e1 e2 hre c9 elv hdb
      go_enter Try.func27, Try.ntmps27
      go_upto_region 2 with (first
        | (go_at_call 31; refine HA.out.mono ?_; rintro e w1 ⟨rfl, k1⟩; obtain ⟨z, W2, X, hz, hW2, hD2, hX, ho2, hE2, hkX⟩ := HB.out w1 k1)
        | (rw [hW2.out, hz.out]; refine wpList_store_row rfl 35 _ _ rfl z (dcs r.src r.dst r.v) rfl rfl 35 _ hD2.out (dg_info _ _ _) rfl (dg_all _ _ ho2.out).out ?_; rw [hX.out]))
      have HDz : Hid (∀ u, Bw X u → u.rangeAt z 0 [.int .i64 r.src, .int .i64 r.dst, r.v]) := fun u ku => DgAt.range (r := r) ((ku.block z (Array.getElem?_eq_some_iff.1 hE2.out).1).trans hE2.out)
      have c1 := HC1.out X hkX.out
      clear hW2 hz hX hD2 ho2 hE2 HA HB k1
      go_upto_region 4 with fail
      clear c1
      have kwd : Bw X X.drew := (Bw.refl X).drew
      refine wp_region_held_drew (S := fun _ => True) (by kernel_rfl) trivial (fun hHeld => ?_)
      generalize X.drew = wd at kwd hHeld ⊢
      refine wpAnyH_take (i := 0) (v := ?_) rfl (by kernel_rfl) (by kernel_rfl) (by kernel_rfl) (fun _ _ _ h => h) (Or.inl ⟨by rfl, ?_⟩) trivial ?_
      rotate_left
      · intro w hSw; clear hSw; go_simp; all_goals (with_reducible rfl)
      try simp only [Act.put, List.setIfInBounds_toArray, List.set_cons_zero, List.set_cons_succ, List.getElem_toArray, List.getElem_cons_succ, List.getElem_cons_zero]
      refine wpAnyH_take (i := 1) (v := ?_) rfl (by kernel_rfl) (by kernel_rfl) (by kernel_rfl) (fun _ _ _ h => h) (Or.inl ⟨by rfl, ?_⟩) trivial ?_
      rotate_left
      · intro w hSw; clear hSw; go_simp; all_goals (with_reducible rfl)
      try simp only [Act.put, List.setIfInBounds_toArray, List.set_cons_zero, List.set_cons_succ, List.getElem_toArray, List.getElem_cons_succ, List.getElem_cons_zero]
      refine wpAnyH_take (i := 2) (v := ?_) rfl (by kernel_rfl) (by kernel_rfl) (by kernel_rfl) (fun _ _ _ h => h) (Or.inl ⟨by rfl, ?_⟩) trivial ?_
      rotate_left
      · intro w hSw; clear hSw; go_simp; all_goals (with_reducible rfl)
      try simp only [Act.put, List.setIfInBounds_toArray, List.set_cons_zero, List.set_cons_succ, List.getElem_toArray, List.getElem_cons_succ, List.getElem_cons_zero]
      refine wpAnyH_take (i := 3) (v := ?_) rfl (by kernel_rfl) (by kernel_rfl) (by kernel_rfl) (fun _ _ _ h => h) (Or.inl ⟨by rfl, ?_⟩) trivial ?_
      rotate_left
      · intro w hSw; clear hSw; go_simp; all_goals (with_reducible rfl)
      try simp only [Act.put, List.setIfInBounds_toArray, List.set_cons_zero, List.set_cons_succ, List.getElem_toArray, List.getElem_cons_succ, List.getElem_cons_zero]
      refine wpAnyH_ready (rs := [4, 5]) (by kernel_rfl) (by simp) ?_
      refine (AllReadyH.cons rfl (fun K hK => ?_) (AllReadyH.cons rfl (fun K hK => ?_) AllReadyH.nil))
      · skip
        have c1 := HC1.out wd (hkX.out.trans kwd)
        go_simp
        refine hK.out _ _ trivial (fun hHeld => ?_)
        clear hK K
        try simp only [Act.put, List.setIfInBounds_toArray, List.set_cons_zero, List.set_cons_succ, List.getElem_toArray, List.getElem_cons_succ, List.getElem_cons_zero]
        clear c1
        refine wpAnyH_ready (rs := [5]) (by kernel_rfl) (by simp) ?_
        refine (AllReadyH.cons rfl (fun K hK => ?_) AllReadyH.nil)
        refine step_load_mid (by rfl) 35 _ (by rfl) z 0 (by rfl) [.int .i64 r.src, .int .i64 r.dst, r.v] _ (HDz.out wd kwd) Try.underlying35 rfl (dg_info _ _ r.v) ?_
        refine hK.out _ _ trivial (fun hHeld => ?_)
        clear hK K
        try simp only [Act.put, List.setIfInBounds_toArray, List.set_cons_zero, List.set_cons_succ, List.getElem_toArray, List.getElem_cons_succ, List.getElem_cons_zero]
        refine wpAnyH_ready (rs := [6]) (by kernel_rfl) (by simp) ?_
        refine (AllReadyH.cons rfl (fun K hK => ?_) AllReadyH.nil)
        go_simp
        refine hK.out _ _ trivial (fun hHeld => ?_)
        clear hK K
        try simp only [Act.put, List.setIfInBounds_toArray, List.set_cons_zero, List.set_cons_succ, List.getElem_toArray, List.getElem_cons_succ, List.getElem_cons_zero]
        refine wpAnyH_ready (rs := [7]) (by kernel_rfl) (by simp) ?_
        refine (AllReadyH.cons rfl (fun K hK => ?_) AllReadyH.nil)
        have kW : Bw w wd := hkX.out.trans kwd
        refine step_append_lies _ (by rfl) (.tmp 27) (.tmp 29) _ (by rfl) 0 35 i0 _ 3 40 Try.underlying50 hi0 hz0 hz1 hz2 rfl (by omega) _ _ _ (by rfl) ((HOwn.out _ kW).alloc _) ⟨wd.heap.size, 0, none⟩ 1 1 [_, _, _] (by rfl) (by rfl) (World.news_of_block (cs := #[_, _, _]) (t := 35) (fr := (0, 0)) (heap_alloc_new wd _)) (by simp [Value.oneCell']; exact ho) (by omega) few1.out few2.out (Nat.zero_le _) (wd.heap.size + 1) (by simp) ?_
        intro g2 c2 w2 hown2 hgrow2 hat2 hlt2
        obtain ⟨⟨d6, f6⟩, hfin⟩ := HPush.out _ g2 c2 w2 kW hown2 hgrow2 hat2
        replace hfin := (show Hid _ from hfin)
        clear hown2 hgrow2 hat2 hlt2
        refine hK.out _ _ trivial (fun hHeld => ?_)
        clear hK K
        try simp only [Act.put, List.setIfInBounds_toArray, List.set_cons_zero, List.set_cons_succ, List.getElem_toArray, List.getElem_cons_succ, List.getElem_cons_zero]
        refine wpAnyH_take (i := 8) (v := ?_) rfl (by kernel_rfl) (by kernel_rfl) (by kernel_rfl) (fun _ _ _ h => h) (Or.inl ⟨by rfl, ?_⟩) trivial ?_
        rotate_left
        · intro w hSw; clear hSw; go_simp; all_goals (with_reducible rfl)
        try simp only [Act.put, List.setIfInBounds_toArray, List.set_cons_zero, List.set_cons_succ, List.getElem_toArray, List.getElem_cons_succ, List.getElem_cons_zero]
        refine wpAnyH_take (i := 9) (v := ?_) rfl (by kernel_rfl) (by kernel_rfl) (by kernel_rfl) (fun _ _ _ h => h) (Or.inl ⟨by rfl, ?_⟩) trivial ?_
        rotate_left
        · intro w hSw; clear hSw; go_simp; all_goals (with_reducible rfl)
        try simp only [Act.put, List.setIfInBounds_toArray, List.set_cons_zero, List.set_cons_succ, List.getElem_toArray, List.getElem_cons_succ, List.getElem_cons_zero]
        refine wpAnyH_ready (rs := [10]) (by kernel_rfl) (by simp) ?_
        refine (AllReadyH.cons rfl (fun K hK => ?_) AllReadyH.nil)
        go_simp
        refine hK.out _ _ trivial (fun hHeld => ?_)
        clear hK K
        try simp only [Act.put, List.setIfInBounds_toArray, List.set_cons_zero, List.set_cons_succ, List.getElem_toArray, List.getElem_cons_succ, List.getElem_cons_zero]
        refine wpAnyH_done (by kernel_rfl) ?_ _
        go_wp2
        go_ret
        exact ⟨rfl, HEnd.out _ hfin.out⟩
      · skip
        refine step_load_mid (by rfl) 35 _ (by rfl) z 0 (by rfl) [.int .i64 r.src, .int .i64 r.dst, r.v] _ (HDz.out wd kwd) Try.underlying35 rfl (dg_info _ _ r.v) ?_
        refine hK.out _ _ trivial (fun hHeld => ?_)
        clear hK K
        try simp only [Act.put, List.setIfInBounds_toArray, List.set_cons_zero, List.set_cons_succ, List.getElem_toArray, List.getElem_cons_succ, List.getElem_cons_zero]
        refine wpAnyH_ready (rs := [4, 6]) (by kernel_rfl) (by simp) ?_
        refine (AllReadyH.cons rfl (fun K hK => ?_) (AllReadyH.cons rfl (fun K hK => ?_) AllReadyH.nil))
        · skip
          have c1 := HC1.out wd (hkX.out.trans kwd)
          go_simp
          refine hK.out _ _ trivial (fun hHeld => ?_)
          clear hK K
          try simp only [Act.put, List.setIfInBounds_toArray, List.set_cons_zero, List.set_cons_succ, List.getElem_toArray, List.getElem_cons_succ, List.getElem_cons_zero]
          clear c1
          refine wpAnyH_ready (rs := [6]) (by kernel_rfl) (by simp) ?_
          refine (AllReadyH.cons rfl (fun K hK => ?_) AllReadyH.nil)
          go_simp
          refine hK.out _ _ trivial (fun hHeld => ?_)
          clear hK K
          try simp only [Act.put, List.setIfInBounds_toArray, List.set_cons_zero, List.set_cons_succ, List.getElem_toArray, List.getElem_cons_succ, List.getElem_cons_zero]
          refine wpAnyH_ready (rs := [7]) (by kernel_rfl) (by simp) ?_
          refine (AllReadyH.cons rfl (fun K hK => ?_) AllReadyH.nil)
          have kW : Bw w wd := hkX.out.trans kwd
          refine step_append_lies _ (by rfl) (.tmp 27) (.tmp 29) _ (by rfl) 0 35 i0 _ 3 40 Try.underlying50 hi0 hz0 hz1 hz2 rfl (by omega) _ _ _ (by rfl) ((HOwn.out _ kW).alloc _) ⟨wd.heap.size, 0, none⟩ 1 1 [_, _, _] (by rfl) (by rfl) (World.news_of_block (cs := #[_, _, _]) (t := 35) (fr := (0, 0)) (heap_alloc_new wd _)) (by simp [Value.oneCell']; exact ho) (by omega) few1.out few2.out (Nat.zero_le _) (wd.heap.size + 1) (by simp) ?_
          intro g2 c2 w2 hown2 hgrow2 hat2 hlt2
          obtain ⟨⟨d6, f6⟩, hfin⟩ := HPush.out _ g2 c2 w2 kW hown2 hgrow2 hat2
          replace hfin := (show Hid _ from hfin)
          clear hown2 hgrow2 hat2 hlt2
          refine hK.out _ _ trivial (fun hHeld => ?_)
          clear hK K
          try simp only [Act.put, List.setIfInBounds_toArray, List.set_cons_zero, List.set_cons_succ, List.getElem_toArray, List.getElem_cons_succ, List.getElem_cons_zero]
          refine wpAnyH_take (i := 8) (v := ?_) rfl (by kernel_rfl) (by kernel_rfl) (by kernel_rfl) (fun _ _ _ h => h) (Or.inl ⟨by rfl, ?_⟩) trivial ?_
          rotate_left
          · intro w hSw; clear hSw; go_simp; all_goals (with_reducible rfl)
          try simp only [Act.put, List.setIfInBounds_toArray, List.set_cons_zero, List.set_cons_succ, List.getElem_toArray, List.getElem_cons_succ, List.getElem_cons_zero]
          refine wpAnyH_take (i := 9) (v := ?_) rfl (by kernel_rfl) (by kernel_rfl) (by kernel_rfl) (fun _ _ _ h => h) (Or.inl ⟨by rfl, ?_⟩) trivial ?_
          rotate_left
          · intro w hSw; clear hSw; go_simp; all_goals (with_reducible rfl)
          try simp only [Act.put, List.setIfInBounds_toArray, List.set_cons_zero, List.set_cons_succ, List.getElem_toArray, List.getElem_cons_succ, List.getElem_cons_zero]
          refine wpAnyH_ready (rs := [10]) (by kernel_rfl) (by simp) ?_
          refine (AllReadyH.cons rfl (fun K hK => ?_) AllReadyH.nil)
          go_simp
          refine hK.out _ _ trivial (fun hHeld => ?_)
          clear hK K
          try simp only [Act.put, List.setIfInBounds_toArray, List.set_cons_zero, List.set_cons_succ, List.getElem_toArray, List.getElem_cons_succ, List.getElem_cons_zero]
          refine wpAnyH_done (by kernel_rfl) ?_ _
          go_wp2
          go_ret
          exact ⟨rfl, HEnd.out _ hfin.out⟩
        · skip
          go_simp
          refine hK.out _ _ trivial (fun hHeld => ?_)
          clear hK K
          try simp only [Act.put, List.setIfInBounds_toArray, List.set_cons_zero, List.set_cons_succ, List.getElem_toArray, List.getElem_cons_succ, List.getElem_cons_zero]
          refine wpAnyH_ready (rs := [4]) (by kernel_rfl) (by simp) ?_
          refine (AllReadyH.cons rfl (fun K hK => ?_) AllReadyH.nil)
          have c1 : ∀ o, (wd.alloc o).cell? ⟨g, 1, none⟩ = _ := fun o => HC1.out _ (bw_allocx (hkX.out.trans kwd))
          go_simp
          refine hK.out _ _ trivial (fun hHeld => ?_)
          clear hK K
          try simp only [Act.put, List.setIfInBounds_toArray, List.set_cons_zero, List.set_cons_succ, List.getElem_toArray, List.getElem_cons_succ, List.getElem_cons_zero]
          clear c1
          refine wpAnyH_ready (rs := [7]) (by kernel_rfl) (by simp) ?_
          refine (AllReadyH.cons rfl (fun K hK => ?_) AllReadyH.nil)
          have kW : Bw w wd := hkX.out.trans kwd
          refine step_append_lies _ (by rfl) (.tmp 27) (.tmp 29) _ (by rfl) 0 35 i0 _ 3 40 Try.underlying50 hi0 hz0 hz1 hz2 rfl (by omega) _ _ _ (by rfl) ((HOwn.out _ kW).alloc _) ⟨wd.heap.size, 0, none⟩ 1 1 [_, _, _] (by rfl) (by rfl) (World.news_of_block (cs := #[_, _, _]) (t := 35) (fr := (0, 0)) (heap_alloc_new wd _)) (by simp [Value.oneCell']; exact ho) (by omega) few1.out few2.out (Nat.zero_le _) (wd.heap.size + 1) (by simp) ?_
          intro g2 c2 w2 hown2 hgrow2 hat2 hlt2
          obtain ⟨⟨d6, f6⟩, hfin⟩ := HPush.out _ g2 c2 w2 kW hown2 hgrow2 hat2
          replace hfin := (show Hid _ from hfin)
          clear hown2 hgrow2 hat2 hlt2
          refine hK.out _ _ trivial (fun hHeld => ?_)
          clear hK K
          try simp only [Act.put, List.setIfInBounds_toArray, List.set_cons_zero, List.set_cons_succ, List.getElem_toArray, List.getElem_cons_succ, List.getElem_cons_zero]
          refine wpAnyH_take (i := 8) (v := ?_) rfl (by kernel_rfl) (by kernel_rfl) (by kernel_rfl) (fun _ _ _ h => h) (Or.inl ⟨by rfl, ?_⟩) trivial ?_
          rotate_left
          · intro w hSw; clear hSw; go_simp; all_goals (with_reducible rfl)
          try simp only [Act.put, List.setIfInBounds_toArray, List.set_cons_zero, List.set_cons_succ, List.getElem_toArray, List.getElem_cons_succ, List.getElem_cons_zero]
          refine wpAnyH_take (i := 9) (v := ?_) rfl (by kernel_rfl) (by kernel_rfl) (by kernel_rfl) (fun _ _ _ h => h) (Or.inl ⟨by rfl, ?_⟩) trivial ?_
          rotate_left
          · intro w hSw; clear hSw; go_simp; all_goals (with_reducible rfl)
          try simp only [Act.put, List.setIfInBounds_toArray, List.set_cons_zero, List.set_cons_succ, List.getElem_toArray, List.getElem_cons_succ, List.getElem_cons_zero]
          refine wpAnyH_ready (rs := [10]) (by kernel_rfl) (by simp) ?_
          refine (AllReadyH.cons rfl (fun K hK => ?_) AllReadyH.nil)
          go_simp
          refine hK.out _ _ trivial (fun hHeld => ?_)
          clear hK K
          try simp only [Act.put, List.setIfInBounds_toArray, List.set_cons_zero, List.set_cons_succ, List.getElem_toArray, List.getElem_cons_succ, List.getElem_cons_zero]
          refine wpAnyH_done (by kernel_rfl) ?_ _
          go_wp2
          go_ret
          exact ⟨rfl, HEnd.out _ hfin.out⟩
    · have hdb : S.dbl (k : Int) = false := by unfold Ai.St.dbl; rw [decide_eq_false hf, Bool.and_false]
      have d1 : (4096 : Int) ≤ (n : Int) := by rw [← hn.out]; omega
      rw [hdb]
      clear h hr hd hat hrow hk hf hi e1 e2 hre c9 elv hdb
      go_enter Try.func27, Try.ntmps27
      go_upto_region 2 with (first
        | (go_at_call 31; refine HA.out.mono ?_; rintro e w1 ⟨rfl, k1⟩; obtain ⟨z, W2, X, hz, hW2, hD2, hX, ho2, hE2, hkX⟩ := HB.out w1 k1)
        | (rw [hW2.out, hz.out]; refine wpList_store_row rfl 35 _ _ rfl z (dcs r.src r.dst r.v) rfl rfl 35 _ hD2.out (dg_info _ _ _) rfl (dg_all _ _ ho2.out).out ?_; rw [hX.out]))
      have c1 := HC1.out X hkX.out
      go_wp2
      go_ret
      exact ⟨rfl, .inr ⟨by first | trivial | rfl, hkX.out⟩⟩
  · have hi' : S.has i = false := by cases e : S.has i; rfl; exact absurd e hi
    have hdb : S.dbl i = false := by unfold Ai.St.dbl; rw [hi', Bool.false_and]
    have HA : Hid (Calls Try.prog 31 #[.pointer (some ⟨g, 0, none⟩), .int .i64 i] w fun e w' => e = .returned (.tuple #[.agg #[.int .i64 0, .int .i64 0, .slice none 0 0], .bool false]) ∧ Bw w w') := rat_no h i hi'
    rw [hdb]
    clear h hi hi' hdb elv c9 HC1 hn
    go_enter Try.func27, Try.ntmps27
    go_upto_region 2 with (first
      | (go_at_call 31; refine HA.out.mono ?_; rintro e w1 ⟨rfl, k1⟩; obtain ⟨z, W2, X, hz, hW2, hD2, hX, ho2, hE2, hkX⟩ := dg_box w1 0 0 (v := .slice none 0 0) rfl)
      | (rw [hW2.out, hz.out]; refine wpList_store_row rfl 35 _ _ rfl z (dcs 0 0 (.slice none 0 0)) rfl rfl 35 _ hD2.out (dg_info _ _ _) rfl (dg_all _ _ rfl).out ?_; rw [hX.out]))
    go_wp2
    go_ret
    exact ⟨rfl, .inr ⟨by first | trivial | rfl, k1.trans hkX.out⟩⟩
end Go.Proofs.Ytjjnbpbbjaabeaa
