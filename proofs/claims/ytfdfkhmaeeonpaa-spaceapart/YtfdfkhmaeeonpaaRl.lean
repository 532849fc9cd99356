/- Layer 16: join. -/
import Derived.Test.YtfdfkhmaeeonpaaRk
namespace Go.Proofs.Ytfdfkhmaeeonpaa
open Go.RowKit Go.Deep
set_option linter.unusedVariables false
set_option linter.unusedSimpArgs false

theorem Sp.join_take {s : Sp.Rn} {M : List Sp.Rn} {j : Nat} {o : Sp.Rn} (h : M[j]? = some o) : Sp.joinF s (M.take (j + 1)) = (min (Sp.joinF s (M.take j)).1 o.1, (Sp.joinF s (M.take j)).2 + o.2) := by
  unfold Sp.joinF
  rw [List.take_add_one, h, Option.toList_some, List.foldl_append]
  rfl
theorem Sp.join_small {s : Sp.Rn} {M : List Sp.Rn} {B : Nat} (hs : s.2 ≤ B) (hM : ∀ r ∈ M, r.2 ≤ B) : ∀ j, (Sp.joinF s (M.take j)).2 ≤ B + j * B
  | 0 => by rw [List.take_zero]; exact Nat.le_trans hs (Nat.le_add_right _ _)
  | j + 1 => by
    have ih := Sp.join_small hs hM j
    by_cases hj : j < M.length
    · rw [Sp.join_take (List.getElem?_eq_getElem hj), Nat.add_mul]
      have := hM _ (List.getElem_mem hj)
      dsimp only
      omega
    · rw [List.take_of_length_le (by omega)]
      rw [List.take_of_length_le (by omega)] at ih
      rw [Nat.add_mul]
      omega
/-- a box of a run, whole -/
def BoxH (W : World) (p : Nat) (r : Sp.Rn) : Prop := W.heap[p]? = some (.cells #[.int .i64 (r.1 : Int), .int .i64 (r.2 : Int)] 48 (0, 0))
theorem BoxH.lt {W : World} {p : Nat} {r : Sp.Rn} (h : BoxH W p r) : p < W.heap.size := (Array.getElem?_eq_some_iff.1 h).1
theorem BoxH.keep {W W' : World} {p : Nat} {r : Sp.Rn} (h : BoxH W p r) (k : Bw W W') : BoxH W' p r := (k.block p h.lt).trans h
theorem BoxH.box {W : World} {p : Nat} {r : Sp.Rn} (h : BoxH W p r) : Box1 W p r := box1_row h
theorem BoxH.fr {W : World} {p : Nat} {r : Sp.Rn} (h : BoxH W p r) (j : Nat) : W.frozen? ⟨p, j, none⟩ = false := frozen_of_row W p j _ _ h
theorem BoxH.put {W : World} {p : Nat} {r : Sp.Rn} (h : BoxH W p r) (x y : Int) (o : Sp.Rn) (hx : x = (o.1 : Int)) (hy : y = (o.2 : Int)) : BoxH ((W.setCell ⟨p, 0, none⟩ (.int .i64 x)).setCell ⟨p, 1, none⟩ (.int .i64 y)) p o := by
  subst hx hy
  exact heap_setCell_same _ p _ _ _ _ (heap_setCell_same W p _ _ _ _ h)
set_option maxRecDepth 100000 in
set_option maxHeartbeats 4000000 in
theorem join_any {w : World} {g n b c : Nat} {L : List Sp.Rn} (hs : SpAt w g n b c L) (f t x k : Nat) (hft : f ≤ t) (htl : t ≤ L.length) (hk2 : k ≤ 65536) (hN : Sp.Norm n (L.take f ++ [Sp.joinF (x, k) ((L.drop f).take (t - f))] ++ L.drop t)) :
    Calls Try.prog 34 #[.pointer (some ⟨g, 0, none⟩), .int .i64 (f : Int), .int .i64 (t : Int), rv (x, k)] w fun e w' => e = .returned (.tuple #[]) ∧ SpEnds g n b (L.take f ++ [Sp.joinF (x, k) ((L.drop f).take (t - f))] ++ L.drop t) w w' := by
  have hn1 := hs.n1
  have hfew := hs.few
  have hcle := hs.row.le
  have hcap : c ≤ 9223372036854775807 := by have := hs.row.cap; unfold maxLen at this; omega
  obtain ⟨Mid, hMid⟩ : ∃ M, Hid ((L.drop f).take (t - f) = M) := ⟨_, rfl⟩
  rw [hMid.out] at hN ⊢
  have hml : Mid.length = t - f := by rw [← hMid.out]; simp only [List.length_take, List.length_drop]; omega
  have HM2 : Hid (∀ r ∈ Mid, r.2 ≤ 65536) := fun r hr => by
    have hr' : r ∈ L := List.mem_of_mem_drop (List.mem_of_mem_take (by rw [hMid.out]; exact hr))
    have := hs.norm.ok r hr'
    omega
  obtain ⟨M, hM⟩ : ∃ M, Hid (L.take f ++ [Sp.joinF (x, k) Mid] ++ L.drop t = M) := ⟨_, rfl⟩
  rw [hM.out] at hN ⊢
  have HS : Hid (SpAt w g n b c L) := hs
  obtain ⟨m, hm⟩ : ∃ m, Hid (L.length = m) := ⟨_, rfl⟩
  have HC : Hid (∀ v, Bw w v → v.cell? ⟨g, 1, none⟩ = some (.slice (some ⟨b, 0, none⟩) m c)) := fun v kv => by rw [← hm.out]; exact (HS.out.keep kv).c1
  obtain ⟨A0, hA0⟩ : ∃ A, (if c = f then some (⟨b, 0, none⟩ : Addr) else some ⟨b, f * 2, none⟩) = A := ⟨_, rfl⟩
  have HQ : Hid (∀ v, Bw w v → RsAt v A0 Mid) := fun v kv => by
    have h1 := ((HS.out.keep kv).row.src f).take (t - f)
    rw [hMid.out] at h1
    rw [← hA0]
    by_cases hcf : c = f
    · have : L.length ≤ c := (HS.out.row.le)
      exact .inl (List.eq_nil_of_length_eq_zero (by omega))
    · rw [if_neg hcf]; exact h1
  rw [hm.out] at htl hfew hcle
  have f0 : (0 : Int) ≤ (f : Int) := Int.natCast_nonneg _
  have t0 : (0 : Int) ≤ (t : Int) := Int.natCast_nonneg _
  have ft1 : (f : Int) ≤ (t : Int) := by omega
  have tm1 : (t : Int) ≤ (m : Int) := by omega
  have tc1 : (t : Int) ≤ (c : Int) := by omega
  have tc2 : t ≤ c := by omega
  have hgl : g < w.heap.size := HS.out.lt
  have hbl : b < w.heap.size := HS.out.row.lt
  clear hs
  obtain ⟨W0, hW0⟩ : ∃ W, W = w.alloc (.cells #[.int .i64 (x : Int), .int .i64 (k : Int)] 48) := ⟨_, rfl⟩
  have k0 : Bw w W0 := by rw [hW0]; exact bw_alloc16 (Bw.refl _) _
  have B0 : BoxH W0 w.heap.size (x, k) := by rw [hW0]; exact (Go.MapKept.heap_alloc w _).1
  obtain ⟨P, hP⟩ : ∃ P, Hid (w.heap.size = P) := ⟨_, rfl⟩
  have c1 := HC.out W0 k0
  rw [hP.out] at B0 hgl hbl
  have HJ : Hid (∀ j, (Sp.joinF (x, k) (Mid.take j)).2 ≤ 65536 + j * 65536) := Sp.join_small hk2 HM2.out
  go_enter Try.func34, Try.ntmps34
  go_upto_region 1 with fail
  rw [← hW0, hP.out]
  clear hW0
  go_wp2
  clear c1
  have HA0 : Hid _ := hA0
  clear hA0
  go_loopw [18] (fun s18 wr => ∃ j : Nat, s18 = .int .i64 (j : Int) ∧ j ≤ t - f ∧ BoxH wr P (Sp.joinF (x, k) (Mid.take j)) ∧ Hid (Bw w wr)) (fun s18 _ => (t - f) - (intOf s18).toNat)
  case atStart => exact ⟨0, rfl, Nat.zero_le _, by simpa [Sp.joinF] using B0, k0⟩
  case round =>
    obtain ⟨j, rfl, hj, hBx, hbw⟩ := hrel
    have j0 : (0 : Int) ≤ (j : Int) := Int.natCast_nonneg _
    by_cases hlt : j < t - f
    · have j1 : (j : Int) < ((t - f : Nat) : Int) := by omega
      obtain ⟨o, ho⟩ : ∃ o, Hid (Mid[j]? = some o) := ⟨_, List.getElem?_eq_getElem (by omega)⟩
      have hq := HQ.out wr hbw.out
      obtain ⟨b0, o0, rfl⟩ : ∃ b0 o0, A0 = some ⟨b0, o0, none⟩ := by
        rcases hq with h0 | ⟨b0, o0, e, _⟩
        · rw [h0] at ho; exact absurd ho.out (by simp)
        · exact ⟨b0, o0, e⟩
      obtain ⟨y0, y1⟩ := hq.at ho.out
      obtain ⟨V, hV⟩ : ∃ V, V = wr.alloc (.cells #[.int .i64 (o.1 : Int), .int .i64 (o.2 : Int)] 48) := ⟨_, rfl⟩
      have kV : Bw wr V := by rw [hV]; exact bw_alloc16 (Bw.refl _) _
      have BV : Box1 V wr.heap.size o := by rw [hV]; exact box1_new wr o _
      obtain ⟨J, hJ⟩ : ∃ J, Hid (Sp.joinF (x, k) (Mid.take j) = J) := ⟨_, rfl⟩
      have hJ2 := HJ.out j
      rw [hJ.out] at hBx hJ2
      have ho2 := HM2.out o (List.mem_of_getElem? ho.out)
      have HWi : Hid (∀ u, Calls Try.prog 44 #[.agg #[.int .i64 (J.1 : Int), .int .i64 (J.2 : Int)], .agg #[.int .i64 (o.1 : Int), .int .i64 (o.2 : Int)]] u fun e w' => ∃ v0 v1 : Int, e = .returned (.agg #[.int .i64 v0, .int .i64 v1]) ∧ Hid (v0 = ((Sp.joinF (x, k) (Mid.take (j + 1))).1 : Int) ∧ v1 = ((Sp.joinF (x, k) (Mid.take (j + 1))).2 : Int)) ∧ Bw u w') := fun u => by
        refine (with_any J o (by omega) u).mono ?_
        rintro e w' ⟨rfl, hb⟩
        refine ⟨_, _, rfl, ?_, hb⟩
        rw [Sp.join_take ho.out, hJ.out]
        exact ⟨rfl, rfl⟩
      obtain ⟨x0, x1⟩ := (hBx.keep kV).box
      obtain ⟨z0, z1⟩ := BV
      have HBX : Hid (BoxH wr P J) := hBx
      clear hBx hJ2 ho2 hlt
      go_upto_region 4 with fail
      rw [← hV]
      clear hV y0 y1
      go_wp2_with (go_at_call 44; refine (HWi.out _).mono ?_; rintro e w1 ⟨v0, v1, rfl, hv, hb1⟩; have hB1 := (HBX.out.keep kV).keep hb1; have g0 := hB1.fr 0; have g1 := hB1.fr 1; have hBn := hB1.put v0 v1 _ hv.out.1 hv.out.2; obtain ⟨u0, u1⟩ := hB1.box; clear hB1)
      go_roundw
      case rel => exact ⟨j + 1, by go_num, by omega, hBn, Bw.put (Bw.put ((hbw.out.trans kV).trans hb1) (Nat.le_of_eq hP.out) 0 _) (Nat.le_of_eq hP.out) 1 _⟩
      case measure => simp [intOf]; omega
    · obtain rfl : j = t - f := by omega
      rw [List.take_of_length_le (by omega)] at hBx
      obtain ⟨⟨ja, jc⟩, hJ⟩ : ∃ J, Hid (Sp.joinF (x, k) Mid = J) := ⟨_, rfl⟩
      rw [hJ.out] at hBx hM
      have hB0 := hBx.box
      have HBX : Hid (BoxH wr P (ja, jc)) := hBx
      clear hBx hlt
      have HR : Hid (∀ N u, Bw wr u → wr.heap.size ≤ N → RB u 48 N 1 [(ja, jc)] → Calls Try.prog 38 #[.slice (some ⟨b, 0, none⟩) m c, .int .i64 (f : Int), .int .i64 (t : Int), .slice (some ⟨N, 0, none⟩) 1 1] u fun e w' => RepEnds b M u e w') := fun N u ku hNu hR => by
        have := rep_any b c m 1 f t N 1 L [(ja, jc)] u (HS.out.row.keep (hbw.out.trans ku)) hR (by have := hbw.out.size; have := hP.out; omega) hm.out rfl hft htl (.inl rfl) (by omega)
        rw [hM.out] at this
        exact this
      have HF : Hid (∀ u w2 b' c', Bw wr u → RB w2 48 b' c' M → (b' = b ∨ u.heap.size ≤ b') → Bx (· = b) u w2 → SpEnds g n b M w (w2.setCell ⟨g, 1, none⟩ (.slice (some ⟨b', 0, none⟩) M.length c'))) := fun u w2 b' c' ku hR hb' hX => by
        have kw := hbw.out
        have hsu := HS.out.keep (kw.trans ku)
        have hsz := (kw.trans ku).size
        have hg0 := HS.out.lt
        have hg2 : w2.heap[g]? = some (.cells #[.int .i64 (n : Int), .slice (some ⟨b, 0, none⟩) L.length c] 50 (0, 0)) := (hX.block g hsu.lt (by intro e; exact hsu.ne e)).trans hsu.cells
        have hne : g ≠ b' := by
          rcases hb' with h | h
          · rw [h]; exact hsu.ne
          · omega
        refine ⟨b', c', SpAt.stored hg2 hR hne hN hn1, hb'.imp id (fun h => by omega), ?_⟩
        exact ((Bx.of_bw (kw.trans ku)).trans (hX.more (fun y hy => Or.inr hy))).trans ((Bx.refl _ _).put (Or.inl rfl))
      have HG : Hid (∀ u w2, Bw wr u → Bx (· = b) u w2 → w2.frozen? ⟨g, 1, none⟩ = false ∧ w2.cell? ⟨g, 1, none⟩ = some (.slice (some ⟨b, 0, none⟩) m c)) := fun u w2 ku hX => by
        have hsu := HS.out.keep (hbw.out.trans ku)
        have hg2 : w2.heap[g]? = some (.cells #[.int .i64 (n : Int), .slice (some ⟨b, 0, none⟩) L.length c] 50 (0, 0)) := (hX.block g hsu.lt (by intro e; exact hsu.ne e)).trans hsu.cells
        rw [← hm.out]
        exact ⟨frozen_of_row w2 g 1 _ _ hg2, cell_of_row w2 g 1 _ _ _ hg2⟩
      have HC1 : Hid (∀ v, Bw wr v → v.cell? ⟨g, 1, none⟩ = some (.slice (some ⟨b, 0, none⟩) m c)) := fun v kv => HC.out v (hbw.out.trans kv)
      have hPb : ¬ P = b := by omega
      have hPg : ¬ P = g := by omega
      clear HC HQ HJ HM2 B0
      go_upto_region 6 with fail
      refine wp_region_held_drew (S := fun v => Box1 v P (ja, jc)) (by kernel_rfl) (hB0.keep ((Bw.refl _).drew)) (fun hHeld => ?_)
      have kv : Bw wr wr.drew := (Bw.refl _).drew
      generalize wr.drew = wd at *
      refine wpAnyH_take (i := 0) (v := ?_) rfl (by kernel_rfl) (by kernel_rfl) (by kernel_rfl) (fun _ _ _ h => h) (Or.inl ⟨by rfl, ?_⟩) (by assumption) ?_
      rotate_left
      · intro w hSw; (try dsimp only at hSw); go_simp; all_goals (with_reducible rfl)
      try simp only [Act.put, List.setIfInBounds_toArray, List.set_cons_zero, List.set_cons_succ, List.getElem_toArray, List.getElem_cons_succ, List.getElem_cons_zero]
      refine wpAnyH_take (i := 1) (v := ?_) rfl (by kernel_rfl) (by kernel_rfl) (by kernel_rfl) (fun _ _ _ h => h) (Or.inl ⟨by rfl, ?_⟩) (by assumption) ?_
      rotate_left
      · intro w hSw; (try dsimp only at hSw); go_simp; all_goals (with_reducible rfl)
      try simp only [Act.put, List.setIfInBounds_toArray, List.set_cons_zero, List.set_cons_succ, List.getElem_toArray, List.getElem_cons_succ, List.getElem_cons_zero]
      refine wpAnyH_take (i := 2) (v := ?_) rfl (by kernel_rfl) (by kernel_rfl) (by kernel_rfl) (fun _ _ _ h => h) (Or.inl ⟨by rfl, ?_⟩) (by assumption) ?_
      rotate_left
      · intro w hSw; (try dsimp only at hSw); go_simp; all_goals (with_reducible rfl)
      try simp only [Act.put, List.setIfInBounds_toArray, List.set_cons_zero, List.set_cons_succ, List.getElem_toArray, List.getElem_cons_succ, List.getElem_cons_zero]
      refine wpAnyH_take (i := 3) (v := ?_) rfl (by kernel_rfl) (by kernel_rfl) (by kernel_rfl) (fun _ _ _ h => h) (Or.inl ⟨by rfl, ?_⟩) (by assumption) ?_
      rotate_left
      · intro w hSw; (try dsimp only at hSw); go_simp; all_goals (with_reducible rfl)
      try simp only [Act.put, List.setIfInBounds_toArray, List.set_cons_zero, List.set_cons_succ, List.getElem_toArray, List.getElem_cons_succ, List.getElem_cons_zero]
      refine wpAnyH_take (i := 5) (v := ?_) rfl (by kernel_rfl) (by kernel_rfl) (by kernel_rfl) (fun _ _ _ h => h) (Or.inl ⟨by rfl, ?_⟩) (by assumption) ?_
      rotate_left
      · intro w hSw; (try dsimp only at hSw); go_simp; all_goals (with_reducible rfl)
      try simp only [Act.put, List.setIfInBounds_toArray, List.set_cons_zero, List.set_cons_succ, List.getElem_toArray, List.getElem_cons_succ, List.getElem_cons_zero]
      refine wpAnyH_take (i := 6) (v := ?_) rfl (by kernel_rfl) (by kernel_rfl) (by kernel_rfl) (fun _ _ _ h => h) (Or.inl ⟨by rfl, ?_⟩) (by assumption) ?_
      rotate_left
      · intro w hSw; (try dsimp only at hSw); go_simp; all_goals (with_reducible rfl)
      try simp only [Act.put, List.setIfInBounds_toArray, List.set_cons_zero, List.set_cons_succ, List.getElem_toArray, List.getElem_cons_succ, List.getElem_cons_zero]
      refine wpAnyH_take (i := 7) (v := ?_) rfl (by kernel_rfl) (by kernel_rfl) (by kernel_rfl) (fun _ _ _ h => h) (Or.inl ⟨by rfl, ?_⟩) (by assumption) ?_
      rotate_left
      · intro w hSw; (try dsimp only at hSw); obtain ⟨x0, x1⟩ := hSw; dsimp only at x0 x1; go_simp; all_goals (with_reducible rfl)
      try simp only [Act.put, List.setIfInBounds_toArray, List.set_cons_zero, List.set_cons_succ, List.getElem_toArray, List.getElem_cons_succ, List.getElem_cons_zero]
      refine wpAnyH_ready (rs := [4, 8]) (by kernel_rfl) (by simp) ?_
      refine AllReadyH.cons rfl (fun K hK => ?_) ?_
      · have c1 := HC1.out _ kv
        go_simp
        refine hK.out _ _ hHeld (fun hHeld' => ?_)
        clear hK K hHeld'
        try simp only [Act.put, List.setIfInBounds_toArray, List.set_cons_zero, List.set_cons_succ, List.getElem_toArray, List.getElem_cons_succ, List.getElem_cons_zero]
        refine wpAnyH_ready (rs := [8]) (by kernel_rfl) (by simp) ?_
        refine AllReadyH.cons rfl (fun K hK => ?_) AllReadyH.nil
        go_simp
        have hNw := kv.size
        have hRB := rb_new1 wd (ja, jc)
        dsimp only at hRB
        refine hK.out _ _ (hHeld.keep (bw_alloc16 (Bw.refl _) _)) (fun hHeld' => ?_)
        clear hK K
        try simp only [Act.put, List.setIfInBounds_toArray, List.set_cons_zero, List.set_cons_succ, List.getElem_toArray, List.getElem_cons_succ, List.getElem_cons_zero]
        clear hHeld
        have hHeld := hHeld'
        clear hHeld'
        replace kv := bw_alloc16 kv (.cells #[.int .i64 (ja : Int), .int .i64 (jc : Int)] 48)
        refine wpAnyH_ready (rs := [9]) (by kernel_rfl) (by simp) ?_
        refine AllReadyH.cons rfl (fun K hK => ?_) AllReadyH.nil
        go_simp
        refine (HR.out _ _ kv hNw hRB).mono ?_
        rintro e w2 ⟨b', c', rfl, hRM, hbb, hX⟩
        refine hK.out _ _ (hHeld.keepx hX hPb) (fun hHeld => ?_)
        clear hK K
        try simp only [Act.put, List.setIfInBounds_toArray, List.set_cons_zero, List.set_cons_succ, List.getElem_toArray, List.getElem_cons_succ, List.getElem_cons_zero]
        obtain ⟨f1, c1⟩ := HG.out _ _ kv hX
        have hfin := HF.out _ _ _ _ kv hRM hbb hX
        generalize M.length = ml at *
        refine wpAnyH_take (i := 10) (v := ?_) rfl (by kernel_rfl) (by kernel_rfl) (by kernel_rfl) (fun _ _ _ h => h) (Or.inl ⟨by rfl, ?_⟩) (by assumption) ?_
        rotate_left
        · intro w hSw; (try dsimp only at hSw); go_simp; all_goals (with_reducible rfl)
        try simp only [Act.put, List.setIfInBounds_toArray, List.set_cons_zero, List.set_cons_succ, List.getElem_toArray, List.getElem_cons_succ, List.getElem_cons_zero]
        refine wpAnyH_take (i := 11) (v := ?_) rfl (by kernel_rfl) (by kernel_rfl) (by kernel_rfl) (fun _ _ _ h => h) (Or.inl ⟨by rfl, ?_⟩) (by assumption) ?_
        rotate_left
        · intro w hSw; (try dsimp only at hSw); go_simp; all_goals (with_reducible rfl)
        try simp only [Act.put, List.setIfInBounds_toArray, List.set_cons_zero, List.set_cons_succ, List.getElem_toArray, List.getElem_cons_succ, List.getElem_cons_zero]
        refine wpAnyH_ready (rs := [12]) (by kernel_rfl) (by simp) ?_
        refine AllReadyH.cons rfl (fun K hK => ?_) AllReadyH.nil
        go_simp
        refine hK.out _ _ (hHeld.keepx ((Bx.refl (· = g) _).put rfl) hPg) (fun hHeld => ?_)
        clear hK K
        try simp only [Act.put, List.setIfInBounds_toArray, List.set_cons_zero, List.set_cons_succ, List.getElem_toArray, List.getElem_cons_succ, List.getElem_cons_zero]
        refine wpAnyH_done (by kernel_rfl) ?_ _
        go_wp2
        go_end0
        exact ⟨rfl, hfin⟩
      refine AllReadyH.cons rfl (fun K hK => ?_) AllReadyH.nil
      go_simp
      have hNw := kv.size
      have hRB := rb_new1 wd (ja, jc)
      dsimp only at hRB
      refine hK.out _ _ (hHeld.keep (bw_alloc16 (Bw.refl _) _)) (fun hHeld' => ?_)
      clear hK K
      try simp only [Act.put, List.setIfInBounds_toArray, List.set_cons_zero, List.set_cons_succ, List.getElem_toArray, List.getElem_cons_succ, List.getElem_cons_zero]
      clear hHeld
      have hHeld := hHeld'
      clear hHeld'
      replace kv := bw_alloc16 kv (.cells #[.int .i64 (ja : Int), .int .i64 (jc : Int)] 48)
      refine wpAnyH_ready (rs := [4]) (by kernel_rfl) (by simp) ?_
      refine AllReadyH.cons rfl (fun K hK => ?_) AllReadyH.nil
      have c1 := HC1.out _ kv
      go_simp
      refine hK.out _ _ hHeld (fun hHeld' => ?_)
      clear hK K hHeld'
      try simp only [Act.put, List.setIfInBounds_toArray, List.set_cons_zero, List.set_cons_succ, List.getElem_toArray, List.getElem_cons_succ, List.getElem_cons_zero]
      refine wpAnyH_ready (rs := [9]) (by kernel_rfl) (by simp) ?_
      refine AllReadyH.cons rfl (fun K hK => ?_) AllReadyH.nil
      go_simp
      refine (HR.out _ _ kv hNw hRB).mono ?_
      rintro e w2 ⟨b', c', rfl, hRM, hbb, hX⟩
      refine hK.out _ _ (hHeld.keepx hX hPb) (fun hHeld => ?_)
      clear hK K
      try simp only [Act.put, List.setIfInBounds_toArray, List.set_cons_zero, List.set_cons_succ, List.getElem_toArray, List.getElem_cons_succ, List.getElem_cons_zero]
      obtain ⟨f1, c1⟩ := HG.out _ _ kv hX
      have hfin := HF.out _ _ _ _ kv hRM hbb hX
      generalize M.length = ml at *
      refine wpAnyH_take (i := 10) (v := ?_) rfl (by kernel_rfl) (by kernel_rfl) (by kernel_rfl) (fun _ _ _ h => h) (Or.inl ⟨by rfl, ?_⟩) (by assumption) ?_
      rotate_left
      · intro w hSw; (try dsimp only at hSw); go_simp; all_goals (with_reducible rfl)
      try simp only [Act.put, List.setIfInBounds_toArray, List.set_cons_zero, List.set_cons_succ, List.getElem_toArray, List.getElem_cons_succ, List.getElem_cons_zero]
      refine wpAnyH_take (i := 11) (v := ?_) rfl (by kernel_rfl) (by kernel_rfl) (by kernel_rfl) (fun _ _ _ h => h) (Or.inl ⟨by rfl, ?_⟩) (by assumption) ?_
      rotate_left
      · intro w hSw; (try dsimp only at hSw); go_simp; all_goals (with_reducible rfl)
      try simp only [Act.put, List.setIfInBounds_toArray, List.set_cons_zero, List.set_cons_succ, List.getElem_toArray, List.getElem_cons_succ, List.getElem_cons_zero]
      refine wpAnyH_ready (rs := [12]) (by kernel_rfl) (by simp) ?_
      refine AllReadyH.cons rfl (fun K hK => ?_) AllReadyH.nil
      go_simp
      refine hK.out _ _ (hHeld.keepx ((Bx.refl (· = g) _).put rfl) hPg) (fun hHeld => ?_)
      clear hK K
      try simp only [Act.put, List.setIfInBounds_toArray, List.set_cons_zero, List.set_cons_succ, List.getElem_toArray, List.getElem_cons_succ, List.getElem_cons_zero]
      refine wpAnyH_done (by kernel_rfl) ?_ _
      go_wp2
      go_end0
      exact ⟨rfl, hfin⟩
end Go.Proofs.Ytfdfkhmaeeonpaa
