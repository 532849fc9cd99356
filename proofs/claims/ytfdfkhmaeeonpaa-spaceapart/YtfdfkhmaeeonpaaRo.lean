/- Layer 16: Hold, Give, Free, Runs. -/
import Derived.Test.YtfdfkhmaeeonpaaRn
namespace Go.Proofs.Ytfdfkhmaeeonpaa
open Go.RowKit Go.Deep
set_option linter.unusedVariables false
set_option linter.unusedSimpArgs false

def HoldEnds (g n b : Nat) (L : List Sp.Rn) (x k : Int) (w : World) (e : Ending) (w' : World) : Prop :=
  (¬ Sp.Right n x k ∧ e = .returned (.int .i64 1) ∧ Bw w w') ∨ ∃ X K : Nat, x = (X : Int) ∧ k = (K : Int) ∧ 1 ≤ K ∧ X + K ≤ n ∧
    ((¬ Sp.AllFree L X K ∧ e = .returned (.int .i64 5) ∧ Bw w w') ∨ (Sp.AllFree L X K ∧ e = .returned (.int .i64 0) ∧ ∃ M, SpEnds g n b M w w' ∧ ∀ j, Sp.cov M j + Sp.inr (X, K) j = Sp.cov L j))
def GiveEnds (g n b : Nat) (L : List Sp.Rn) (x k : Int) (w : World) (e : Ending) (w' : World) : Prop :=
  (¬ Sp.Right n x k ∧ e = .returned (.int .i64 1) ∧ Bw w w') ∨ ∃ X K : Nat, x = (X : Int) ∧ k = (K : Int) ∧ 1 ≤ K ∧ X + K ≤ n ∧
    ((¬ Sp.NoneFree L X K ∧ e = .returned (.int .i64 4) ∧ Bw w w') ∨ (Sp.NoneFree L X K ∧ e = .returned (.int .i64 0) ∧ ∃ M, SpEnds g n b M w w' ∧ ∀ j, Sp.cov M j = Sp.cov L j + Sp.inr (X, K) j))
set_option maxRecDepth 100000 in
theorem shold_nil (x k : Int) (w : World) : Calls Try.prog 12 #[.pointer none, .agg #[.int .i64 x, .int .i64 k]] w fun e w' => e = .returned (.int .i64 8) ∧ Bw w w' := by
  have HM : Hid (∀ u, Calls Try.prog 28 #[.pointer none, .agg #[.int .i64 x, .int .i64 k]] u fun e w' => e = .returned (.int .i64 8) ∧ Bw u w') := fun u => may_nil x k u
  go_enter Try.func12, Try.ntmps12
  go_wp2_with (go_at_call 28; refine (HM.out _).mono ?_; rintro e w1 ⟨rfl, hb1⟩)
  go_ret
  exact ⟨rfl, Below.trans (Bw.alloc16x w _) (hb1.mono (by rw [size_alloc]; omega))⟩
set_option maxRecDepth 100000 in
theorem sgive_nil (x k : Int) (w : World) : Calls Try.prog 14 #[.pointer none, .agg #[.int .i64 x, .int .i64 k]] w fun e w' => e = .returned (.int .i64 8) ∧ Bw w w' := by
  have HM : Hid (∀ u, Calls Try.prog 28 #[.pointer none, .agg #[.int .i64 x, .int .i64 k]] u fun e w' => e = .returned (.int .i64 8) ∧ Bw u w') := fun u => may_nil x k u
  go_enter Try.func14, Try.ntmps14
  go_wp2_with (go_at_call 28; refine (HM.out _).mono ?_; rintro e w1 ⟨rfl, hb1⟩)
  go_ret
  exact ⟨rfl, Below.trans (Bw.alloc16x w _) (hb1.mono (by rw [size_alloc]; omega))⟩
theorem Sp.right_nat {n : Nat} {x k : Int} (h : Sp.Right n x k) : ∃ X K : Nat, x = (X : Int) ∧ k = (K : Int) ∧ 1 ≤ K ∧ X + K ≤ n := by
  unfold Sp.Right at h
  exact ⟨x.toNat, k.toNat, by omega, by omega, by omega, by omega⟩
theorem Sp.mid_get {L : List Sp.Rn} {f t i : Nat} {r : Sp.Rn} (h : ((L.drop f).take (t - f))[i]? = some r) : L[f + i]? = some r ∧ i < t - f := by
  rw [List.getElem?_take] at h
  split at h
  · rename_i hi
    rw [List.getElem?_drop] at h
    exact ⟨h, hi⟩
  · cases h
theorem Sp.mid_mem {L : List Sp.Rn} {s : Sp.Rn} {f t : Nat} (hb : Sp.Beside s L f t) {r : Sp.Rn} (hr : r ∈ L) (h1 : s.1 ≤ r.1 + r.2) (h2 : r.1 ≤ s.1 + s.2) : r ∈ (L.drop f).take (t - f) := by
  obtain ⟨j, hj⟩ := List.getElem?_of_mem hr
  have hf : f ≤ j := Nat.le_of_not_lt fun h => by have := hb.a j r hj h; omega
  have ht : j < t := Nat.lt_of_not_le fun h => by have := hb.b j r hj h; omega
  refine List.mem_of_getElem? (i := j - f) ?_
  rw [List.getElem?_take, if_pos (by omega), List.getElem?_drop, show f + (j - f) = j by omega, hj]
theorem Sp.inB_yes {s r : Sp.Rn} (hk : 1 ≤ s.2) (h : Sp.inB s r = true) : r.1 ≤ s.1 ∧ s.1 + s.2 ≤ r.1 + r.2 := by
  unfold Sp.inB at h
  simp at h
  omega
theorem Sp.inB_of {s r : Sp.Rn} (hk : 1 ≤ s.2) (h1 : r.1 ≤ s.1) (h2 : s.1 + s.2 ≤ r.1 + r.2) : Sp.inB s r = true := by
  unfold Sp.inB
  simp
  omega
theorem Sp.meetB_no {s r : Sp.Rn} (hr : 1 ≤ r.2) (hk : 1 ≤ s.2) (h : Sp.meetB s r = false) : r.1 + r.2 ≤ s.1 ∨ s.1 + s.2 ≤ r.1 := by
  unfold Sp.meetB at h
  simp at h
  omega
theorem Sp.meetB_yes {s r : Sp.Rn} (hr : 1 ≤ r.2) (hk : 1 ≤ s.2) (h : Sp.meetB s r = true) : ¬ (r.1 + r.2 ≤ s.1 ∨ s.1 + s.2 ≤ r.1) := by
  unfold Sp.meetB at h
  simp at h
  omega
set_option maxRecDepth 100000 in
set_option maxHeartbeats 4000000 in
theorem shold_any {w : World} {g n b c : Nat} {L : List Sp.Rn} (hs : SpAt w g n b c L) (x k : Int) (x0 : -9223372036854775808 ≤ x ∧ x < 9223372036854775808) (k0 : -9223372036854775808 ≤ k ∧ k < 9223372036854775808) :
    Calls Try.prog 12 #[.pointer (some ⟨g, 0, none⟩), .agg #[.int .i64 x, .int .i64 k]] w fun e w' => HoldEnds g n b L x k w e w' := by
  by_cases hR : Sp.Right n x k
  · have HM : Hid (∀ u, Bw w u → Calls Try.prog 28 #[.pointer (some ⟨g, 0, none⟩), .agg #[.int .i64 x, .int .i64 k]] u fun e w' => e = .returned (.int .i64 0) ∧ Bw u w') := fun u ku => may_yes (hs.keep ku) x k x0 k0 hR
    obtain ⟨X, K, rfl, rfl, hK, hXK⟩ := Sp.right_nat hR
    have hn1 := hs.n1
    have hfew := hs.few
    have hcle := hs.row.le
    have hcap : c ≤ 9223372036854775807 := by have := hs.row.cap; unfold maxLen at this; omega
    have HB : Hid (∀ u, Bw w u → Calls Try.prog 29 #[.pointer (some ⟨g, 0, none⟩), .agg #[.int .i64 (X : Int), .int .i64 (K : Int)]] u fun e w' => BesideEnds (X, K) L u e w') := fun u ku => beside_any (hs.keep ku) (X, K) (by dsimp only; omega)
    have HS : Hid (SpAt w g n b c L) := hs
    obtain ⟨m, hm⟩ : ∃ m, Hid (L.length = m) := ⟨_, rfl⟩
    have HC : Hid (∀ v, Bw w v → v.cell? ⟨g, 1, none⟩ = some (.slice (some ⟨b, 0, none⟩) m c)) := fun v kv => by rw [← hm.out]; exact (HS.out.keep kv).c1
    rw [hm.out] at hfew hcle
    obtain ⟨P, hP⟩ : ∃ P, Hid (w.heap.size = P) := ⟨_, rfl⟩
    obtain ⟨W0, hW0⟩ : ∃ W, W = w.alloc (.cells #[.int .i64 (X : Int), .int .i64 (K : Int)] 32) := ⟨_, rfl⟩
    have kW : Bw w W0 := by rw [hW0]; exact bw_alloc16 (Bw.refl _) _
    have B0 : Box1 W0 P (X, K) := by rw [hW0, ← hP.out]; exact box1_new w (X, K) _
    have HBx : Hid (∀ v, Bw W0 v → Box1 v P (X, K)) := fun v kv => B0.keep kv
    obtain ⟨y0, y1⟩ := B0
    dsimp only at y0 y1
    clear hs hR x0 k0
    go_enter Try.func12, Try.ntmps12
    go_upto_region 1 with fail
    rw [← hW0, hP.out]
    clear hW0
    go_upto_region 5 with (first
      | (go_at_call 28; refine (HM.out _ kW).mono ?_; rintro e w1 ⟨rfl, hb1⟩; obtain ⟨z0, z1⟩ := HBx.out _ hb1; dsimp only at z0 z1)
      | (go_at_call 29; refine (HB.out _ (kW.trans hb1)).mono ?_; rintro e w2 ⟨f, t, rfl, hbes, hb2⟩; have hbes : Hid _ := hbes))
    have hB2 := HBx.out _ (hb1.trans hb2)
    have kw2 : Bw w w2 := (kW.trans hb1).trans hb2
    have cw2 := HC.out _ kw2
    obtain ⟨Mid, hMid⟩ : ∃ M, Hid ((L.drop f).take (t - f) = M) := ⟨_, rfl⟩
    have hft := hbes.out.ft
    have htm := hbes.out.le
    rw [hm.out] at htm
    have hml : Mid.length = t - f := by have := hm.out; rw [← hMid.out]; simp only [List.length_take, List.length_drop]; omega
    obtain ⟨A0, hA0⟩ : ∃ A, (if c = f then some (⟨b, 0, none⟩ : Addr) else some ⟨b, f * 2, none⟩) = A := ⟨_, rfl⟩
    have HQ : Hid (∀ v, Bw w v → RsAt v A0 Mid) := fun v kv => by
      have h1 := ((HS.out.keep kv).row.src f).take (t - f)
      rw [hMid.out] at h1
      rw [← hA0]
      by_cases hcf : c = f
      · exact .inl (List.eq_nil_of_length_eq_zero (by omega))
      · rw [if_neg hcf]; exact h1
    have HMs : Hid (∀ r ∈ Mid, r.1 + r.2 ≤ 1099511627776) := fun r hr => HS.out.sm r (List.mem_of_mem_drop (List.mem_of_mem_take (by rw [hMid.out]; exact hr)))
    have f0 : (0 : Int) ≤ (f : Int) := Int.natCast_nonneg _
    have ft1 : (f : Int) ≤ (t : Int) := by omega
    have tm1 : (t : Int) ≤ (m : Int) := by omega
    have tc1 : (t : Int) ≤ (c : Int) := by omega
    have tc2 : t ≤ c := by omega
    have HI0 : Hid (∀ u, Bw w u → Calls Try.prog 23 #[.slice A0 (t - f) (c - f), .func (.func 30) #[.agg #[.int .i64 (X : Int), .int .i64 (K : Int)]] #[]] u fun e w' => e = .returned (.int .i64 (Sp.idx Mid (fun r : Sp.Rn => Sp.inB (X, K) r))) ∧ Bw u w') := fun u ku => by
      have := index_in (X, K) (by dsimp only; omega) hK A0 (c - f) Mid (by omega) u (HQ.out u ku) HMs.out
      rw [hml] at this
      exact this
    rcases Sp.idx_cases Mid (fun r : Sp.Rn => Sp.inB (X, K) r) with ⟨e1, e2⟩ | ⟨i, r, e1, e2, e3, -⟩
    · have HE : Hid (∀ w', Bw w w' → HoldEnds g n b L (X : Int) (K : Int) w (.returned (.int .i64 5)) w') := fun w' kb => .inr ⟨X, K, rfl, rfl, hK, hXK, .inl ⟨fun ha => by
        obtain ⟨r, hr, h1, h2⟩ := (Sp.allfree_in HS.out.norm hK).1 ha
        have h3 := Sp.mid_mem hbes.out hr (by dsimp only; omega) (by dsimp only; omega)
        rw [hMid.out] at h3
        have h4 := e2 r h3
        rw [Sp.inB_of (s := (X, K)) hK h1 h2] at h4
        exact Bool.noConfusion h4, rfl, kb⟩⟩
      rw [e1] at HI0
      have HI := HI0
      clear HI0 e1 e2 HMs HQ HM HB
      refine wp_region_held_drew (S := fun v => Box1 v P (X, K) ∧ v.cell? ⟨g, 1, none⟩ = some (.slice (some ⟨b, 0, none⟩) m c)) (by kernel_rfl) (⟨hB2.keep ((Bw.refl _).drew), keep_cell16 cw2 ((Bw.refl _).drew)⟩) (fun hHeld => ?_)
      have kv : Bw w2 w2.drew := (Bw.refl _).drew
      generalize w2.drew = wd at *
      refine wpAnyH_take (i := 0) (v := ?_) rfl (by kernel_rfl) (by kernel_rfl) (by kernel_rfl) (fun _ _ _ h => h) (Or.inl ⟨by rfl, ?_⟩) (by assumption) ?_
      rotate_left
      · intro w hSw; (try dsimp only at hSw); go_simp; all_goals (with_reducible rfl)
      try simp only [Act.put, List.setIfInBounds_toArray, List.set_cons_zero, List.set_cons_succ, List.getElem_toArray, List.getElem_cons_succ, List.getElem_cons_zero]
      refine wpAnyH_take (i := 1) (v := ?_) rfl (by kernel_rfl) (by kernel_rfl) (by kernel_rfl) (fun _ _ _ h => h) (Or.inl ⟨by rfl, ?_⟩) (by assumption) ?_
      rotate_left
      · intro w hSw; (try dsimp only at hSw); go_simp; all_goals (with_reducible rfl)
      try simp only [Act.put, List.setIfInBounds_toArray, List.set_cons_zero, List.set_cons_succ, List.getElem_toArray, List.getElem_cons_succ, List.getElem_cons_zero]
      refine wpAnyH_take (i := 2) (v := ?_) rfl (by kernel_rfl) (by kernel_rfl) (by kernel_rfl) (fun _ _ _ h => h) (Or.inl ⟨by rfl, ?_⟩) (by assumption) ?_
      rotate_left
      · intro w hSw; (try dsimp only at hSw); go_simp; all_goals (with_reducible rfl)
      try simp only [Act.put, List.setIfInBounds_toArray, List.set_cons_zero, List.set_cons_succ, List.getElem_toArray, List.getElem_cons_succ, List.getElem_cons_zero]
      refine wpAnyH_take (i := 3) (v := ?_) rfl (by kernel_rfl) (by kernel_rfl) (by kernel_rfl) (fun _ _ _ h => h) (Or.inl ⟨by rfl, ?_⟩) (by assumption) ?_
      rotate_left
      · intro w hSw; (try dsimp only at hSw); have c1 := hSw.2; go_simp; all_goals (with_reducible rfl)
      try simp only [Act.put, List.setIfInBounds_toArray, List.set_cons_zero, List.set_cons_succ, List.getElem_toArray, List.getElem_cons_succ, List.getElem_cons_zero]
      refine wpAnyH_take (i := 4) (v := ?_) rfl (by kernel_rfl) (by kernel_rfl) (by kernel_rfl) (fun _ _ _ h => h) (Or.inl ⟨by rfl, ?_⟩) (by assumption) ?_
      rotate_left
      · intro w hSw; (try dsimp only at hSw); go_simp; all_goals (with_reducible rfl)
      try simp only [Act.put, List.setIfInBounds_toArray, List.set_cons_zero, List.set_cons_succ, List.getElem_toArray, List.getElem_cons_succ, List.getElem_cons_zero]
      refine wpAnyH_take (i := 5) (v := ?_) rfl (by kernel_rfl) (by kernel_rfl) (by kernel_rfl) (fun _ _ _ h => h) (Or.inl ⟨by rfl, ?_⟩) (by assumption) ?_
      rotate_left
      · intro w hSw; (try dsimp only at hSw); go_simp; all_goals (with_reducible rfl)
      try simp only [Act.put, List.setIfInBounds_toArray, List.set_cons_zero, List.set_cons_succ, List.getElem_toArray, List.getElem_cons_succ, List.getElem_cons_zero]
      refine wpAnyH_take (i := 6) (v := ?_) rfl (by kernel_rfl) (by kernel_rfl) (by kernel_rfl) (fun _ _ _ h => h) (Or.inl ⟨by rfl, ?_⟩) (by assumption) ?_
      rotate_left
      · intro w hSw; (try dsimp only at hSw); go_simp; all_goals (with_reducible rfl)
      try simp only [Act.put, List.setIfInBounds_toArray, List.set_cons_zero, List.set_cons_succ, List.getElem_toArray, List.getElem_cons_succ, List.getElem_cons_zero]
      refine wpAnyH_take (i := 7) (v := ?_) rfl (by kernel_rfl) (by kernel_rfl) (by kernel_rfl) (fun _ _ _ h => h) (Or.inl ⟨by rfl, ?_⟩) (by assumption) ?_
      rotate_left
      · intro w hSw; (try dsimp only at hSw); obtain ⟨x0, x1⟩ := hSw.1; dsimp only at x0 x1; go_simp; all_goals (with_reducible rfl)
      try simp only [Act.put, List.setIfInBounds_toArray, List.set_cons_zero, List.set_cons_succ, List.getElem_toArray, List.getElem_cons_succ, List.getElem_cons_zero]
      refine wpAnyH_take (i := 8) (v := ?_) rfl (by kernel_rfl) (by kernel_rfl) (by kernel_rfl) (fun _ _ _ h => h) (Or.inl ⟨by rfl, ?_⟩) (by assumption) ?_
      rotate_left
      · intro w hSw; (try dsimp only at hSw); go_simp; all_goals (with_reducible rfl)
      try simp only [Act.put, List.setIfInBounds_toArray, List.set_cons_zero, List.set_cons_succ, List.getElem_toArray, List.getElem_cons_succ, List.getElem_cons_zero]
      refine wpAnyH_ready (rs := [9]) (by kernel_rfl) (by simp) ?_
      refine AllReadyH.cons rfl (fun K hK => ?_) AllReadyH.nil
      go_simp
      refine (HI.out _ (kw2.trans kv)).mono ?_
      rintro e w3 ⟨rfl, hb3⟩
      refine hK.out _ _ ⟨hHeld.1.keep hb3, keep_cell16 hHeld.2 hb3⟩ (fun hHeld' => ?_)
      clear hK K
      try simp only [Act.put, List.setIfInBounds_toArray, List.set_cons_zero, List.set_cons_succ, List.getElem_toArray, List.getElem_cons_succ, List.getElem_cons_zero]
      refine wpAnyH_take (i := 10) (v := ?_) rfl (by kernel_rfl) (by kernel_rfl) (by kernel_rfl) (fun _ _ _ h => h) (Or.inl ⟨by rfl, ?_⟩) (by assumption) ?_
      rotate_left
      · intro w hSw; (try dsimp only at hSw); go_simp; all_goals (with_reducible rfl)
      try simp only [Act.put, List.setIfInBounds_toArray, List.set_cons_zero, List.set_cons_succ, List.getElem_toArray, List.getElem_cons_succ, List.getElem_cons_zero]
      refine wpAnyH_done (by kernel_rfl) ?_ _
      have kw3 : Bw w w3 := (kw2.trans kv).trans hb3
      obtain ⟨⟨z2, z3⟩, -⟩ := hHeld'
      dsimp only at z2 z3
      go_wp2
      go_ret
      exact HE.out _ kw3
    · have h5 := e2
      rw [← hMid.out] at h5
      obtain ⟨h6, h7⟩ := Sp.mid_get h5
      obtain ⟨h8, h9⟩ := Sp.inB_yes hK e3
      dsimp only at h8 h9
      obtain ⟨hcN, hcov⟩ := Sp.cut_at HS.out.norm h6 h8 h9 hK
      have HCut : Hid (∀ u, Bw w u → Calls Try.prog 25 #[.pointer (some ⟨g, 0, none⟩), .int .i64 ((f : Int) + (i : Int)), .agg #[.int .i64 (X : Int), .int .i64 (K : Int)]] u fun e w' => e = .returned (.tuple #[]) ∧ Hid (HoldEnds g n b L (X : Int) (K : Int) w (.returned (.int .i64 0)) w')) := fun u ku => by
        have := cut_any (HS.out.keep ku) h6 X K h8 h9 hK
        rw [show ((f + i : Nat) : Int) = (f : Int) + (i : Int) by omega] at this
        refine this.mono ?_
        rintro e w' ⟨rfl, hh⟩
        exact ⟨rfl, .inr ⟨X, K, rfl, rfl, hK, hXK, .inr ⟨(Sp.allfree_in HS.out.norm hK).2 ⟨r, List.mem_of_getElem? h6, h8, h9⟩, rfl, _, hh.after ku, hcov⟩⟩⟩
      rw [e1] at HI0
      have HI := HI0
      have i0 : (0 : Int) ≤ (i : Int) := Int.natCast_nonneg _
      have d3 : decide ((i : Int) < 0) = false := by rw [decide_eq_false_iff_not]; omega
      have i1 : (i : Int) ≤ 65536 := by omega
      have f1 : (f : Int) ≤ 65536 := by omega
      clear HI0 e1 e2 HMs HQ HM HB e3 h5 h6 h7 h8 h9 hcN hcov
      refine wp_region_held_drew (S := fun v => Box1 v P (X, K) ∧ v.cell? ⟨g, 1, none⟩ = some (.slice (some ⟨b, 0, none⟩) m c)) (by kernel_rfl) (⟨hB2.keep ((Bw.refl _).drew), keep_cell16 cw2 ((Bw.refl _).drew)⟩) (fun hHeld => ?_)
      have kv : Bw w2 w2.drew := (Bw.refl _).drew
      generalize w2.drew = wd at *
      refine wpAnyH_take (i := 0) (v := ?_) rfl (by kernel_rfl) (by kernel_rfl) (by kernel_rfl) (fun _ _ _ h => h) (Or.inl ⟨by rfl, ?_⟩) (by assumption) ?_
      rotate_left
      · intro w hSw; (try dsimp only at hSw); go_simp; all_goals (with_reducible rfl)
      try simp only [Act.put, List.setIfInBounds_toArray, List.set_cons_zero, List.set_cons_succ, List.getElem_toArray, List.getElem_cons_succ, List.getElem_cons_zero]
      refine wpAnyH_take (i := 1) (v := ?_) rfl (by kernel_rfl) (by kernel_rfl) (by kernel_rfl) (fun _ _ _ h => h) (Or.inl ⟨by rfl, ?_⟩) (by assumption) ?_
      rotate_left
      · intro w hSw; (try dsimp only at hSw); go_simp; all_goals (with_reducible rfl)
      try simp only [Act.put, List.setIfInBounds_toArray, List.set_cons_zero, List.set_cons_succ, List.getElem_toArray, List.getElem_cons_succ, List.getElem_cons_zero]
      refine wpAnyH_take (i := 2) (v := ?_) rfl (by kernel_rfl) (by kernel_rfl) (by kernel_rfl) (fun _ _ _ h => h) (Or.inl ⟨by rfl, ?_⟩) (by assumption) ?_
      rotate_left
      · intro w hSw; (try dsimp only at hSw); go_simp; all_goals (with_reducible rfl)
      try simp only [Act.put, List.setIfInBounds_toArray, List.set_cons_zero, List.set_cons_succ, List.getElem_toArray, List.getElem_cons_succ, List.getElem_cons_zero]
      refine wpAnyH_take (i := 3) (v := ?_) rfl (by kernel_rfl) (by kernel_rfl) (by kernel_rfl) (fun _ _ _ h => h) (Or.inl ⟨by rfl, ?_⟩) (by assumption) ?_
      rotate_left
      · intro w hSw; (try dsimp only at hSw); have c1 := hSw.2; go_simp; all_goals (with_reducible rfl)
      try simp only [Act.put, List.setIfInBounds_toArray, List.set_cons_zero, List.set_cons_succ, List.getElem_toArray, List.getElem_cons_succ, List.getElem_cons_zero]
      refine wpAnyH_take (i := 4) (v := ?_) rfl (by kernel_rfl) (by kernel_rfl) (by kernel_rfl) (fun _ _ _ h => h) (Or.inl ⟨by rfl, ?_⟩) (by assumption) ?_
      rotate_left
      · intro w hSw; (try dsimp only at hSw); go_simp; all_goals (with_reducible rfl)
      try simp only [Act.put, List.setIfInBounds_toArray, List.set_cons_zero, List.set_cons_succ, List.getElem_toArray, List.getElem_cons_succ, List.getElem_cons_zero]
      refine wpAnyH_take (i := 5) (v := ?_) rfl (by kernel_rfl) (by kernel_rfl) (by kernel_rfl) (fun _ _ _ h => h) (Or.inl ⟨by rfl, ?_⟩) (by assumption) ?_
      rotate_left
      · intro w hSw; (try dsimp only at hSw); go_simp; all_goals (with_reducible rfl)
      try simp only [Act.put, List.setIfInBounds_toArray, List.set_cons_zero, List.set_cons_succ, List.getElem_toArray, List.getElem_cons_succ, List.getElem_cons_zero]
      refine wpAnyH_take (i := 6) (v := ?_) rfl (by kernel_rfl) (by kernel_rfl) (by kernel_rfl) (fun _ _ _ h => h) (Or.inl ⟨by rfl, ?_⟩) (by assumption) ?_
      rotate_left
      · intro w hSw; (try dsimp only at hSw); go_simp; all_goals (with_reducible rfl)
      try simp only [Act.put, List.setIfInBounds_toArray, List.set_cons_zero, List.set_cons_succ, List.getElem_toArray, List.getElem_cons_succ, List.getElem_cons_zero]
      refine wpAnyH_take (i := 7) (v := ?_) rfl (by kernel_rfl) (by kernel_rfl) (by kernel_rfl) (fun _ _ _ h => h) (Or.inl ⟨by rfl, ?_⟩) (by assumption) ?_
      rotate_left
      · intro w hSw; (try dsimp only at hSw); obtain ⟨x0, x1⟩ := hSw.1; dsimp only at x0 x1; go_simp; all_goals (with_reducible rfl)
      try simp only [Act.put, List.setIfInBounds_toArray, List.set_cons_zero, List.set_cons_succ, List.getElem_toArray, List.getElem_cons_succ, List.getElem_cons_zero]
      refine wpAnyH_take (i := 8) (v := ?_) rfl (by kernel_rfl) (by kernel_rfl) (by kernel_rfl) (fun _ _ _ h => h) (Or.inl ⟨by rfl, ?_⟩) (by assumption) ?_
      rotate_left
      · intro w hSw; (try dsimp only at hSw); go_simp; all_goals (with_reducible rfl)
      try simp only [Act.put, List.setIfInBounds_toArray, List.set_cons_zero, List.set_cons_succ, List.getElem_toArray, List.getElem_cons_succ, List.getElem_cons_zero]
      refine wpAnyH_ready (rs := [9]) (by kernel_rfl) (by simp) ?_
      refine AllReadyH.cons rfl (fun K hK => ?_) AllReadyH.nil
      go_simp
      refine (HI.out _ (kw2.trans kv)).mono ?_
      rintro e w3 ⟨rfl, hb3⟩
      refine hK.out _ _ ⟨hHeld.1.keep hb3, keep_cell16 hHeld.2 hb3⟩ (fun hHeld' => ?_)
      clear hK K
      try simp only [Act.put, List.setIfInBounds_toArray, List.set_cons_zero, List.set_cons_succ, List.getElem_toArray, List.getElem_cons_succ, List.getElem_cons_zero]
      refine wpAnyH_take (i := 10) (v := ?_) rfl (by kernel_rfl) (by kernel_rfl) (by kernel_rfl) (fun _ _ _ h => h) (Or.inl ⟨by rfl, ?_⟩) (by assumption) ?_
      rotate_left
      · intro w hSw; (try dsimp only at hSw); go_simp; all_goals (with_reducible rfl)
      try simp only [Act.put, List.setIfInBounds_toArray, List.set_cons_zero, List.set_cons_succ, List.getElem_toArray, List.getElem_cons_succ, List.getElem_cons_zero]
      refine wpAnyH_done (by kernel_rfl) ?_ _
      have kw3 : Bw w w3 := (kw2.trans kv).trans hb3
      obtain ⟨⟨z2, z3⟩, -⟩ := hHeld'
      dsimp only at z2 z3
      go_wp2_with (go_at_call 25; refine (HCut.out _ kw3).mono ?_; rintro e w4 ⟨rfl, hh⟩)
      go_ret
      exact hh.out
  · have HM : Hid (∀ u, Bw w u → Calls Try.prog 28 #[.pointer (some ⟨g, 0, none⟩), .agg #[.int .i64 x, .int .i64 k]] u fun e w' => e = .returned (.int .i64 1) ∧ Bw u w') := fun u ku => may_no (hs.keep ku) x k x0 k0 hR
    have HE : Hid (∀ w', Bw w w' → HoldEnds g n b L x k w (.returned (.int .i64 1)) w') := fun w' kb => .inl ⟨hR, rfl, kb⟩
    have kW := Bw.alloc16x w (.cells #[.int .i64 x, .int .i64 k] 32)
    clear hs hR x0 k0
    go_enter Try.func12, Try.ntmps12
    go_wp2_with (go_at_call 28; refine (HM.out _ kW).mono ?_; rintro e w1 ⟨rfl, hb1⟩)
    go_ret
    exact HE.out _ (kW.trans hb1)
set_option maxRecDepth 100000 in
set_option maxHeartbeats 4000000 in
theorem sgive_any {w : World} {g n b c : Nat} {L : List Sp.Rn} (hs : SpAt w g n b c L) (x k : Int) (x0 : -9223372036854775808 ≤ x ∧ x < 9223372036854775808) (k0 : -9223372036854775808 ≤ k ∧ k < 9223372036854775808) :
    Calls Try.prog 14 #[.pointer (some ⟨g, 0, none⟩), .agg #[.int .i64 x, .int .i64 k]] w fun e w' => GiveEnds g n b L x k w e w' := by
  by_cases hR : Sp.Right n x k
  · have HM : Hid (∀ u, Bw w u → Calls Try.prog 28 #[.pointer (some ⟨g, 0, none⟩), .agg #[.int .i64 x, .int .i64 k]] u fun e w' => e = .returned (.int .i64 0) ∧ Bw u w') := fun u ku => may_yes (hs.keep ku) x k x0 k0 hR
    obtain ⟨X, K, rfl, rfl, hK, hXK⟩ := Sp.right_nat hR
    have hn1 := hs.n1
    have hfew := hs.few
    have hcle := hs.row.le
    have hcap : c ≤ 9223372036854775807 := by have := hs.row.cap; unfold maxLen at this; omega
    have HB : Hid (∀ u, Bw w u → Calls Try.prog 29 #[.pointer (some ⟨g, 0, none⟩), .agg #[.int .i64 (X : Int), .int .i64 (K : Int)]] u fun e w' => BesideEnds (X, K) L u e w') := fun u ku => beside_any (hs.keep ku) (X, K) (by dsimp only; omega)
    have HS : Hid (SpAt w g n b c L) := hs
    obtain ⟨m, hm⟩ : ∃ m, Hid (L.length = m) := ⟨_, rfl⟩
    have HC : Hid (∀ v, Bw w v → v.cell? ⟨g, 1, none⟩ = some (.slice (some ⟨b, 0, none⟩) m c)) := fun v kv => by rw [← hm.out]; exact (HS.out.keep kv).c1
    rw [hm.out] at hfew hcle
    obtain ⟨P, hP⟩ : ∃ P, Hid (w.heap.size = P) := ⟨_, rfl⟩
    obtain ⟨W0, hW0⟩ : ∃ W, W = w.alloc (.cells #[.int .i64 (X : Int), .int .i64 (K : Int)] 32) := ⟨_, rfl⟩
    have kW : Bw w W0 := by rw [hW0]; exact bw_alloc16 (Bw.refl _) _
    have B0 : Box1 W0 P (X, K) := by rw [hW0, ← hP.out]; exact box1_new w (X, K) _
    have HBx : Hid (∀ v, Bw W0 v → Box1 v P (X, K)) := fun v kv => B0.keep kv
    obtain ⟨y0, y1⟩ := B0
    dsimp only at y0 y1
    clear hs hR x0 k0
    go_enter Try.func14, Try.ntmps14
    go_upto_region 1 with fail
    rw [← hW0, hP.out]
    clear hW0
    go_upto_region 5 with (first
      | (go_at_call 28; refine (HM.out _ kW).mono ?_; rintro e w1 ⟨rfl, hb1⟩; obtain ⟨z0, z1⟩ := HBx.out _ hb1; dsimp only at z0 z1)
      | (go_at_call 29; refine (HB.out _ (kW.trans hb1)).mono ?_; rintro e w2 ⟨f, t, rfl, hbes, hb2⟩; have hbes : Hid _ := hbes))
    have hB2 := HBx.out _ (hb1.trans hb2)
    have kw2 : Bw w w2 := (kW.trans hb1).trans hb2
    have cw2 := HC.out _ kw2
    obtain ⟨Mid, hMid⟩ : ∃ M, Hid ((L.drop f).take (t - f) = M) := ⟨_, rfl⟩
    have hft := hbes.out.ft
    have htm := hbes.out.le
    rw [hm.out] at htm
    have hml : Mid.length = t - f := by have := hm.out; rw [← hMid.out]; simp only [List.length_take, List.length_drop]; omega
    obtain ⟨A0, hA0⟩ : ∃ A, (if c = f then some (⟨b, 0, none⟩ : Addr) else some ⟨b, f * 2, none⟩) = A := ⟨_, rfl⟩
    have HQ : Hid (∀ v, Bw w v → RsAt v A0 Mid) := fun v kv => by
      have h1 := ((HS.out.keep kv).row.src f).take (t - f)
      rw [hMid.out] at h1
      rw [← hA0]
      by_cases hcf : c = f
      · exact .inl (List.eq_nil_of_length_eq_zero (by omega))
      · rw [if_neg hcf]; exact h1
    have HMs : Hid (∀ r ∈ Mid, r.1 + r.2 ≤ 1099511627776) := fun r hr => HS.out.sm r (List.mem_of_mem_drop (List.mem_of_mem_take (by rw [hMid.out]; exact hr)))
    have f0 : (0 : Int) ≤ (f : Int) := Int.natCast_nonneg _
    have ft1 : (f : Int) ≤ (t : Int) := by omega
    have tm1 : (t : Int) ≤ (m : Int) := by omega
    have tc1 : (t : Int) ≤ (c : Int) := by omega
    have tc2 : t ≤ c := by omega
    have HI0 : Hid (∀ u, Bw w u → Calls Try.prog 32 #[.slice A0 (t - f) (c - f), .func (.func 33) #[.agg #[.int .i64 (X : Int), .int .i64 (K : Int)]] #[]] u fun e w' => e = .returned (.bool (Mid.any fun r => Sp.meetB (X, K) r)) ∧ Bw u w') := fun u ku => by
      have := contains_any (X, K) (by dsimp only; omega) A0 (c - f) Mid (by omega) u (HQ.out u ku) HMs.out
      rw [hml] at this
      exact this
    obtain ⟨B, hB⟩ : ∃ B, Hid ((Mid.any fun r => Sp.meetB (X, K) r) = B) := ⟨_, rfl⟩
    rw [hB.out] at HI0
    cases B with
    | true =>
      have HE : Hid (∀ w', Bw w w' → GiveEnds g n b L (X : Int) (K : Int) w (.returned (.int .i64 4)) w') := fun w' kb => .inr ⟨X, K, rfl, rfl, hK, hXK, .inl ⟨fun ha => by
        obtain ⟨r, hr, h1⟩ := List.any_eq_true.1 hB.out
        have hr' : r ∈ L := List.mem_of_mem_drop (List.mem_of_mem_take (by rw [hMid.out]; exact hr))
        exact Sp.meetB_yes (s := (X, K)) (HS.out.norm.ok r hr').1 hK h1 ((Sp.nonefree_meets HS.out.norm hK).1 ha r hr'), rfl, kb⟩⟩
      have HI := HI0
      clear HI0 HMs HQ HM HB hB
      refine wp_region_held_drew (S := fun v => Box1 v P (X, K) ∧ v.cell? ⟨g, 1, none⟩ = some (.slice (some ⟨b, 0, none⟩) m c)) (by kernel_rfl) (⟨hB2.keep ((Bw.refl _).drew), keep_cell16 cw2 ((Bw.refl _).drew)⟩) (fun hHeld => ?_)
      have kv : Bw w2 w2.drew := (Bw.refl _).drew
      generalize w2.drew = wd at *
      refine wpAnyH_take (i := 0) (v := ?_) rfl (by kernel_rfl) (by kernel_rfl) (by kernel_rfl) (fun _ _ _ h => h) (Or.inl ⟨by rfl, ?_⟩) (by assumption) ?_
      rotate_left
      · intro w hSw; (try dsimp only at hSw); go_simp; all_goals (with_reducible rfl)
      try simp only [Act.put, List.setIfInBounds_toArray, List.set_cons_zero, List.set_cons_succ, List.getElem_toArray, List.getElem_cons_succ, List.getElem_cons_zero]
      refine wpAnyH_take (i := 1) (v := ?_) rfl (by kernel_rfl) (by kernel_rfl) (by kernel_rfl) (fun _ _ _ h => h) (Or.inl ⟨by rfl, ?_⟩) (by assumption) ?_
      rotate_left
      · intro w hSw; (try dsimp only at hSw); go_simp; all_goals (with_reducible rfl)
      try simp only [Act.put, List.setIfInBounds_toArray, List.set_cons_zero, List.set_cons_succ, List.getElem_toArray, List.getElem_cons_succ, List.getElem_cons_zero]
      refine wpAnyH_take (i := 2) (v := ?_) rfl (by kernel_rfl) (by kernel_rfl) (by kernel_rfl) (fun _ _ _ h => h) (Or.inl ⟨by rfl, ?_⟩) (by assumption) ?_
      rotate_left
      · intro w hSw; (try dsimp only at hSw); go_simp; all_goals (with_reducible rfl)
      try simp only [Act.put, List.setIfInBounds_toArray, List.set_cons_zero, List.set_cons_succ, List.getElem_toArray, List.getElem_cons_succ, List.getElem_cons_zero]
      refine wpAnyH_take (i := 3) (v := ?_) rfl (by kernel_rfl) (by kernel_rfl) (by kernel_rfl) (fun _ _ _ h => h) (Or.inl ⟨by rfl, ?_⟩) (by assumption) ?_
      rotate_left
      · intro w hSw; (try dsimp only at hSw); have c1 := hSw.2; go_simp; all_goals (with_reducible rfl)
      try simp only [Act.put, List.setIfInBounds_toArray, List.set_cons_zero, List.set_cons_succ, List.getElem_toArray, List.getElem_cons_succ, List.getElem_cons_zero]
      refine wpAnyH_take (i := 4) (v := ?_) rfl (by kernel_rfl) (by kernel_rfl) (by kernel_rfl) (fun _ _ _ h => h) (Or.inl ⟨by rfl, ?_⟩) (by assumption) ?_
      rotate_left
      · intro w hSw; (try dsimp only at hSw); go_simp; all_goals (with_reducible rfl)
      try simp only [Act.put, List.setIfInBounds_toArray, List.set_cons_zero, List.set_cons_succ, List.getElem_toArray, List.getElem_cons_succ, List.getElem_cons_zero]
      refine wpAnyH_take (i := 5) (v := ?_) rfl (by kernel_rfl) (by kernel_rfl) (by kernel_rfl) (fun _ _ _ h => h) (Or.inl ⟨by rfl, ?_⟩) (by assumption) ?_
      rotate_left
      · intro w hSw; (try dsimp only at hSw); go_simp; all_goals (with_reducible rfl)
      try simp only [Act.put, List.setIfInBounds_toArray, List.set_cons_zero, List.set_cons_succ, List.getElem_toArray, List.getElem_cons_succ, List.getElem_cons_zero]
      refine wpAnyH_take (i := 6) (v := ?_) rfl (by kernel_rfl) (by kernel_rfl) (by kernel_rfl) (fun _ _ _ h => h) (Or.inl ⟨by rfl, ?_⟩) (by assumption) ?_
      rotate_left
      · intro w hSw; (try dsimp only at hSw); go_simp; all_goals (with_reducible rfl)
      try simp only [Act.put, List.setIfInBounds_toArray, List.set_cons_zero, List.set_cons_succ, List.getElem_toArray, List.getElem_cons_succ, List.getElem_cons_zero]
      refine wpAnyH_take (i := 7) (v := ?_) rfl (by kernel_rfl) (by kernel_rfl) (by kernel_rfl) (fun _ _ _ h => h) (Or.inl ⟨by rfl, ?_⟩) (by assumption) ?_
      rotate_left
      · intro w hSw; (try dsimp only at hSw); obtain ⟨x0, x1⟩ := hSw.1; dsimp only at x0 x1; go_simp; all_goals (with_reducible rfl)
      try simp only [Act.put, List.setIfInBounds_toArray, List.set_cons_zero, List.set_cons_succ, List.getElem_toArray, List.getElem_cons_succ, List.getElem_cons_zero]
      refine wpAnyH_take (i := 8) (v := ?_) rfl (by kernel_rfl) (by kernel_rfl) (by kernel_rfl) (fun _ _ _ h => h) (Or.inl ⟨by rfl, ?_⟩) (by assumption) ?_
      rotate_left
      · intro w hSw; (try dsimp only at hSw); go_simp; all_goals (with_reducible rfl)
      try simp only [Act.put, List.setIfInBounds_toArray, List.set_cons_zero, List.set_cons_succ, List.getElem_toArray, List.getElem_cons_succ, List.getElem_cons_zero]
      refine wpAnyH_ready (rs := [9]) (by kernel_rfl) (by simp) ?_
      refine AllReadyH.cons rfl (fun K hK => ?_) AllReadyH.nil
      go_simp
      refine (HI.out _ (kw2.trans kv)).mono ?_
      rintro e w3 ⟨rfl, hb3⟩
      refine hK.out _ _ ⟨hHeld.1.keep hb3, keep_cell16 hHeld.2 hb3⟩ (fun hHeld' => ?_)
      clear hK K
      try simp only [Act.put, List.setIfInBounds_toArray, List.set_cons_zero, List.set_cons_succ, List.getElem_toArray, List.getElem_cons_succ, List.getElem_cons_zero]
      refine wpAnyH_done (by kernel_rfl) ?_ _
      have kw3 : Bw w w3 := (kw2.trans kv).trans hb3
      obtain ⟨⟨z2, z3⟩, -⟩ := hHeld'
      dsimp only at z2 z3
      go_wp2
      go_ret
      exact HE.out _ kw3
    | false =>
      have hmm : ∀ r ∈ Mid, r.1 + r.2 ≤ X ∨ X + K ≤ r.1 := fun r hr => by
        have h1 := List.any_eq_false.1 hB.out r hr
        have hr' : r ∈ L := List.mem_of_mem_drop (List.mem_of_mem_take (by rw [hMid.out]; exact hr))
        exact Sp.meetB_no (s := (X, K)) (HS.out.norm.ok r hr').1 hK (by simpa using h1)
      have hpt := Sp.parts (L := L) hft
      obtain ⟨hjN, hjc⟩ := Sp.join_norm (n := n) (A := L.take f) (M := Mid) (B := L.drop t) (x := X) (k := K) (by rw [← hMid.out, hpt]; exact HS.out.norm) hK hXK
        (fun a ha => by
          obtain ⟨j, hj⟩ := List.getElem?_of_mem ha
          rw [List.getElem?_take] at hj
          split at hj
          · rename_i hjf; exact hbes.out.a j a hj hjf
          · cases hj)
        (fun o ho => by
          obtain ⟨j, hj⟩ := List.getElem?_of_mem ho
          rw [List.getElem?_drop] at hj
          exact hbes.out.b _ o hj (by omega))
        (fun o ho => by
          obtain ⟨j, hj⟩ := List.getElem?_of_mem ho
          rw [← hMid.out] at hj
          obtain ⟨h6, h7⟩ := Sp.mid_get hj
          exact ⟨hbes.out.m1 _ o h6 (by omega), hbes.out.m2 _ o h6 (by omega), hmm o ho⟩)
      have hnf : Sp.NoneFree L X K := (Sp.nonefree_meets HS.out.norm hK).2 (fun r hr => by
        rcases Nat.lt_or_ge (r.1 + r.2) X with h1 | h1
        · exact .inl (by omega)
        · rcases Nat.lt_or_ge (X + K) r.1 with h2 | h2
          · exact .inr (by omega)
          · have h3 := Sp.mid_mem hbes.out hr h1 h2
            rw [hMid.out] at h3
            exact hmm r h3)
      rw [← hMid.out] at hjN hjc
      rw [hpt] at hjc
      have HJoin : Hid (∀ u, Bw w u → Calls Try.prog 34 #[.pointer (some ⟨g, 0, none⟩), .int .i64 (f : Int), .int .i64 (t : Int), .agg #[.int .i64 (X : Int), .int .i64 (K : Int)]] u fun e w' => e = .returned (.tuple #[]) ∧ Hid (GiveEnds g n b L (X : Int) (K : Int) w (.returned (.int .i64 0)) w')) := fun u ku => by
        refine (join_any (HS.out.keep ku) f t X K hft (by rw [hm.out]; exact htm) (by omega) hjN).mono ?_
        rintro e w' ⟨rfl, hh⟩
        exact ⟨rfl, .inr ⟨X, K, rfl, rfl, hK, hXK, .inr ⟨hnf, rfl, _, hh.after ku, hjc⟩⟩⟩
      have HI := HI0
      clear HI0 HMs HQ HM HB hB hmm hpt hjN hjc hnf
      refine wp_region_held_drew (S := fun v => Box1 v P (X, K) ∧ v.cell? ⟨g, 1, none⟩ = some (.slice (some ⟨b, 0, none⟩) m c)) (by kernel_rfl) (⟨hB2.keep ((Bw.refl _).drew), keep_cell16 cw2 ((Bw.refl _).drew)⟩) (fun hHeld => ?_)
      have kv : Bw w2 w2.drew := (Bw.refl _).drew
      generalize w2.drew = wd at *
      refine wpAnyH_take (i := 0) (v := ?_) rfl (by kernel_rfl) (by kernel_rfl) (by kernel_rfl) (fun _ _ _ h => h) (Or.inl ⟨by rfl, ?_⟩) (by assumption) ?_
      rotate_left
      · intro w hSw; (try dsimp only at hSw); go_simp; all_goals (with_reducible rfl)
      try simp only [Act.put, List.setIfInBounds_toArray, List.set_cons_zero, List.set_cons_succ, List.getElem_toArray, List.getElem_cons_succ, List.getElem_cons_zero]
      refine wpAnyH_take (i := 1) (v := ?_) rfl (by kernel_rfl) (by kernel_rfl) (by kernel_rfl) (fun _ _ _ h => h) (Or.inl ⟨by rfl, ?_⟩) (by assumption) ?_
      rotate_left
      · intro w hSw; (try dsimp only at hSw); go_simp; all_goals (with_reducible rfl)
      try simp only [Act.put, List.setIfInBounds_toArray, List.set_cons_zero, List.set_cons_succ, List.getElem_toArray, List.getElem_cons_succ, List.getElem_cons_zero]
      refine wpAnyH_take (i := 2) (v := ?_) rfl (by kernel_rfl) (by kernel_rfl) (by kernel_rfl) (fun _ _ _ h => h) (Or.inl ⟨by rfl, ?_⟩) (by assumption) ?_
      rotate_left
      · intro w hSw; (try dsimp only at hSw); go_simp; all_goals (with_reducible rfl)
      try simp only [Act.put, List.setIfInBounds_toArray, List.set_cons_zero, List.set_cons_succ, List.getElem_toArray, List.getElem_cons_succ, List.getElem_cons_zero]
      refine wpAnyH_take (i := 3) (v := ?_) rfl (by kernel_rfl) (by kernel_rfl) (by kernel_rfl) (fun _ _ _ h => h) (Or.inl ⟨by rfl, ?_⟩) (by assumption) ?_
      rotate_left
      · intro w hSw; (try dsimp only at hSw); have c1 := hSw.2; go_simp; all_goals (with_reducible rfl)
      try simp only [Act.put, List.setIfInBounds_toArray, List.set_cons_zero, List.set_cons_succ, List.getElem_toArray, List.getElem_cons_succ, List.getElem_cons_zero]
      refine wpAnyH_take (i := 4) (v := ?_) rfl (by kernel_rfl) (by kernel_rfl) (by kernel_rfl) (fun _ _ _ h => h) (Or.inl ⟨by rfl, ?_⟩) (by assumption) ?_
      rotate_left
      · intro w hSw; (try dsimp only at hSw); go_simp; all_goals (with_reducible rfl)
      try simp only [Act.put, List.setIfInBounds_toArray, List.set_cons_zero, List.set_cons_succ, List.getElem_toArray, List.getElem_cons_succ, List.getElem_cons_zero]
      refine wpAnyH_take (i := 5) (v := ?_) rfl (by kernel_rfl) (by kernel_rfl) (by kernel_rfl) (fun _ _ _ h => h) (Or.inl ⟨by rfl, ?_⟩) (by assumption) ?_
      rotate_left
      · intro w hSw; (try dsimp only at hSw); go_simp; all_goals (with_reducible rfl)
      try simp only [Act.put, List.setIfInBounds_toArray, List.set_cons_zero, List.set_cons_succ, List.getElem_toArray, List.getElem_cons_succ, List.getElem_cons_zero]
      refine wpAnyH_take (i := 6) (v := ?_) rfl (by kernel_rfl) (by kernel_rfl) (by kernel_rfl) (fun _ _ _ h => h) (Or.inl ⟨by rfl, ?_⟩) (by assumption) ?_
      rotate_left
      · intro w hSw; (try dsimp only at hSw); go_simp; all_goals (with_reducible rfl)
      try simp only [Act.put, List.setIfInBounds_toArray, List.set_cons_zero, List.set_cons_succ, List.getElem_toArray, List.getElem_cons_succ, List.getElem_cons_zero]
      refine wpAnyH_take (i := 7) (v := ?_) rfl (by kernel_rfl) (by kernel_rfl) (by kernel_rfl) (fun _ _ _ h => h) (Or.inl ⟨by rfl, ?_⟩) (by assumption) ?_
      rotate_left
      · intro w hSw; (try dsimp only at hSw); obtain ⟨x0, x1⟩ := hSw.1; dsimp only at x0 x1; go_simp; all_goals (with_reducible rfl)
      try simp only [Act.put, List.setIfInBounds_toArray, List.set_cons_zero, List.set_cons_succ, List.getElem_toArray, List.getElem_cons_succ, List.getElem_cons_zero]
      refine wpAnyH_take (i := 8) (v := ?_) rfl (by kernel_rfl) (by kernel_rfl) (by kernel_rfl) (fun _ _ _ h => h) (Or.inl ⟨by rfl, ?_⟩) (by assumption) ?_
      rotate_left
      · intro w hSw; (try dsimp only at hSw); go_simp; all_goals (with_reducible rfl)
      try simp only [Act.put, List.setIfInBounds_toArray, List.set_cons_zero, List.set_cons_succ, List.getElem_toArray, List.getElem_cons_succ, List.getElem_cons_zero]
      refine wpAnyH_ready (rs := [9]) (by kernel_rfl) (by simp) ?_
      refine AllReadyH.cons rfl (fun K hK => ?_) AllReadyH.nil
      go_simp
      refine (HI.out _ (kw2.trans kv)).mono ?_
      rintro e w3 ⟨rfl, hb3⟩
      refine hK.out _ _ ⟨hHeld.1.keep hb3, keep_cell16 hHeld.2 hb3⟩ (fun hHeld' => ?_)
      clear hK K
      try simp only [Act.put, List.setIfInBounds_toArray, List.set_cons_zero, List.set_cons_succ, List.getElem_toArray, List.getElem_cons_succ, List.getElem_cons_zero]
      refine wpAnyH_done (by kernel_rfl) ?_ _
      have kw3 : Bw w w3 := (kw2.trans kv).trans hb3
      obtain ⟨⟨z2, z3⟩, -⟩ := hHeld'
      dsimp only at z2 z3
      go_wp2_with (go_at_call 34; refine (HJoin.out _ kw3).mono ?_; rintro e w4 ⟨rfl, hh⟩)
      go_ret
      exact hh.out
  · have HM : Hid (∀ u, Bw w u → Calls Try.prog 28 #[.pointer (some ⟨g, 0, none⟩), .agg #[.int .i64 x, .int .i64 k]] u fun e w' => e = .returned (.int .i64 1) ∧ Bw u w') := fun u ku => may_no (hs.keep ku) x k x0 k0 hR
    have HE : Hid (∀ w', Bw w w' → GiveEnds g n b L x k w (.returned (.int .i64 1)) w') := fun w' kb => .inl ⟨hR, rfl, kb⟩
    have kW := Bw.alloc16x w (.cells #[.int .i64 x, .int .i64 k] 32)
    clear hs hR x0 k0
    go_enter Try.func14, Try.ntmps14
    go_wp2_with (go_at_call 28; refine (HM.out _ kW).mono ?_; rintro e w1 ⟨rfl, hb1⟩)
    go_ret
    exact HE.out _ (kW.trans hb1)
end Go.Proofs.Ytfdfkhmaeeonpaa
