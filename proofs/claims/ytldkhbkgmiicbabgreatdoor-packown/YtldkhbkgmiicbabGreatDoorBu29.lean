/- Texts of mine, put together. -/
import Derived.Test.YtldkhbkgmiicbabGreatDoorBu28
import Derived.Test.YtldkhbkgmiicbabGreatDoorBu11

/- Layer 12: the program's own lay, as landed at 16cf8173 (written by mkz6.py). -/
namespace Go.Proofs.YtldkhbkgmiicbabGreatDoor
open Go.RowKit Go.Deep
set_option linter.unusedVariables false
set_option linter.unusedSimpArgs false

theorem zero_roll (w : World) : (zeroValue 54).run Tryz.prog w = .ok (.agg #[.slice none 0 0, .int .i64 0]) w := by kernel_rfl
theorem info_roll (a b : Value) : (Tryz.prog.info? 54).map (·.size) = some (#[a, b] : Array Value).size := by kernel_rfl
theorem roll_one (A : Option Addr) (m c : Nat) (n : Int) : (#[.slice A m c, .int .i64 n] : Array Value).all (·.oneCell') = true := by simp [Value.oneCell']
/-- what a copy of a roll became, and the roll itself was left -/
theorem lay_no {base g N : Nat} {v v1 : Value} {R R1 : Pk.B} {w W w1 : World} (ha : RollAt w g v R) (ho : RollOwn w base v R) (hb : Bw w W) (hN : w.heap.size ≤ N) (h : Rolls base N v R R1 W w1 v1) : Rolls base g v R R w w1 v := by
  have hgl := ha.lt
  have hne := roll_apart ha ho
  refine ⟨(ha.keep hb).keepx h.bx (fun e => e.elim (fun e => by omega) hne), ⟨ho.1, h.stays _ _ _ _ (by omega) (own_keep ho.2 hb)⟩, Bx.new (Bx.of_bw hb) h.bx (fun x hx e => e.elim (fun e => by omega) .inr), .inl rfl, fun b u k ys hk hu => h.stays b u k ys hk (own_keep hu hb)⟩
/-- .. and the roll became it -/
theorem lay_yes {base g N : Nat} {v : Value} {A1 : Option Addr} {m1 c1 : Nat} {R R1 : Pk.B} {w W w1 : World} (ha : RollAt w g v R) (ho : RollOwn w base v R) (hb : Bw w W) (hN : w.heap.size ≤ N) (h : Rolls base N v R R1 W w1 (.slice A1 m1 c1)) :
    Rolls base g v R R1 w (w1.setRow g #[.slice A1 m1 c1, .int .i64 (R1.length : Int)]) (.slice A1 m1 c1) := by
  have hn := lay_no ha ho hb hN h
  have hgl := ha.lt
  have hne := roll_apart ha ho
  have bx2 : Bx (fun b => b = g) w1 (w1.setRow g #[.slice A1 m1 c1, .int .i64 (R1.length : Int)]) := bx_set _ _ _ rfl
  have hblk : (Value.slice A1 m1 c1).ownBlock = v.ownBlock ∨ ∃ k, (Value.slice A1 m1 c1).ownBlock = some k ∧ w.heap.size ≤ k := by
    rcases h.blk with e | ⟨k, e1, e2⟩
    · exact .inl e
    · exact .inr ⟨k, e1, Nat.le_trans hb.size e2⟩
  refine ⟨setRow_heap w1 g _ _ _ _ hn.at_, ⟨h.own.1, own_bx h.own.2 bx2 (fun x hx e => ?_)⟩, hn.bx.trans (bx2.more (fun b hb => .inl hb)), hblk, fun b u k ys hk hu => own_bx (hn.stays b u k ys hk hu) bx2 (fun x hx e => ?_)⟩
  · rcases hblk with e1 | ⟨k, e1, e2⟩
    · rw [e1] at hx; exact hne (by rw [hx, e])
    · rw [e1] at hx; cases hx; omega
  · subst e
    rcases hu.2 with ⟨e1, _⟩ | ⟨g', cap, cur, e1, _, hc, _⟩
    · rw [e1] at hx; cases hx
    · rw [e1] at hx
      cases hx
      have := ha
      unfold RollAt at this
      rw [hc] at this
      cases this
/-- what lay answers -/
def LayEnds (base g : Nat) (v : Value) (R : Pk.B) (x : Tr.It) (w : World) (e : Ending) (w' : World) : Prop :=
  (131072 < (R ++ Pk.pcs x).length + 1024 ∧ e = .returned (.int .i64 2) ∧ Rolls base g v R R w w' v) ∨ (¬ 131072 < (R ++ Pk.pcs x).length + 1024 ∧ e = .returned (.int .i64 0) ∧ ∃ v', Rolls base g v R (R ++ Pk.pcs x) w w' v')
set_option maxRecDepth 100000 in
set_option maxHeartbeats 8000000 in
theorem lay_any (base g : Nat) (y : Tr.Iv) (R : Pk.B) (v : Value) (hR : R.length ≤ 1048576) (hm : Tr.mayE y.it = 0) (w : World) (hbase : base ≤ w.heap.size) (ha : RollAt w g v R) (ho : RollOwn w base v R) (hy : BodyAt w y) (hap : Apart w y.ad y.it.body.length g v) (hk : ∀ u, Below base w u → KTAt u) :
    Calls Tryz.prog 24 #[.pointer (some ⟨g, 0, none⟩), .agg y.arr] w fun e w' => LayEnds base g v R y.it w e w' := by
  obtain ⟨Av, cv, hve⟩ := own_slice ho.2
  generalize R.length / 512 = mv at hve
  subst hve
  have hkind := Tr.may_kind hm
  have hbody := Pk.may_body hm
  have hfit := hy.fit
  have hfl := Pk.front_len y.it
  have hpl := Pk.pcs_len y.it
  have hrl := Pk.recs_len y.it
  have hgl := ha.lt
  have hz := zero_roll
  have hiI := info_it y
  obtain ⟨L, hL⟩ : ∃ L, Hid (Pk.prsOf y.it = L) := ⟨_, rfl⟩
  have HPr : Hid (∀ u, Calls Tryz.prog 26 #[.agg y.arr] u fun e w' => (∃ vp, e = .returned vp ∧ w'.ownsRow u.heap.size 42 2 vp L.length (Px.cellsPr L)) ∧ Bw u w') := fun u => by
    have := pairsof_any y hfit (Pk.spl_says y.it.path) u
    rw [show Pk.prs y.it (Pk.spl y.it.path).2.2 = L from hL.out] at this
    exact this
  have HHd : Hid (∀ u, TAt u → Calls Tryz.prog 34 #[.agg y.arr] u fun e w' => e = .returned (.agg (Hd.hv (Pk.hd y.it))) ∧ Bw u w') := fun u hu => headof_any y hfit hkind u hu
  obtain ⟨D, hD⟩ : ∃ D, Hid (D = Pk.hd y.it) := ⟨_, rfl⟩
  rw [← hD.out] at HHd
  obtain ⟨W, hW⟩ : ∃ W, W = (w.alloc (.cells y.arr 26)).alloc (.cells #[.slice Av mv cv, .int .i64 (R.length : Int)] 54) := ⟨_, rfl⟩
  have HX : Hid (BoxAt W w.heap.size y) := by rw [hW]; exact heap_alloc2_old _ _ _
  have HN : Hid (RollAt W (w.heap.size + 1) (.slice Av mv cv) R) := by rw [hW]; exact heap_alloc2_new _ _ _
  have hbW : Bw w W := by rw [hW]; exact bw_alloc2 _ _ _
  have HO : Hid (RollOwn W base (.slice Av mv cv) R) := ⟨ho.1, own_keep ho.2 hbW⟩
  have HA0 : Hid (RollAt w g (.slice Av mv cv) R ∧ RollOwn w base (.slice Av mv cv) R) := ⟨ha, ho⟩
  have hvl : ∀ k, (Value.slice Av mv cv).ownBlock = some k → k < w.heap.size ∧ base ≤ k := fun k hk => ⟨(World.ownsRow.lt ho.2 k hk).2, (World.ownsRow.lt ho.2 k hk).1⟩
  have HVL : Hid (∀ k, (Value.slice Av mv cv).ownBlock = some k → k < w.heap.size ∧ base ≤ k) := hvl
  -- whatever the copy becomes: the item's box, the tables, the item's bytes
  have HXQ : Hid (∀ u, (∃ R1 v1, Rolls base (w.heap.size + 1) (.slice Av mv cv) R R1 W u v1) → u.heap[w.heap.size]? = some (.cells y.arr 26 (0, 0))) := fun u ⟨R1, v1, h⟩ => (h.bx.block _ (Array.getElem?_eq_some_iff.1 HX.out).1 (fun e => e.elim (fun e => by omega) (fun e => by have := (HVL.out _ e).1; omega))).trans HX.out
  have HKQ : Hid (∀ u, (∃ R1 v1, Rolls base (w.heap.size + 1) (.slice Av mv cv) R R1 W u v1) → KTAt u) := fun u ⟨R1, v1, h⟩ => hk u (Below.trans (hbW.mono hbase) (h.bx.below (Nat.le_trans hbase hbW.size) (fun b e => e.elim (fun e => by omega) (fun e => (HVL.out _ e).2))))
  have HapW : Hid (Apart W y.ad y.it.body.length (w.heap.size + 1) (.slice Av mv cv)) := fun b o e hn => ⟨Nat.lt_of_lt_of_le (hap b o e hn).1 hbW.size, by have := (hap b o e hn).1; omega, (hap b o e hn).2.2⟩
  have HyW : Hid (RowAt W y.ad y.it.body.length (Hd.rowF y.it.body)) := hy.row.keep hbW
  have hle := hy.le
  have HWb : Hid (base ≤ W.heap.size) := Nat.le_trans hbase hbW.size
  have HR0 : Hid (Rolls base (w.heap.size + 1) (.slice Av mv cv) R R W W (.slice Av mv cv)) := Rolls.refl HN.out HO.out
  -- putHead and put of the copy
  have HPH : Hid (∀ u R1 v1 h, R1.length ≤ 2097152 → Rolls base (w.heap.size + 1) (.slice Av mv cv) R R1 W u v1 → R.length ≤ R1.length → Calls Tryz.prog 32 #[.pointer (some ⟨w.heap.size + 1, 0, none⟩), .agg (Hd.hv h)] u fun e w' => e = .returned (.tuple #[]) ∧ ∃ v2, Rolls base (w.heap.size + 1) (.slice Av mv cv) R (R1 ++ Pk.hB h) W w' v2 ∧ Rolls base (w.heap.size + 1) v1 R1 (R1 ++ Pk.hB h) u w' v2) := fun u R1 v1 h hl hr hle => (puthead_any base _ h R1 v1 (by omega) u (Nat.le_trans HWb.out hr.bx.size) hr.at_ hr.own).mono fun e w' ⟨h1, v2, h2⟩ => ⟨h1, v2, hr.trans h2 hle, h2⟩
  have HPU : Hid (∀ u R1 v1 A n c r, R1.length ≤ 2097152 → Rolls base (w.heap.size + 1) (.slice Av mv cv) R R1 W u v1 → R.length ≤ R1.length → r.length = n → n ≤ 1048576 → n ≤ c → RowAt u A n (Hd.rowF r) → Apart u A n (w.heap.size + 1) v1 → Calls Tryz.prog 33 #[.pointer (some ⟨w.heap.size + 1, 0, none⟩), .slice A n c] u fun e w' => e = .returned (.tuple #[]) ∧ ∃ v2, Rolls base (w.heap.size + 1) (.slice Av mv cv) R (R1 ++ Pk.fill r) W w' v2) := fun u R1 v1 A n c r hl hr hle h1 h2 h3 h4 h5 => (put_any base _ A n c r R1 v1 h1 (by omega) h3 (by omega) u (Nat.le_trans HWb.out hr.bx.size) hr.at_ hr.own h4 h5).mono fun e w' ⟨h1, v2, h2⟩ => ⟨h1, v2, hr.trans h2 hle⟩
  have hcg : W.cell? ⟨g, 0, none⟩ = some (.slice Av mv cv) := (ha.keep hbW).c0
  clear ha ho hy hap hk hvl
  obtain ⟨nL, hnL⟩ : ∃ n, Hid (L.length = n) := ⟨_, rfl⟩
  rw [hnL.out] at HPr
  have hnL2 : nL ≤ 2 := by rw [← hnL.out, ← hL.out]; exact Pk.prs_len _ _
  obtain ⟨RR, hRR⟩ : ∃ r, Hid (Pk.recs y.it = r) := ⟨_, rfl⟩
  rw [hRR.out] at hrl
  obtain ⟨nr, hnr⟩ : ∃ n, Hid (RR.length = n) := ⟨_, rfl⟩
  rw [hnr.out] at hrl
  have HPP : Hid (∀ u A cap, nL ≤ cap → KAt u → PrsAt u A L → Calls Tryz.prog 31 #[.slice A nL cap] u fun e w' => ∃ Ar cr pi er, e = .returned (.tuple #[.slice Ar nr cr, .int .i64 pi, .int .i64 er]) ∧ nr ≤ cr ∧ RowAt w' Ar nr (Hd.rowF RR) ∧ (∀ b o, Ar = some ⟨b, o, none⟩ → u.heap.size ≤ b ∧ b < w'.heap.size) ∧ Bw u w') := fun u A cap hc hka hpa => by
    have hS : ∀ p ∈ L, p.1.length ≤ 140737488355328 ∧ p.2.length ≤ 140737488355328 := fun p hp => by
      rw [← hL.out] at hp
      unfold Pk.prsOf Pk.prs at hp
      have h1 := hfit.path
      have h2 := hfit.to
      rcases List.mem_append.1 hp with h | h
      · split at h
        · rw [List.mem_singleton] at h; rw [h]; exact ⟨by show (8 : Nat) ≤ _; omega, by show y.it.to.length ≤ _; omega⟩
        · cases h
      · split at h
        · rw [List.mem_singleton] at h; rw [h]; exact ⟨by show (4 : Nat) ≤ _; omega, by show y.it.path.length ≤ _; omega⟩
        · cases h
    have := pput_own A cap L (by rw [hnL.out]; omega) (by rw [hnL.out]; exact hc) hS u hka hpa
    rw [hnL.out] at this
    refine this.mono fun e w' ⟨⟨vr, h1, h2⟩, h3⟩ => ?_
    rw [show (Px.putF L).1 = RR by rw [← hL.out]; exact hRR.out] at h2
    obtain ⟨Ar, cr, e1, hcr, hrow⟩ := rowis_own h2
    rw [hnr.out] at e1 hcr hrow
    subst e1
    refine ⟨Ar, cr, _, _, h1, hcr, hrow, fun b o e => ?_, h3⟩
    have := World.ownsRow.lt h2 b (by rw [e]; rfl)
    exact this
  go_enter Tryz.func24, Tryz.ntmps24
  go_upto_region 2 with (first
    | (refine wpList_load_row rfl 54 _ rfl g rfl 54 #[.slice Av mv cv, .int .i64 (R.length : Int)] (0, 0) _ (HA0.out.1.keep (bw_alloc7 (Bw.refl _) _)) Tryz.underlying54 rfl (info_roll _ _) ?_)
    | (refine wpList_store_row rfl 54 _ _ rfl (w.alloc (.cells y.arr 26)).heap.size #[.slice Av mv cv, .int .i64 (R.length : Int)] rfl rfl 54 _ (heap_alloc_new _ _) (info_roll _ _) rfl (roll_one _ _ _ _) ?_; rw [setRow_alloc_new]))
  rw [← hW]
  clear hW
  by_cases hpn : L = []
  · have hn0 : nL = 0 := by rw [← hnL.out, hpn]; rfl
    have HF : Hid (Pk.front y.it = []) := by show _ = _; unfold Pk.front; rw [hL.out, if_pos hpn]
    have t0 : ¬ (0 : Int) < (nL : Int) := by omega
    clear hpn
    go_upto_region 7 with (first
      | (refine wpList_load_row rfl 26 _ rfl w.heap.size rfl 26 y.arr (0, 0) _ (HXQ.out _ ⟨_, _, HR0.out⟩) Tryz.underlying26 rfl hiI ?_)
      | (go_at_call 26; refine (HPr.out _).mono ?_; rintro e w1 ⟨⟨vp, rfl, hop⟩, hw1⟩; rw [← hnL.out] at hop; obtain ⟨Ap, cp, rfl, hcp, hPrs, hAn⟩ := prs_of_own hop; rw [hnL.out] at hcp ⊢; have hR1 := HR0.out.bw hw1))
    have hR4 : Rolls base (w.heap.size + 1) (.slice Av mv cv) R (R ++ ([] : Pk.B)) W w1 (.slice Av mv cv) := by rw [List.append_nil]; exact hR1
    obtain ⟨nF, hnF⟩ : ∃ n : Nat, Hid (List.length (R ++ ([] : Pk.B)) = n) := ⟨_, show List.length (R ++ ([] : Pk.B)) = _ from rfl⟩
    have hnFb : nF ≤ 2097152 - 4096 := by rw [← hnF.out, List.length_append]; (try rw [List.length_nil]); omega
    have hRF : R.length ≤ nF := by rw [← hnF.out, List.length_append]; omega
    go_upto_region 8 with (first
      | (refine wpList_load_row rfl 26 _ rfl w.heap.size rfl 26 y.arr (0, 0) _ (HXQ.out _ ⟨_, _, hR4⟩) Tryz.underlying26 rfl hiI ?_)
      | (go_at_call 34; refine (HHd.out _ (HKQ.out _ ⟨_, _, hR4⟩).2).mono ?_; rintro e w5 ⟨rfl, hw5⟩; have hR5 := hR4.bw hw5)
      | (go_at_call 32; refine (HPH.out _ _ _ D (by rw [hnF.out]; omega) hR5 (by rw [hnF.out]; exact hRF)).mono ?_; rintro e w6 ⟨rfl, v6, hR6, -⟩; have c4 : w6.cell? ⟨w.heap.size, 4, none⟩ = some (.slice y.ad y.it.body.length y.cp) := cell_of_row w6 w.heap.size 4 _ _ _ (HXQ.out _ ⟨_, _, hR6⟩)))
    have hDl := Pk.hB_le D
    have hrow6 := hR6.row HyW.out HapW.out
    have hap6 := hR6.apart HapW.out
    go_upto_region 9 with (go_at_call 33; refine (HPU.out _ _ _ y.ad y.it.body.length y.cp y.it.body (by rw [List.length_append, hnF.out]; omega) hR6 (by rw [List.length_append, hnF.out]; omega) rfl (by omega) hle hrow6 hap6).mono ?_; rintro e w7 ⟨rfl, v7, hR7⟩)
    obtain ⟨A7, c7, hv7⟩ := own_slice hR7.own.2
    generalize (R ++ ([] : Pk.B) ++ Pk.hB D ++ Pk.fill y.it.body).length / 512 = m7 at hv7
    subst hv7
    have heq : Hid (R ++ ([] : Pk.B) ++ Pk.hB D ++ Pk.fill y.it.body = R ++ Pk.pcs y.it) := by
      show _ = _
      unfold Pk.pcs
      rw [hD.out, HF.out]
      simp only [List.append_assoc, List.nil_append]
    rw [heq.out] at hR7
    obtain ⟨M, hM⟩ : ∃ M : Nat, Hid ((R ++ Pk.pcs y.it).length = M) := ⟨_, rfl⟩
    have hMb : M ≤ 2097152 := by rw [← hM.out, List.length_append]; omega
    have hat := hR7.at_
    unfold RollAt at hat
    rw [hM.out] at hat
    have c1 : w7.cell? ⟨w.heap.size + 1, 1, none⟩ = some (.int .i64 (M : Int)) := cell_of_row w7 _ 1 _ _ _ hat
    by_cases hbig : 131072 < M + 1024
    · have t1 : (131072 : Int) < (M : Int) + 1024 := by omega
      go_wp2
      go_ret
      exact .inl ⟨by rw [hM.out]; exact hbig, rfl, lay_no HA0.out.1 HA0.out.2 hbW (Nat.le_succ _) hR7⟩
    · have t1 : ¬ (131072 : Int) < (M : Int) + 1024 := by omega
      have hno := lay_no HA0.out.1 HA0.out.2 hbW (Nat.le_succ _) hR7
      go_wp2_with (first
        | (refine wpList_load_row rfl 54 _ rfl (w.heap.size + 1) rfl 54 #[.slice A7 m7 c7, .int .i64 (M : Int)] (0, 0) _ hat Tryz.underlying54 rfl (info_roll _ _) ?_)
        | (refine wpList_store_row rfl 54 _ _ rfl g #[.slice A7 m7 c7, .int .i64 (M : Int)] rfl rfl 54 _ hno.at_ (info_roll _ _) rfl (roll_one _ _ _ _) ?_))
      go_ret
      have hyes := lay_yes HA0.out.1 HA0.out.2 hbW (Nat.le_succ _) hR7
      rw [hM.out] at hyes
      exact .inr ⟨by rw [hM.out]; exact hbig, rfl, _, hyes⟩
  · have hn0 : 0 < nL := by rw [← hnL.out]; exact List.length_pos_iff.2 hpn
    have HF : Hid (Pk.front y.it = Pk.hB (Pk.more nr) ++ Pk.fill RR) := by show _ = _; unfold Pk.front; rw [hL.out, if_neg hpn, hRR.out, hnr.out]
    have t0 : (0 : Int) < (nL : Int) := by omega
    clear hpn
    obtain ⟨E, hE⟩ : ∃ E, Hid (E = Pk.more nr) := ⟨_, rfl⟩
    rw [← hE.out] at HF
    have hEl := Pk.hB_le E
    go_upto_region 6 with (first
      | (refine wpList_load_row rfl 26 _ rfl w.heap.size rfl 26 y.arr (0, 0) _ (HXQ.out _ ⟨_, _, HR0.out⟩) Tryz.underlying26 rfl hiI ?_)
      | (go_at_call 26; refine (HPr.out _).mono ?_; rintro e w1 ⟨⟨vp, rfl, hop⟩, hw1⟩; rw [← hnL.out] at hop; obtain ⟨Ap, cp, rfl, hcp, hPrs, hAn⟩ := prs_of_own hop; rw [hnL.out] at hcp ⊢; have hR1 := HR0.out.bw hw1)
      | (go_at_call 31; refine (HPP.out _ _ _ hcp (HKQ.out _ ⟨_, _, hR1⟩).1 hPrs).mono ?_; rintro e w2 ⟨Ar, cr, pi, er, rfl, hcr, hrow, hrb, hw2⟩; have hR2 := hR1.bw hw2)
      | (refine wpList_built_g10 (by rfl) 75 _ rfl (Hd.hv E) (by rw [hE.out]; kernel_rfl) ?_)
      | (go_at_call 32; refine (HPH.out _ _ _ E (by omega) hR2 (Nat.le_refl _)).mono ?_; rintro e w3 ⟨rfl, v3, hR3, hR23⟩))
    have hapr : Apart w2 Ar nr (w.heap.size + 1) (.slice Av mv cv) := fun b o e _ => by
      have h1 := hrb b o e
      have h2 := hw1.size
      have h3 := HN.out.lt
      exact ⟨h1.2, by omega, fun e2 => by have := (HVL.out _ e2).1; omega⟩
    have hrow3 := hR23.row hrow hapr
    have hap3 := hR23.apart hapr
    go_upto_region 7 with (go_at_call 33; refine (HPU.out _ _ _ Ar nr cr RR (by rw [List.length_append]; omega) hR3 (by rw [List.length_append]; omega) hnr.out (by omega) hcr hrow3 hap3).mono ?_; rintro e w4 ⟨rfl, v4, hR4'⟩)
    have hR4 : Rolls base (w.heap.size + 1) (.slice Av mv cv) R (R ++ (Pk.hB E ++ Pk.fill RR)) W w4 v4 := by rw [← List.append_assoc]; exact hR4'
    have hFl : (Pk.hB E ++ Pk.fill RR).length ≤ 3200 := by rw [← HF.out]; exact hfl
    obtain ⟨nF, hnF⟩ : ∃ n : Nat, Hid (List.length (R ++ (Pk.hB E ++ Pk.fill RR)) = n) := ⟨_, show List.length (R ++ (Pk.hB E ++ Pk.fill RR)) = _ from rfl⟩
    have hnFb : nF ≤ 2097152 - 4096 := by rw [← hnF.out, List.length_append]; (try rw [List.length_nil]); omega
    have hRF : R.length ≤ nF := by rw [← hnF.out, List.length_append]; omega
    go_upto_region 8 with (first
      | (refine wpList_load_row rfl 26 _ rfl w.heap.size rfl 26 y.arr (0, 0) _ (HXQ.out _ ⟨_, _, hR4⟩) Tryz.underlying26 rfl hiI ?_)
      | (go_at_call 34; refine (HHd.out _ (HKQ.out _ ⟨_, _, hR4⟩).2).mono ?_; rintro e w5 ⟨rfl, hw5⟩; have hR5 := hR4.bw hw5)
      | (go_at_call 32; refine (HPH.out _ _ _ D (by rw [hnF.out]; omega) hR5 (by rw [hnF.out]; exact hRF)).mono ?_; rintro e w6 ⟨rfl, v6, hR6, -⟩; have c4 : w6.cell? ⟨w.heap.size, 4, none⟩ = some (.slice y.ad y.it.body.length y.cp) := cell_of_row w6 w.heap.size 4 _ _ _ (HXQ.out _ ⟨_, _, hR6⟩)))
    have hDl := Pk.hB_le D
    have hrow6 := hR6.row HyW.out HapW.out
    have hap6 := hR6.apart HapW.out
    go_upto_region 9 with (go_at_call 33; refine (HPU.out _ _ _ y.ad y.it.body.length y.cp y.it.body (by rw [List.length_append, hnF.out]; omega) hR6 (by rw [List.length_append, hnF.out]; omega) rfl (by omega) hle hrow6 hap6).mono ?_; rintro e w7 ⟨rfl, v7, hR7⟩)
    obtain ⟨A7, c7, hv7⟩ := own_slice hR7.own.2
    generalize (R ++ (Pk.hB E ++ Pk.fill RR) ++ Pk.hB D ++ Pk.fill y.it.body).length / 512 = m7 at hv7
    subst hv7
    have heq : Hid (R ++ (Pk.hB E ++ Pk.fill RR) ++ Pk.hB D ++ Pk.fill y.it.body = R ++ Pk.pcs y.it) := by
      show _ = _
      unfold Pk.pcs
      rw [hD.out, HF.out]
      simp only [List.append_assoc, List.nil_append]
    rw [heq.out] at hR7
    obtain ⟨M, hM⟩ : ∃ M : Nat, Hid ((R ++ Pk.pcs y.it).length = M) := ⟨_, rfl⟩
    have hMb : M ≤ 2097152 := by rw [← hM.out, List.length_append]; omega
    have hat := hR7.at_
    unfold RollAt at hat
    rw [hM.out] at hat
    have c1 : w7.cell? ⟨w.heap.size + 1, 1, none⟩ = some (.int .i64 (M : Int)) := cell_of_row w7 _ 1 _ _ _ hat
    by_cases hbig : 131072 < M + 1024
    · have t1 : (131072 : Int) < (M : Int) + 1024 := by omega
      go_wp2
      go_ret
      exact .inl ⟨by rw [hM.out]; exact hbig, rfl, lay_no HA0.out.1 HA0.out.2 hbW (Nat.le_succ _) hR7⟩
    · have t1 : ¬ (131072 : Int) < (M : Int) + 1024 := by omega
      have hno := lay_no HA0.out.1 HA0.out.2 hbW (Nat.le_succ _) hR7
      go_wp2_with (first
        | (refine wpList_load_row rfl 54 _ rfl (w.heap.size + 1) rfl 54 #[.slice A7 m7 c7, .int .i64 (M : Int)] (0, 0) _ hat Tryz.underlying54 rfl (info_roll _ _) ?_)
        | (refine wpList_store_row rfl 54 _ _ rfl g #[.slice A7 m7 c7, .int .i64 (M : Int)] rfl rfl 54 _ hno.at_ (info_roll _ _) rfl (roll_one _ _ _ _) ?_))
      go_ret
      have hyes := lay_yes HA0.out.1 HA0.out.2 hbW (Nat.le_succ _) hR7
      rw [hM.out] at hyes
      exact .inr ⟨by rw [hM.out]; exact hbig, rfl, _, hyes⟩
end Go.Proofs.YtldkhbkgmiicbabGreatDoor

/- Layer 12: the program's own written, as landed at 16cf8173. -/
namespace Go.Proofs.YtldkhbkgmiicbabGreatDoor
open Go.RowKit Go.Deep
set_option linter.unusedVariables false
set_option linter.unusedSimpArgs false

theorem results_roll {P : Program} {fn : Func} {p u x : Tmp} {ty : TypeId} (h : fn.results = #[.cell p ty, .tmp u, .tmp x]) (tmps : Array Value) (w : World) (g : Nat) (t : TypeId) (cs : Array Value) (fr : Nat × Nat) (d : TypeDesc)
    (hp : tmps.getD p undef = .pointer (some ⟨g, 0, none⟩)) (hg : w.heap[g]? = some (.cells cs t fr))
    (hu : P.underlying ty = some d) (hd : (match d with | .struct _ | .array _ _ => true | _ => false) = true) (hi : (P.info? ty).map (·.size) = some cs.size) :
    (results fn tmps).run P w = .ok (.tuple #[.agg cs, tmps.getD u undef, tmps.getD x undef]) w := by
  have e : (results fn tmps).run P w = ((asAddr (tmps.getD p undef)).run P w).andThen fun a w₁ => ((loadVar ty a).run P w₁).andThen fun v w₂ => .ok (.tuple #[v, tmps.getD u undef, tmps.getD x undef]) w₂ := by
    simp only [results, h]
    simp [Sem.run_bind, Result.andThen]
  rw [e, hp]
  simp [asAddr, run_loadVar_row w g t ty cs fr d hg hu hd hi, Result.andThen]
theorem roll_own_ne {w : World} {g base k : Nat} {v u : Value} {R : Pk.B} {ys : List Value} (h1 : RollAt w g v R) (h2 : w.ownsRow base 89 512 u k ys) : u.ownBlock ≠ some g := fun e => by
  rcases h2.2 with ⟨e1, _⟩ | ⟨g', cap, cur, e1, _, hc, _⟩
  · rw [e1] at e; cases e
  · rw [e1] at e
    cases e
    unfold RollAt at h1
    rw [hc] at h1
    cases h1
def zero6 : Array Value := #[.string ⟨#[]⟩, .int .u8 0, .int .i64 0, .int .i64 0, .slice none 0 0, .string ⟨#[]⟩]
theorem zero_item12 (w : World) : (zeroValue 26).run Tryz.prog w = .ok (.agg zero6) w := by kernel_rfl
/-- what written answers -/
def WrEnds (t : List Tr.It) (base : Nat) (e : Ending) (w' : World) : Prop :=
  ((Pk.wr t).2.2 ≠ 0 ∧ e = .returned (.tuple #[.agg #[.slice none 0 0, .int .i64 0], .int .i64 ((Pk.wr t).2.1 : Int), .int .i64 (Pk.wr t).2.2])) ∨
  ((Pk.wr t).2.2 = 0 ∧ Pk.wr t = (Pk.flat t ++ List.replicate 1024 0, 0, 0) ∧ (Pk.flat t).length + 1024 ≤ 131072 ∧ ∃ A m c, e = .returned (.tuple #[.agg #[.slice A m c, .int .i64 ((Pk.flat t).length : Int)], .int .i64 0, .int .i64 0]) ∧ RollOwn w' base (.slice A m c) (Pk.flat t))
set_option maxRecDepth 100000 in
set_option maxHeartbeats 4000000 in
theorem written_any (A : Option Addr) (cap : Nat) (L : List Tr.Iv) (hn : L.length ≤ 4611686018427387904) (hcap : L.length ≤ cap) (w : World) (ha : ItsAt w A L) (hk : KTAt w) :
    Calls Tryz.prog 19 #[.slice A L.length cap] w fun e w' => WrEnds (Tr.its L) w.heap.size e w' ∧ Bw w w' := by
  obtain ⟨cA, cE, hC⟩ : ∃ a b, Hid (Tr.chkE (Tr.its L) = (a, b)) := ⟨_, _, show Tr.chkE (Tr.its L) = _ from rfl⟩
  have HCh : Hid (∀ u, Bw w u → Calls Tryz.prog 22 #[.slice A L.length cap] u fun e w' => e = .returned (.tuple #[.int .i64 (cA : Int), .int .i64 cE]) ∧ Bw u w') := fun u hu => by
    have := tcheck_any A cap L hn hcap u (ha.keep hu)
    rwa [hC.out] at this
  obtain ⟨n, hnn⟩ : ∃ n, Hid (L.length = n) := ⟨_, rfl⟩
  rw [hnn.out] at hn hcap HCh ⊢
  have HA : Hid (ItsAt w A L) := ha
  have HK : Hid (KTAt w) := hk
  have hz := zero_roll
  have hw1 : Bw w (w.alloc (.cells #[.slice none 0 0, .int .i64 0] 54)) := bw_alloc7 (Bw.refl _) _
  have hZ0 : RollAt (w.alloc (.cells #[.slice none 0 0, .int .i64 0] 54)) w.heap.size (.slice none 0 0) [] := heap_alloc_new _ _
  clear ha hk
  by_cases h0 : cE = 0
  · subst h0
    have hck := Tr.chk_zero (t := Tr.its L) (by rw [hC.out])
    have HOk : Hid (Tr.Ok (Tr.its L)) := hck.2
    have hn256 : n ≤ 256 := by rw [← hnn.out, ← Tr.its_len]; exact hck.1
    have HWr : Hid (Pk.wr (Tr.its L) = Pk.wrF [] 0 (Tr.its L)) := Pk.wr_good (by rw [hC.out])
    clear hck
    go_enter Tryz.func19, Tryz.ntmps19
    go_upto_region 4 with (go_at_call 22; refine (HCh.out _ hw1).mono ?_; rintro e w2 ⟨rfl, hw2⟩)
    have hw12 := hw1.trans hw2
    have hZ2 := hZ0.keep hw2
    obtain ⟨W, hW⟩ : ∃ V, V = w2.alloc (.cells #[.slice none 0 0, .int .i64 0] 54) := ⟨_, rfl⟩
    have hbW : Bw w2 W := by rw [hW]; exact bw_alloc7 (Bw.refl _) _
    have HR0 : Hid (Rolls w.heap.size w2.heap.size (.slice none 0 0) [] [] W W (.slice none 0 0)) := by
      refine Rolls.refl (by rw [hW]; exact heap_alloc_new _ _) ⟨rfl, World.ownsRow_nil _ _ _ _⟩
    obtain ⟨N, hN⟩ : ∃ N, Hid (w2.heap.size = N) := ⟨_, rfl⟩
    rw [hN.out] at HR0
    have HNl : Hid (w.heap.size < N) := by show _ < _; rw [← hN.out]; exact hZ2.lt
    have HZW : Hid (RollAt W w.heap.size (.slice none 0 0) []) := hZ2.keep hbW
    have hbwW : Bw w W := hw12.trans hbW
    go_upto_region 5 with fail
    rw [← hW, hN.out]
    clear hW hZ0 hZ2 hw1 hw2 hw12
    go_wp2
    go_loopw [23] (fun i wr => ∃ k : Nat, k ≤ n ∧ i = .int .i64 (k : Int) ∧ Hid (Pk.Upto (Tr.its L) k ∧ ∃ v, Rolls w.heap.size N (.slice none 0 0) [] (Pk.flat ((Tr.its L).take k)) W wr v)) (fun i _ => n - (intOf i).toNat)
    case atStart => exact ⟨0, Nat.zero_le _, rfl, Pk.upto_zero _, _, HR0.out⟩
    case round =>
      obtain ⟨k, hkn, rfl, hI⟩ := hrel
      obtain ⟨hup, v, hRo⟩ := hI.out
      have k0 : (0 : Int) ≤ (k : Int) := Int.natCast_nonneg _
      have hbw : Bw w wr := bw_of_bx hbwW hRo.bx (fun b e => e.elim (fun e => by rw [e]; exact Nat.le_of_lt HNl.out) (fun e => by cases e))
      have HUp : Hid (Pk.Upto (Tr.its L) k) := hup
      have hZr : RollAt wr w.heap.size (.slice none 0 0) [] := HZW.out.keepx hRo.bx (fun e => e.elim (fun e => by have := HNl.out; omega) (fun e => by cases e))
      by_cases hlt : k < n
      · have i1 : (k : Int) < (n : Int) := by omega
        obtain ⟨y, hy⟩ : ∃ y, Hid (L[k]? = some y) := ⟨_, List.getElem?_eq_getElem (by rw [hnn.out]; exact hlt)⟩
        have hyw := (HA.out.at hy.out)
        obtain ⟨b0, off0, hA0, -, hB0⟩ := hyw
        obtain ⟨b, off, rfl, hY, hB⟩ := (HA.out.keep hbw).at hy.out
        have HX : Hid ((Tr.its L)[k]? = some y.it) := by show _ = _; unfold Tr.its; rw [List.getElem?_map, hy.out]; rfl
        have HY : Hid (ItAt wr b (off + k * 6) y) := hY
        have hvo : ∀ x, v.ownBlock = some x → w.heap.size ≤ x := fun x hx => (World.ownsRow.lt hRo.own.2 x hx).1
        have hap : Apart wr y.ad y.it.body.length N v := fun b1 o1 e1 hn1 => by
          have hlb : b1 < w.heap.size := by
            have := hB0.row
            rw [e1] at this
            exact this.lt (k := 0) hn1
          exact ⟨Nat.lt_of_lt_of_le hlb hbw.size, by have := HNl.out; omega, fun e => by have := hvo _ e; omega⟩
        obtain ⟨R, hR⟩ : ∃ R, Hid (Pk.flat ((Tr.its L).take k) = R) := ⟨_, rfl⟩
        have hRb : R.length ≤ 1048576 := by rw [← hR.out]; have := hup.2.2; omega
        rw [hR.out] at hRo
        have HL : Hid (∀ u, Bw wr u → Calls Tryz.prog 24 #[.pointer (some ⟨N, 0, none⟩), .agg y.arr] u fun e w' => LayEnds w.heap.size N v R y.it u e w') := fun u hu =>
          lay_any w.heap.size N y R v hRb (Tr.step_may (HOk.out k y.it HX.out)) u (hbw.trans hu).size (hRo.at_.keep hu) ⟨hRo.own.1, own_keep hRo.own.2 hu⟩ (hB.keep hu) (apart_bw hap hu) (fun u2 h2 => HK.out.keep (Below.trans (hbw.trans hu) h2))
        have HRo : Hid (Rolls w.heap.size N (.slice none 0 0) [] R W wr v) := hRo
        have hiI := info_it y
        have hzi := zero_item12
        obtain ⟨Zi, hZi⟩ : ∃ Z, Hid (Z = zero6) := ⟨_, rfl⟩
        rw [← hZi.out] at hzi
        clear hY hB hB0 hA0 hap hvo hI hup hRo
        by_cases hbig : 131072 < (R ++ Pk.pcs y.it).length + 1024
        · have HLb : Hid (∀ u, Bw wr u → Calls Tryz.prog 24 #[.pointer (some ⟨N, 0, none⟩), .agg y.arr] u fun e w' => e = .returned (.int .i64 2) ∧ Rolls w.heap.size N v R R u w' v) := fun u hu => (HL.out u hu).mono fun e w' h => h.elim (fun h => h.2) (fun h => absurd hbig h.1)
          have HWS : Hid (Pk.wrF [] 0 (Tr.its L) = ([], k, 2)) := Pk.upto_stop HUp.out HX.out (by rw [hR.out]; exact hbig)
          clear hbig HL
          go_wp2_with (first
            | (refine wpList_load_it (by rfl) _ rfl b (off + k * 6) rfl y HY.out ?_)
            | (refine wpList_store_row rfl 26 _ _ rfl wr.heap.size y.arr rfl rfl 26 Zi (heap_alloc_new _ _) hiI (by rw [hZi.out]; rfl) (Tr.arr_one y) ?_; rw [setRow_alloc_new]; obtain ⟨w3, hw3⟩ : ∃ V, V = wr.alloc (.cells y.arr 26) := ⟨_, rfl⟩; have hb3 : Bw wr w3 := (by rw [hw3]; exact bw_alloc7 (Bw.refl _) _); have hX3 : BoxAt w3 wr.heap.size y := (by rw [hw3]; exact BoxAt.new _ _); rw [← hw3]; clear hw3)
            | (refine wpList_load_row rfl 26 _ rfl wr.heap.size rfl 26 y.arr (0, 0) _ hX3 Tryz.underlying26 rfl hiI ?_)
            | (go_at_call 24; refine (HLb.out _ hb3).mono ?_; rintro e w4 ⟨rfl, hR4⟩; have hR5 := (HRo.out.bw hb3).trans hR4 (Nat.zero_le _); have hZ4 : RollAt w4 w.heap.size (.slice none 0 0) [] := HZW.out.keepx hR5.bx (fun e => e.elim (fun e => by have := HNl.out; omega) (fun e => by cases e)))
            | (refine wpList_built10 rfl 54 _ rfl #[.slice none 0 0, .int .i64 0] (by kernel_rfl) ?_)
            | (refine wpList_store_row rfl 54 _ _ rfl w.heap.size #[.slice none 0 0, .int .i64 0] rfl rfl 54 _ hZ4 (info_roll _ _) rfl (roll_one _ _ _ _) ?_))
          refine bodyPost_ret (results_roll Tryz.results19 _ _ w.heap.size 54 #[.slice none 0 0, .int .i64 0] (0, 0) _ rfl (setRow_heap _ _ _ _ _ _ hZ4) Tryz.underlying54 rfl (info_roll _ _)) rfl ?_
          have hb5 : Bw w w4 := bw_of_bx hbwW hR5.bx (fun b e => e.elim (fun e => by rw [e]; exact Nat.le_of_lt HNl.out) (fun e => by cases e))
          refine ⟨.inl ?_, bw_of_bx hb5 (bx_set (S := fun b => b = w.heap.size) _ _ _ rfl) (fun b e => by rw [e]; exact Nat.le_refl _)⟩
          rw [HWr.out, HWS.out]
          exact ⟨show (2 : Int) ≠ 0 by decide, rfl⟩
        · have HLb : Hid (∀ u, Bw wr u → Calls Tryz.prog 24 #[.pointer (some ⟨N, 0, none⟩), .agg y.arr] u fun e w' => e = .returned (.int .i64 0) ∧ ∃ v', Rolls w.heap.size N v R (R ++ Pk.pcs y.it) u w' v') := fun u hu => (HL.out u hu).mono fun e w' h => h.elim (fun h => absurd h.1 hbig) (fun h => h.2)
          have HUN : Hid (Pk.Upto (Tr.its L) (k + 1)) := Pk.upto_next HUp.out HX.out (by rw [hR.out]; exact hbig)
          have HFN : Hid (Pk.flat ((Tr.its L).take (k + 1)) = R ++ Pk.pcs y.it) := by show _ = _; rw [Pk.flat_take HX.out, hR.out]
          clear hbig HL
          go_wp2_with (first
            | (refine wpList_load_it (by rfl) _ rfl b (off + k * 6) rfl y HY.out ?_)
            | (refine wpList_store_row rfl 26 _ _ rfl wr.heap.size y.arr rfl rfl 26 Zi (heap_alloc_new _ _) hiI (by rw [hZi.out]; rfl) (Tr.arr_one y) ?_; rw [setRow_alloc_new]; obtain ⟨w3, hw3⟩ : ∃ V, V = wr.alloc (.cells y.arr 26) := ⟨_, rfl⟩; have hb3 : Bw wr w3 := (by rw [hw3]; exact bw_alloc7 (Bw.refl _) _); have hX3 : BoxAt w3 wr.heap.size y := (by rw [hw3]; exact BoxAt.new _ _); rw [← hw3]; clear hw3)
            | (refine wpList_load_row rfl 26 _ rfl wr.heap.size rfl 26 y.arr (0, 0) _ hX3 Tryz.underlying26 rfl hiI ?_)
            | (go_at_call 24; refine (HLb.out _ hb3).mono ?_; rintro e w4 ⟨rfl, v4, hR4⟩; have hR5 := (HRo.out.bw hb3).trans hR4 (Nat.zero_le _)))
          go_round
          case measure => simp only [intOf]; omega
          case rel => exact ⟨k + 1, by omega, rfl, HUN.out, v4, by rw [HFN.out]; exact hR5⟩
      · have i1 : ¬ (k : Int) < (n : Int) := by omega
        obtain rfl : k = n := by omega
        have hT : (Tr.its L).take k = Tr.its L := List.take_of_length_le (by rw [Tr.its_len, hnn.out]; exact Nat.le_refl _)
        have HUE : Hid (Pk.Upto (Tr.its L) (Tr.its L).length) := by rw [Tr.its_len, hnn.out]; exact HUp.out
        rw [hT] at hRo
        obtain ⟨Av, cv, hve⟩ := own_slice hRo.own.2
        generalize (Pk.flat (Tr.its L)).length / 512 = mv at hve
        subst hve
        have hat := hRo.at_
        unfold RollAt at hat
        clear hI hup
        go_wp2_with (first
          | (refine wpList_load_row rfl 54 _ rfl N rfl 54 _ (0, 0) _ hat Tryz.underlying54 rfl (info_roll _ _) ?_)
          | (refine wpList_store_row rfl 54 _ _ rfl w.heap.size #[.slice Av mv cv, .int .i64 ((Pk.flat (Tr.its L)).length : Int)] rfl rfl 54 _ hZr (info_roll _ _) rfl (roll_one _ _ _ _) ?_))
        refine bodyPost_ret (results_roll Tryz.results19 _ _ w.heap.size 54 #[.slice Av mv cv, .int .i64 ((Pk.flat (Tr.its L)).length : Int)] (0, 0) _ rfl (setRow_heap _ _ _ _ _ _ hZr) Tryz.underlying54 rfl (info_roll _ _)) rfl ?_
        have hbx : Bx (fun b => b = w.heap.size) wr (wr.setRow w.heap.size #[.slice Av mv cv, .int .i64 ((Pk.flat (Tr.its L)).length : Int)]) := bx_set _ _ _ rfl
        refine ⟨.inr ?_, bw_of_bx hbw hbx (fun b e => by rw [e]; exact Nat.le_refl _)⟩
        have hlen := HUE.out.2.2
        rw [List.take_length] at hlen
        rw [HWr.out, Pk.upto_end HUE.out]
        exact ⟨rfl, rfl, hlen, Av, mv, cv, rfl, hRo.own.1, own_bx hRo.own.2 hbx (fun x hx e => roll_own_ne hZr hRo.own.2 (by rw [hx, e]))⟩
  · have e1 : (cE != 0) = true := by rw [bne_iff_ne]; exact h0
    have HWr : Hid (Pk.wr (Tr.its L) = ([], cA, cE)) := by show _ = _; rw [Pk.wr_bad (by rw [hC.out]; exact h0), hC.out]
    have HE : Hid (cE ≠ 0) := h0
    clear h0
    go_enter Tryz.func19, Tryz.ntmps19
    go_wp2_with (first
      | (go_at_call 22; refine (HCh.out _ hw1).mono ?_; rintro e w2 ⟨rfl, hw2⟩; have hZ2 := hZ0.keep hw2)
      | (refine wpList_built10 rfl 54 _ rfl #[.slice none 0 0, .int .i64 0] (by kernel_rfl) ?_)
      | (refine wpList_store_row rfl 54 _ _ rfl w.heap.size #[.slice none 0 0, .int .i64 0] rfl rfl 54 _ hZ2 (info_roll _ _) rfl (roll_one _ _ _ _) ?_))
    refine bodyPost_ret (results_roll Tryz.results19 _ _ w.heap.size 54 #[.slice none 0 0, .int .i64 0] (0, 0) _ rfl (setRow_heap _ _ _ _ _ _ hZ2) Tryz.underlying54 rfl (info_roll _ _)) rfl ?_
    refine ⟨.inl ?_, bw_of_bx (hw1.trans hw2) (bx_set (S := fun b => b = w.heap.size) _ _ _ rfl) (fun b e => by rw [e]; exact Nat.le_refl _)⟩
    rw [HWr.out]
    exact ⟨HE.out, rfl⟩
end Go.Proofs.YtldkhbkgmiicbabGreatDoor
