/- Texts of mine, put together. -/
import Derived.Test.YtldkhbkgmiicbaaGreatDoorBu34
import Derived.Test.YtldkhbkgmiicbaaGreatDoorBu13

/- Layer 12: the program's own lay, as landed at 16cf8173 (written by mkz6.py). -/
namespace Go.Proofs.YtldkhbkgmiicbaaGreatDoor
open Go.RowKit Go.Deep
set_option linter.unusedVariables false
set_option linter.unusedSimpArgs false

theorem zero_roll (w : World) : (zeroValue 69).run Tryz.prog w = .ok (.agg #[.slice none 0 0, .int .i64 0]) w := by kernel_rfl
theorem info_roll (a b : Value) : (Tryz.prog.info? 69).map (·.size) = some (#[a, b] : Array Value).size := by kernel_rfl
theorem roll_one (A : Option Addr) (m c : Nat) (n : Int) : (#[.slice A m c, .int .i64 n] : Array Value).all (·.oneCell') = true := by simp [Value.oneCell']
theorem built_more (n : Nat) : Tryz.prog.built 61 [(0, .string ⟨#[109, 111, 114, 101]⟩), (5, .int .u8 120), (3, .int .i64 (n : Int))] = some (Hd.hv (Pk.more n)) := by kernel_rfl
/-- what a copy of a roll became, and the roll itself was left -/
theorem lay_no {base g N : Nat} {v v1 : Value} {R R1 : Pk.B} {w W w1 : World} (ha : RollAt w g v R) (ho : RollOwn w base v R) (hb : Bw w W) (hN : w.heap.size ≤ N) (h : Rolls base N v R R1 W w1 v1) : Rolls base g v R R w w1 v := by
  have hgl := ha.lt
  have hne := roll_apart ha ho
  refine ⟨(ha.keep hb).keepx h.bx (fun e => e.elim (fun e => by omega) hne), ⟨ho.1, h.stays _ _ _ _ (by omega) (own_keep ho.2 hb)⟩, Bx.new (Bx.of_bw hb) h.bx (fun x hx e => e.elim (fun e => by omega) .inr), .inl rfl, fun b u k ys hk hu => h.stays b u k ys hk (own_keep hu hb)⟩
/-- .. and the roll became it -/
theorem lay_yes {base g N : Nat} {v : Value} {A1 : Option Addr} {m1 c1 : Nat} {R R1 : Pk.B} {w W w1 : World} (ha : RollAt w g v R) (ho : RollOwn w base v R) (hb : Bw w W) (hN : w.heap.size ≤ N) (h : Rolls base N v R R1 W w1 (.slice A1 m1 c1)) :
    Rolls base g v R R1 w (w1.setRow g #[.slice A1 m1 c1, .int .i64 (R1.length : Int)]) (.slice A1 m1 c1) := by
  have hn := lay_no ha ho hb hN h
  have hgl := ha.lt
  have hne := roll_apart ha ho
  have bx2 : Bx (fun b => b = g) w1 (w1.setRow g #[.slice A1 m1 c1, .int .i64 (R1.length : Int)]) := bx_set _ _ _ rfl
  have hblk : (Value.slice A1 m1 c1).ownBlock = v.ownBlock ∨ ∃ k, (Value.slice A1 m1 c1).ownBlock = some k ∧ w.heap.size ≤ k := by
    rcases h.blk with e | ⟨k, e1, e2⟩
    · exact .inl e
    · exact .inr ⟨k, e1, Nat.le_trans hb.size e2⟩
  refine ⟨setRow_heap w1 g _ _ _ _ hn.at_, ⟨h.own.1, own_bx h.own.2 bx2 (fun x hx e => ?_)⟩, hn.bx.trans (bx2.more (fun b hb => .inl hb)), hblk, fun b u k ys hk hu => own_bx (hn.stays b u k ys hk hu) bx2 (fun x hx e => ?_)⟩
  · rcases hblk with e1 | ⟨k, e1, e2⟩
    · rw [e1] at hx; exact hne (by rw [hx, e])
    · rw [e1] at hx; cases hx; omega
  · subst e
    rcases hu.2 with ⟨e1, _⟩ | ⟨g', cap, cur, e1, _, hc, _⟩
    · rw [e1] at hx; cases hx
    · rw [e1] at hx
      cases hx
      have := ha
      unfold RollAt at this
      rw [hc] at this
      cases this
/-- what lay answers -/
def LayEnds (base g : Nat) (v : Value) (R : Pk.B) (x : Tr.It) (w : World) (e : Ending) (w' : World) : Prop :=
  (131072 < (R ++ Pk.pcs x).length + 1024 ∧ e = .returned (.int .i64 2) ∧ Rolls base g v R R w w' v) ∨ (¬ 131072 < (R ++ Pk.pcs x).length + 1024 ∧ e = .returned (.int .i64 0) ∧ ∃ v', Rolls base g v R (R ++ Pk.pcs x) w w' v')
set_option maxRecDepth 100000 in
set_option maxHeartbeats 8000000 in
theorem lay_any (base g : Nat) (y : Tr.Iv) (R : Pk.B) (v : Value) (hR : R.length ≤ 1048576) (hm : Tr.mayE y.it = 0) (w : World) (hbase : base ≤ w.heap.size) (ha : RollAt w g v R) (ho : RollOwn w base v R) (hy : BodyAt w y) (hap : Apart w y.ad y.it.body.length g v) (hk : ∀ u, Below base w u → KTAt u) :
    Calls Tryz.prog 37 #[.pointer (some ⟨g, 0, none⟩), .agg y.arr] w fun e w' => LayEnds base g v R y.it w e w' := by
  obtain ⟨Av, cv, hve⟩ := own_slice ho.2
  generalize R.length / 512 = mv at hve
  subst hve
  have hkind := Tr.may_kind hm
  have hbody := Pk.may_body hm
  have hfit := hy.fit
  have hfl := Pk.front_len y.it
  have hpl := Pk.pcs_len y.it
  have hrl := Pk.recs_len y.it
  have hgl := ha.lt
  have hz := zero_roll
  have hiI := info_it y
  obtain ⟨L, hL⟩ : ∃ L, Hid (Pk.prsOf y.it = L) := ⟨_, rfl⟩
  have HPr : Hid (∀ u, Calls Tryz.prog 59 #[.agg y.arr] u fun e w' => (∃ vp, e = .returned vp ∧ w'.ownsRow u.heap.size 130 2 vp L.length (Px.cellsPr L)) ∧ Bw u w') := fun u => by
    have := pairsof_any y hfit (Pk.spl_says y.it.path) u
    rw [show Pk.prs y.it (Pk.spl y.it.path).2.2 = L from hL.out] at this
    exact this
  have HHd : Hid (∀ u, TAt u → Calls Tryz.prog 63 #[.agg y.arr] u fun e w' => e = .returned (.agg (Hd.hv (Pk.hd y.it))) ∧ Bw u w') := fun u hu => headof_any y hfit hkind u hu
  obtain ⟨D, hD⟩ : ∃ D, Hid (D = Pk.hd y.it) := ⟨_, rfl⟩
  rw [← hD.out] at HHd
  obtain ⟨W, hW⟩ : ∃ W, W = (w.alloc (.cells y.arr 47)).alloc (.cells #[.slice Av mv cv, .int .i64 (R.length : Int)] 69) := ⟨_, rfl⟩
  have HX : Hid (BoxAt W w.heap.size y) := by rw [hW]; exact heap_alloc2_old _ _ _
  have HN : Hid (RollAt W (w.heap.size + 1) (.slice Av mv cv) R) := by rw [hW]; exact heap_alloc2_new _ _ _
  have hbW : Bw w W := by rw [hW]; exact bw_alloc2 _ _ _
  have HO : Hid (RollOwn W base (.slice Av mv cv) R) := ⟨ho.1, own_keep ho.2 hbW⟩
  have HA0 : Hid (RollAt w g (.slice Av mv cv) R ∧ RollOwn w base (.slice Av mv cv) R) := ⟨ha, ho⟩
  have hvl : ∀ k, (Value.slice Av mv cv).ownBlock = some k → k < w.heap.size ∧ base ≤ k := fun k hk => ⟨(World.ownsRow.lt ho.2 k hk).2, (World.ownsRow.lt ho.2 k hk).1⟩
  have HVL : Hid (∀ k, (Value.slice Av mv cv).ownBlock = some k → k < w.heap.size ∧ base ≤ k) := hvl
  -- whatever the copy becomes: the item's box, the tables, the item's bytes
  have HXQ : Hid (∀ u, (∃ R1 v1, Rolls base (w.heap.size + 1) (.slice Av mv cv) R R1 W u v1) → u.heap[w.heap.size]? = some (.cells y.arr 47 (0, 0))) := fun u ⟨R1, v1, h⟩ => (h.bx.block _ (Array.getElem?_eq_some_iff.1 HX.out).1 (fun e => e.elim (fun e => by omega) (fun e => by have := (HVL.out _ e).1; omega))).trans HX.out
  have HKQ : Hid (∀ u, (∃ R1 v1, Rolls base (w.heap.size + 1) (.slice Av mv cv) R R1 W u v1) → KTAt u) := fun u ⟨R1, v1, h⟩ => hk u (Below.trans (hbW.mono hbase) (h.bx.below (Nat.le_trans hbase hbW.size) (fun b e => e.elim (fun e => by omega) (fun e => (HVL.out _ e).2))))
  have HapW : Hid (Apart W y.ad y.it.body.length (w.heap.size + 1) (.slice Av mv cv)) := fun b o e hn => ⟨Nat.lt_of_lt_of_le (hap b o e hn).1 hbW.size, by have := (hap b o e hn).1; omega, (hap b o e hn).2.2⟩
  have HyW : Hid (RowAt W y.ad y.it.body.length (Hd.rowF y.it.body)) := hy.row.keep hbW
  have hle := hy.le
  have HWb : Hid (base ≤ W.heap.size) := Nat.le_trans hbase hbW.size
  have HR0 : Hid (Rolls base (w.heap.size + 1) (.slice Av mv cv) R R W W (.slice Av mv cv)) := Rolls.refl HN.out HO.out
  -- putHead and put of the copy
  have HPH : Hid (∀ u R1 v1 h, R1.length ≤ 2097152 → Rolls base (w.heap.size + 1) (.slice Av mv cv) R R1 W u v1 → R.length ≤ R1.length → Calls Tryz.prog 61 #[.pointer (some ⟨w.heap.size + 1, 0, none⟩), .agg (Hd.hv h)] u fun e w' => e = .returned (.tuple #[]) ∧ ∃ v2, Rolls base (w.heap.size + 1) (.slice Av mv cv) R (R1 ++ Pk.hB h) W w' v2 ∧ Rolls base (w.heap.size + 1) v1 R1 (R1 ++ Pk.hB h) u w' v2) := fun u R1 v1 h hl hr hle => (puthead_any base _ h R1 v1 (by omega) u (Nat.le_trans HWb.out hr.bx.size) hr.at_ hr.own).mono fun e w' ⟨h1, v2, h2⟩ => ⟨h1, v2, hr.trans h2 hle, h2⟩
  have HPU : Hid (∀ u R1 v1 A n c r, R1.length ≤ 2097152 → Rolls base (w.heap.size + 1) (.slice Av mv cv) R R1 W u v1 → R.length ≤ R1.length → r.length = n → n ≤ 1048576 → n ≤ c → RowAt u A n (Hd.rowF r) → Apart u A n (w.heap.size + 1) v1 → Calls Tryz.prog 62 #[.pointer (some ⟨w.heap.size + 1, 0, none⟩), .slice A n c] u fun e w' => e = .returned (.tuple #[]) ∧ ∃ v2, Rolls base (w.heap.size + 1) (.slice Av mv cv) R (R1 ++ Pk.fill r) W w' v2) := fun u R1 v1 A n c r hl hr hle h1 h2 h3 h4 h5 => (put_any base _ A n c r R1 v1 h1 (by omega) h3 (by omega) u (Nat.le_trans HWb.out hr.bx.size) hr.at_ hr.own h4 h5).mono fun e w' ⟨h1, v2, h2⟩ => ⟨h1, v2, hr.trans h2 hle⟩
  have hcg : W.cell? ⟨g, 0, none⟩ = some (.slice Av mv cv) := (ha.keep hbW).c0
  clear ha ho hy hap hk hvl
  obtain ⟨nL, hnL⟩ : ∃ n, Hid (L.length = n) := ⟨_, rfl⟩
  rw [hnL.out] at HPr
  have hnL2 : nL ≤ 2 := by rw [← hnL.out, ← hL.out]; exact Pk.prs_len _ _
  obtain ⟨RR, hRR⟩ : ∃ r, Hid (Pk.recs y.it = r) := ⟨_, rfl⟩
  rw [hRR.out] at hrl
  obtain ⟨nr, hnr⟩ : ∃ n, Hid (RR.length = n) := ⟨_, rfl⟩
  rw [hnr.out] at hrl
  have HPP : Hid (∀ u A cap, nL ≤ cap → KAt u → PrsAt u A L → Calls Tryz.prog 60 #[.slice A nL cap] u fun e w' => ∃ Ar cr pi er, e = .returned (.tuple #[.slice Ar nr cr, .int .i64 pi, .int .i64 er]) ∧ nr ≤ cr ∧ RowAt w' Ar nr (Hd.rowF RR) ∧ (∀ b o, Ar = some ⟨b, o, none⟩ → u.heap.size ≤ b ∧ b < w'.heap.size) ∧ Bw u w') := fun u A cap hc hka hpa => by
    have hS : ∀ p ∈ L, p.1.length ≤ 140737488355328 ∧ p.2.length ≤ 140737488355328 := fun p hp => by
      rw [← hL.out] at hp
      unfold Pk.prsOf Pk.prs at hp
      have h1 := hfit.path
      have h2 := hfit.to
      rcases List.mem_append.1 hp with h | h
      · split at h
        · rw [List.mem_singleton] at h; rw [h]; exact ⟨by show (8 : Nat) ≤ _; omega, by show y.it.to.length ≤ _; omega⟩
        · cases h
      · split at h
        · rw [List.mem_singleton] at h; rw [h]; exact ⟨by show (4 : Nat) ≤ _; omega, by show y.it.path.length ≤ _; omega⟩
        · cases h
    have := pput_own A cap L (by rw [hnL.out]; omega) (by rw [hnL.out]; exact hc) hS u hka hpa
    rw [hnL.out] at this
    refine this.mono fun e w' ⟨⟨vr, h1, h2⟩, h3⟩ => ?_
    rw [show (Px.putF L).1 = RR by rw [← hL.out]; exact hRR.out] at h2
    obtain ⟨Ar, cr, e1, hcr, hrow⟩ := rowis_own h2
    rw [hnr.out] at e1 hcr hrow
    subst e1
    refine ⟨Ar, cr, _, _, h1, hcr, hrow, fun b o e => ?_, h3⟩
    have := World.ownsRow.lt h2 b (by rw [e]; rfl)
    exact this
  go_enter Tryz.func37, Tryz.ntmps37
  go_upto_region 2 with (first
    | (refine wpList_load_row rfl 69 _ rfl g rfl 69 #[.slice Av mv cv, .int .i64 (R.length : Int)] (0, 0) _ (HA0.out.1.keep (bw_alloc7 (Bw.refl _) _)) Tryz.underlying69 rfl (info_roll _ _) ?_)
    | (refine wpList_store_row rfl 69 _ _ rfl (w.alloc (.cells y.arr 47)).heap.size #[.slice Av mv cv, .int .i64 (R.length : Int)] rfl rfl 69 _ (heap_alloc_new _ _) (info_roll _ _) rfl (roll_one _ _ _ _) ?_; rw [setRow_alloc_new]))
  rw [← hW]
  clear hW
  by_cases hpn : L = []
  · have hn0 : nL = 0 := by rw [← hnL.out, hpn]; rfl
    have HF : Hid (Pk.front y.it = []) := by show _ = _; unfold Pk.front; rw [hL.out, if_pos hpn]
    have t0 : ¬ (0 : Int) < (nL : Int) := by omega
    clear hpn
    go_upto_region 7 with (first
      | (refine wpList_load_row rfl 47 _ rfl w.heap.size rfl 47 y.arr (0, 0) _ (HXQ.out _ ⟨_, _, HR0.out⟩) Tryz.underlying47 rfl hiI ?_)
      | (go_at_call 59; refine (HPr.out _).mono ?_; rintro e w1 ⟨⟨vp, rfl, hop⟩, hw1⟩; rw [← hnL.out] at hop; obtain ⟨Ap, cp, rfl, hcp, hPrs, hAn⟩ := prs_of_own hop; rw [hnL.out] at hcp ⊢; have hR1 := HR0.out.bw hw1))
    have hR4 : Rolls base (w.heap.size + 1) (.slice Av mv cv) R (R ++ ([] : Pk.B)) W w1 (.slice Av mv cv) := by rw [List.append_nil]; exact hR1
    obtain ⟨nF, hnF⟩ : ∃ n : Nat, Hid (List.length (R ++ ([] : Pk.B)) = n) := ⟨_, show List.length (R ++ ([] : Pk.B)) = _ from rfl⟩
    have hnFb : nF ≤ 2097152 - 4096 := by rw [← hnF.out, List.length_append]; (try rw [List.length_nil]); omega
    have hRF : R.length ≤ nF := by rw [← hnF.out, List.length_append]; omega
    go_upto_region 8 with (first
      | (refine wpList_load_row rfl 47 _ rfl w.heap.size rfl 47 y.arr (0, 0) _ (HXQ.out _ ⟨_, _, hR4⟩) Tryz.underlying47 rfl hiI ?_)
      | (go_at_call 63; refine (HHd.out _ (HKQ.out _ ⟨_, _, hR4⟩).2).mono ?_; rintro e w5 ⟨rfl, hw5⟩; have hR5 := hR4.bw hw5)
      | (go_at_call 61; refine (HPH.out _ _ _ D (by rw [hnF.out]; omega) hR5 (by rw [hnF.out]; exact hRF)).mono ?_; rintro e w6 ⟨rfl, v6, hR6, -⟩; have c4 : w6.cell? ⟨w.heap.size, 4, none⟩ = some (.slice y.ad y.it.body.length y.cp) := cell_of_row w6 w.heap.size 4 _ _ _ (HXQ.out _ ⟨_, _, hR6⟩)))
    have hDl := Pk.hB_le D
    have hrow6 := hR6.row HyW.out HapW.out
    have hap6 := hR6.apart HapW.out
    go_upto_region 9 with (go_at_call 62; refine (HPU.out _ _ _ y.ad y.it.body.length y.cp y.it.body (by rw [List.length_append, hnF.out]; omega) hR6 (by rw [List.length_append, hnF.out]; omega) rfl (by omega) hle hrow6 hap6).mono ?_; rintro e w7 ⟨rfl, v7, hR7⟩)
    obtain ⟨A7, c7, hv7⟩ := own_slice hR7.own.2
    generalize (R ++ ([] : Pk.B) ++ Pk.hB D ++ Pk.fill y.it.body).length / 512 = m7 at hv7
    subst hv7
    have heq : Hid (R ++ ([] : Pk.B) ++ Pk.hB D ++ Pk.fill y.it.body = R ++ Pk.pcs y.it) := by
      show _ = _
      unfold Pk.pcs
      rw [hD.out, HF.out]
      simp only [List.append_assoc, List.nil_append]
    rw [heq.out] at hR7
    obtain ⟨M, hM⟩ : ∃ M : Nat, Hid ((R ++ Pk.pcs y.it).length = M) := ⟨_, rfl⟩
    have hMb : M ≤ 2097152 := by rw [← hM.out, List.length_append]; omega
    have hat := hR7.at_
    unfold RollAt at hat
    rw [hM.out] at hat
    have c1 : w7.cell? ⟨w.heap.size + 1, 1, none⟩ = some (.int .i64 (M : Int)) := cell_of_row w7 _ 1 _ _ _ hat
    by_cases hbig : 131072 < M + 1024
    · have t1 : (131072 : Int) < (M : Int) + 1024 := by omega
      go_wp2
      go_ret
      exact .inl ⟨by rw [hM.out]; exact hbig, rfl, lay_no HA0.out.1 HA0.out.2 hbW (Nat.le_succ _) hR7⟩
    · have t1 : ¬ (131072 : Int) < (M : Int) + 1024 := by omega
      have hno := lay_no HA0.out.1 HA0.out.2 hbW (Nat.le_succ _) hR7
      go_wp2_with (first
        | (refine wpList_load_row rfl 69 _ rfl (w.heap.size + 1) rfl 69 #[.slice A7 m7 c7, .int .i64 (M : Int)] (0, 0) _ hat Tryz.underlying69 rfl (info_roll _ _) ?_)
        | (refine wpList_store_row rfl 69 _ _ rfl g #[.slice A7 m7 c7, .int .i64 (M : Int)] rfl rfl 69 _ hno.at_ (info_roll _ _) rfl (roll_one _ _ _ _) ?_))
      go_ret
      have hyes := lay_yes HA0.out.1 HA0.out.2 hbW (Nat.le_succ _) hR7
      rw [hM.out] at hyes
      exact .inr ⟨by rw [hM.out]; exact hbig, rfl, _, hyes⟩
  · have hn0 : 0 < nL := by rw [← hnL.out]; exact List.length_pos_iff.2 hpn
    have HF : Hid (Pk.front y.it = Pk.hB (Pk.more nr) ++ Pk.fill RR) := by show _ = _; unfold Pk.front; rw [hL.out, if_neg hpn, hRR.out, hnr.out]
    have t0 : (0 : Int) < (nL : Int) := by omega
    clear hpn
    obtain ⟨E, hE⟩ : ∃ E, Hid (E = Pk.more nr) := ⟨_, rfl⟩
    rw [← hE.out] at HF
    have hEl := Pk.hB_le E
    go_upto_region 6 with (first
      | (refine wpList_load_row rfl 47 _ rfl w.heap.size rfl 47 y.arr (0, 0) _ (HXQ.out _ ⟨_, _, HR0.out⟩) Tryz.underlying47 rfl hiI ?_)
      | (go_at_call 59; refine (HPr.out _).mono ?_; rintro e w1 ⟨⟨vp, rfl, hop⟩, hw1⟩; rw [← hnL.out] at hop; obtain ⟨Ap, cp, rfl, hcp, hPrs, hAn⟩ := prs_of_own hop; rw [hnL.out] at hcp ⊢; have hR1 := HR0.out.bw hw1)
      | (go_at_call 60; refine (HPP.out _ _ _ hcp (HKQ.out _ ⟨_, _, hR1⟩).1 hPrs).mono ?_; rintro e w2 ⟨Ar, cr, pi, er, rfl, hcr, hrow, hrb, hw2⟩; have hR2 := hR1.bw hw2)
      | (refine wpList_built_g10 (by rfl) 61 _ rfl (Hd.hv E) (by rw [hE.out]; kernel_rfl) ?_)
      | (go_at_call 61; refine (HPH.out _ _ _ E (by omega) hR2 (Nat.le_refl _)).mono ?_; rintro e w3 ⟨rfl, v3, hR3, hR23⟩))
    have hapr : Apart w2 Ar nr (w.heap.size + 1) (.slice Av mv cv) := fun b o e _ => by
      have h1 := hrb b o e
      have h2 := hw1.size
      have h3 := HN.out.lt
      exact ⟨h1.2, by omega, fun e2 => by have := (HVL.out _ e2).1; omega⟩
    have hrow3 := hR23.row hrow hapr
    have hap3 := hR23.apart hapr
    go_upto_region 7 with (go_at_call 62; refine (HPU.out _ _ _ Ar nr cr RR (by rw [List.length_append]; omega) hR3 (by rw [List.length_append]; omega) hnr.out (by omega) hcr hrow3 hap3).mono ?_; rintro e w4 ⟨rfl, v4, hR4'⟩)
    have hR4 : Rolls base (w.heap.size + 1) (.slice Av mv cv) R (R ++ (Pk.hB E ++ Pk.fill RR)) W w4 v4 := by rw [← List.append_assoc]; exact hR4'
    have hFl : (Pk.hB E ++ Pk.fill RR).length ≤ 3200 := by rw [← HF.out]; exact hfl
    obtain ⟨nF, hnF⟩ : ∃ n : Nat, Hid (List.length (R ++ (Pk.hB E ++ Pk.fill RR)) = n) := ⟨_, show List.length (R ++ (Pk.hB E ++ Pk.fill RR)) = _ from rfl⟩
    have hnFb : nF ≤ 2097152 - 4096 := by rw [← hnF.out, List.length_append]; (try rw [List.length_nil]); omega
    have hRF : R.length ≤ nF := by rw [← hnF.out, List.length_append]; omega
    go_upto_region 8 with (first
      | (refine wpList_load_row rfl 47 _ rfl w.heap.size rfl 47 y.arr (0, 0) _ (HXQ.out _ ⟨_, _, hR4⟩) Tryz.underlying47 rfl hiI ?_)
      | (go_at_call 63; refine (HHd.out _ (HKQ.out _ ⟨_, _, hR4⟩).2).mono ?_; rintro e w5 ⟨rfl, hw5⟩; have hR5 := hR4.bw hw5)
      | (go_at_call 61; refine (HPH.out _ _ _ D (by rw [hnF.out]; omega) hR5 (by rw [hnF.out]; exact hRF)).mono ?_; rintro e w6 ⟨rfl, v6, hR6, -⟩; have c4 : w6.cell? ⟨w.heap.size, 4, none⟩ = some (.slice y.ad y.it.body.length y.cp) := cell_of_row w6 w.heap.size 4 _ _ _ (HXQ.out _ ⟨_, _, hR6⟩)))
    have hDl := Pk.hB_le D
    have hrow6 := hR6.row HyW.out HapW.out
    have hap6 := hR6.apart HapW.out
    go_upto_region 9 with (go_at_call 62; refine (HPU.out _ _ _ y.ad y.it.body.length y.cp y.it.body (by rw [List.length_append, hnF.out]; omega) hR6 (by rw [List.length_append, hnF.out]; omega) rfl (by omega) hle hrow6 hap6).mono ?_; rintro e w7 ⟨rfl, v7, hR7⟩)
    obtain ⟨A7, c7, hv7⟩ := own_slice hR7.own.2
    generalize (R ++ (Pk.hB E ++ Pk.fill RR) ++ Pk.hB D ++ Pk.fill y.it.body).length / 512 = m7 at hv7
    subst hv7
    have heq : Hid (R ++ (Pk.hB E ++ Pk.fill RR) ++ Pk.hB D ++ Pk.fill y.it.body = R ++ Pk.pcs y.it) := by
      show _ = _
      unfold Pk.pcs
      rw [hD.out, HF.out]
      simp only [List.append_assoc, List.nil_append]
    rw [heq.out] at hR7
    obtain ⟨M, hM⟩ : ∃ M : Nat, Hid ((R ++ Pk.pcs y.it).length = M) := ⟨_, rfl⟩
    have hMb : M ≤ 2097152 := by rw [← hM.out, List.length_append]; omega
    have hat := hR7.at_
    unfold RollAt at hat
    rw [hM.out] at hat
    have c1 : w7.cell? ⟨w.heap.size + 1, 1, none⟩ = some (.int .i64 (M : Int)) := cell_of_row w7 _ 1 _ _ _ hat
    by_cases hbig : 131072 < M + 1024
    · have t1 : (131072 : Int) < (M : Int) + 1024 := by omega
      go_wp2
      go_ret
      exact .inl ⟨by rw [hM.out]; exact hbig, rfl, lay_no HA0.out.1 HA0.out.2 hbW (Nat.le_succ _) hR7⟩
    · have t1 : ¬ (131072 : Int) < (M : Int) + 1024 := by omega
      have hno := lay_no HA0.out.1 HA0.out.2 hbW (Nat.le_succ _) hR7
      go_wp2_with (first
        | (refine wpList_load_row rfl 69 _ rfl (w.heap.size + 1) rfl 69 #[.slice A7 m7 c7, .int .i64 (M : Int)] (0, 0) _ hat Tryz.underlying69 rfl (info_roll _ _) ?_)
        | (refine wpList_store_row rfl 69 _ _ rfl g #[.slice A7 m7 c7, .int .i64 (M : Int)] rfl rfl 69 _ hno.at_ (info_roll _ _) rfl (roll_one _ _ _ _) ?_))
      go_ret
      have hyes := lay_yes HA0.out.1 HA0.out.2 hbW (Nat.le_succ _) hR7
      rw [hM.out] at hyes
      exact .inr ⟨by rw [hM.out]; exact hbig, rfl, _, hyes⟩
end Go.Proofs.YtldkhbkgmiicbaaGreatDoor

/- The program's own Find and hasFile, of layer 11, as landed at 97b3c5cd. -/
namespace Go.Proofs.YtldkhbkgmiicbaaGreatDoor
open Go.RowKit Go.Deep
set_option linter.unusedVariables false
set_option linter.unusedSimpArgs false

set_option maxRecDepth 100000 in
theorem find1_any (y : Tr.Iv) (p : Tr.B) (g : Nat) (w : World) (hg : w.cell? ⟨g, 0, none⟩ = some (.string (Nm.S p))) : Calls Tryz.prog 137 #[.agg y.arr, .pointer (some ⟨g, 0, none⟩)] w fun e w' => e = .returned (.bool (decide (y.it.path = p))) ∧ Bw w w' := by
  obtain ⟨W, hW⟩ : ∃ W, W = w.alloc (.cells y.arr 47) := ⟨_, rfl⟩
  have hbw : Bw w W := by rw [hW]; exact bw_alloc11 (Bw.refl _) _
  have hX : BoxAt W w.heap.size y := by rw [hW]; exact BoxAt.new _ _
  obtain ⟨x0, x1, x2, x3, x4, x5⟩ := hX.cells
  have hg2 := keep_cell11 hg hbw
  have es := Tr.S_eql y.it.path p
  clear hX hg
  go_enter Tryz.func137, Tryz.ntmps137
  go_upto_region 1 with fail
  rw [← hW]
  clear hW
  go_wp2
  go_ret
  exact ⟨rfl, hbw⟩
/-- a place, or -1 -/
def Tr.findI (t : List Tr.It) (p : Tr.B) : Int := match Tr.find t p with | some i => (i : Int) | none => -1
set_option maxRecDepth 100000 in
set_option maxHeartbeats 1000000 in
theorem indexf_any (A : Option Addr) (cap : Nat) (L : List Tr.Iv) (p : Tr.B) (g : Nat) (hn : L.length ≤ 4611686018427387904) (w : World) (ha : ItsAt w A L) (hg : w.cell? ⟨g, 0, none⟩ = some (.string (Nm.S p))) :
    Calls Tryz.prog 136 #[.slice A L.length cap, .func (.func 137) #[] #[.pointer (some ⟨g, 0, none⟩)]] w fun e w' => e = .returned (.int .i64 (Tr.findI (Tr.its L) p)) ∧ Bw w w' := by
  obtain ⟨r, hR⟩ : ∃ r, Hid (Tr.findI (Tr.its L) p = r) := ⟨_, rfl⟩
  rw [hR.out]
  obtain ⟨n, hnn⟩ : ∃ n, Hid (L.length = n) := ⟨_, rfl⟩
  rw [hnn.out] at hn ⊢
  have HA : Hid (ItsAt w A L) := ha
  have HG : Hid (w.cell? ⟨g, 0, none⟩ = some (.string (Nm.S p))) := hg
  clear ha hg
  go_enter Tryz.func136, Tryz.ntmps136
  go_wp2
  go_loopw [8] (fun i wr => ∃ k : Nat, k ≤ n ∧ i = .int .i64 (k : Int) ∧ Hid (∀ (j : Nat) (q : Tr.It), j < k → (Tr.its L)[j]? = some q → q.path ≠ p) ∧ Bw w wr) (fun i _ => n - (intOf i).toNat)
  case atStart => exact ⟨0, Nat.zero_le _, rfl, fun j q hj => absurd hj (Nat.not_lt_zero _), Bw.refl _⟩
  case round =>
    obtain ⟨i, hi, rfl, hno, hbw⟩ := hrel
    have i0 : (0 : Int) ≤ (i : Int) := Int.natCast_nonneg _
    by_cases hlt : i < n
    · have i1 : (i : Int) < (n : Int) := by omega
      obtain ⟨y, hy⟩ : ∃ y, Hid (L[i]? = some y) := ⟨_, List.getElem?_eq_getElem (by rw [hnn.out]; exact hlt)⟩
      obtain ⟨b, off, rfl, hY, -⟩ := (HA.out.keep hbw).at hy.out
      obtain ⟨d, hd⟩ : ∃ d, Hid (decide (y.it.path = p) = d) := ⟨_, rfl⟩
      have HF : Hid (∀ u, Bw w u → Calls Tryz.prog 137 #[.agg y.arr, .pointer (some ⟨g, 0, none⟩)] u fun e w' => e = .returned (.bool d) ∧ Bw u w') := fun u hu => by
        rw [← hd.out]; exact find1_any y p g u (keep_cell11 HG.out hu)
      have HY : Hid (ItAt wr b (off + i * 6) y) := hY
      clear hY
      cases d with
      | true =>
        have hp := of_decide_eq_true hd.out
        obtain rfl : (i : Int) = r := by
          rw [← hR.out]; unfold Tr.findI; rw [Tr.find_at _ _ i _ (Tr.its_at hy.out) hp hno.out]
        clear hp
        go_wp2_with (first
          | refine wpList_load_it (by rfl) (.tmp 14) rfl b (off + i * 6) rfl y HY.out ?_
          | (go_at_call 137; refine (HF.out _ hbw).mono ?_; rintro e w1 ⟨rfl, hw1⟩))
        go_ret
        exact ⟨rfl, hbw.trans hw1⟩
      | false =>
        have hp := of_decide_eq_false hd.out
        have nx : Hid (∀ (j : Nat) (q : Tr.It), j < i + 1 → (Tr.its L)[j]? = some q → q.path ≠ p) := fun j q hj hq => by
          rcases Nat.lt_or_ge j i with h | h
          · exact hno.out j q h hq
          · rw [show j = i by omega, Tr.its_at hy.out, Option.some.injEq] at hq
            rw [← hq]; exact hp
        clear hp
        go_wp2_with (first
          | refine wpList_load_it (by rfl) (.tmp 14) rfl b (off + i * 6) rfl y HY.out ?_
          | (go_at_call 137; refine (HF.out _ hbw).mono ?_; rintro e w1 ⟨rfl, hw1⟩))
        go_roundw
        case rel => exact ⟨i + 1, by omega, by go_num, nx, hbw.trans hw1⟩
        case measure => simp [intOf]; omega
    · have ei : i = n := by omega
      subst ei
      obtain rfl : (-1 : Int) = r := by
        rw [← hR.out]; unfold Tr.findI
        rw [Tr.find_none _ _ (fun j q hq => hno.out j q (by have := (List.getElem?_eq_some_iff.1 hq).1; rw [Tr.its_len, hnn.out] at this; exact this) hq)]
      go_wp2
      go_ret
      exact ⟨rfl, hbw⟩
set_option maxRecDepth 100000 in
theorem tfind_any (A : Option Addr) (cap : Nat) (L : List Tr.Iv) (p : Tr.B) (hn : L.length ≤ 4611686018427387904) (w : World) (ha : ItsAt w A L) :
    Calls Tryz.prog 110 #[.slice A L.length cap, .string (Nm.S p)] w fun e w' => e = .returned (.tuple #[.int .i64 ((Tr.findE (Tr.its L) p).1 : Int), .int .i64 (Tr.findE (Tr.its L) p).2]) ∧ Bw w w' := by
  obtain ⟨rA, rE, hR⟩ : ∃ a b, Hid (Tr.findE (Tr.its L) p = (a, b)) := ⟨_, _, show Tr.findE (Tr.its L) p = _ from rfl⟩
  rw [hR.out]
  dsimp only
  obtain ⟨r, hI⟩ : ∃ r, Hid (Tr.findI (Tr.its L) p = r) := ⟨_, rfl⟩
  have HX : Hid (∀ u, ItsAt u A L → u.cell? ⟨w.heap.size, 0, none⟩ = some (.string (Nm.S p)) → Calls Tryz.prog 136 #[.slice A L.length cap, .func (.func 137) #[] #[.pointer (some ⟨w.heap.size, 0, none⟩)]] u fun e w' => e = .returned (.int .i64 r) ∧ Bw u w') := fun u h1 h2 => by
    rw [← hI.out]; exact indexf_any A cap L p w.heap.size hn u h1 h2
  obtain ⟨n, hnn⟩ : ∃ n, Hid (L.length = n) := ⟨_, rfl⟩
  rw [hnn.out] at hn HX ⊢
  obtain ⟨W, hW⟩ : ∃ W, W = w.alloc (.cells #[.string (Nm.S p)] 9) := ⟨_, rfl⟩
  have hbw : Bw w W := by rw [hW]; exact bw_alloc11 (Bw.refl _) _
  have HC : Hid (W.cell? ⟨w.heap.size, 0, none⟩ = some (.string (Nm.S p))) := by show _ = _; rw [hW]; exact (new_cell8 w _ _).1
  have HA : Hid (ItsAt W A L) := ha.keep hbw
  clear ha
  rcases hf : Tr.find (Tr.its L) p with _ | i
  · have hr := hR.out
    unfold Tr.findE at hr
    rw [hf, Prod.mk.injEq] at hr
    obtain ⟨rfl, rfl⟩ := hr
    obtain rfl : (-1 : Int) = r := by rw [← hI.out]; unfold Tr.findI; rw [hf]
    clear hf
    go_enter Tryz.func110, Tryz.ntmps110
    go_upto_region 1 with fail
    rw [← hW]
    clear hW
    go_wp2_with (go_at_call 136; refine (HX.out _ HA.out HC.out).mono ?_; rintro e w1 ⟨rfl, hw1⟩)
    go_ret2
    exact ⟨rfl, hbw.trans hw1⟩
  · have hr := hR.out
    unfold Tr.findE at hr
    rw [hf, Prod.mk.injEq] at hr
    obtain ⟨rfl, rfl⟩ := hr
    obtain rfl : (i : Int) = r := by rw [← hI.out]; unfold Tr.findI; rw [hf]
    have i0 : (0 : Int) ≤ (i : Int) := Int.natCast_nonneg _
    clear hf
    go_enter Tryz.func110, Tryz.ntmps110
    go_upto_region 1 with fail
    rw [← hW]
    clear hW
    go_wp2_with (go_at_call 136; refine (HX.out _ HA.out HC.out).mono ?_; rintro e w1 ⟨rfl, hw1⟩)
    go_ret2
    exact ⟨rfl, hbw.trans hw1⟩
set_option maxRecDepth 100000 in
theorem hasfile_any (A : Option Addr) (cap : Nat) (L : List Tr.Iv) (p : Tr.B) (hn : L.length ≤ 4611686018427387904) (hs : Tr.Srt (Tr.its L)) (w : World) (ha : ItsAt w A L) :
    Calls Tryz.prog 81 #[.slice A L.length cap, .string (Nm.S p)] w fun e w' => e = .returned (.bool (Tr.hasB (Tr.its L) p 1)) ∧ Bw w w' := by
  obtain ⟨r, hR⟩ : ∃ r, Hid (Tr.hasB (Tr.its L) p 1 = r) := ⟨_, rfl⟩
  rw [hR.out]
  obtain ⟨n, hnn⟩ : ∃ n, Hid (L.length = n) := ⟨_, rfl⟩
  obtain ⟨rA, rE, hE⟩ : ∃ a b, Hid (Tr.findE (Tr.its L) p = (a, b)) := ⟨_, _, show Tr.findE (Tr.its L) p = _ from rfl⟩
  have HX : Hid (∀ u, ItsAt u A L → Calls Tryz.prog 110 #[.slice A n cap, .string (Nm.S p)] u fun e w' => e = .returned (.tuple #[.int .i64 (rA : Int), .int .i64 rE]) ∧ Bw u w') := fun u h => by
    have := tfind_any A cap L p hn u h
    rwa [hE.out, hnn.out] at this
  rw [hnn.out] at hn ⊢
  have HA : Hid (ItsAt w A L) := ha
  clear ha
  rcases hf : Tr.find (Tr.its L) p with _ | i
  · have hr := hE.out
    unfold Tr.findE at hr
    rw [hf, Prod.mk.injEq] at hr
    obtain ⟨rfl, rfl⟩ := hr
    obtain rfl : false = r := by rw [← hR.out]; exact (Tr.has_none hf).symm
    clear hf hs
    go_enter Tryz.func81, Tryz.ntmps81
    go_wp2_with (go_at_call 110; refine (HX.out _ HA.out).mono ?_; rintro e w1 ⟨rfl, hw1⟩)
    go_ret
    exact ⟨rfl, hw1⟩
  · have hr := hE.out
    unfold Tr.findE at hr
    rw [hf, Prod.mk.injEq] at hr
    obtain ⟨rfl, rfl⟩ := hr
    obtain ⟨x, hx, hxp, -⟩ := Tr.find_some _ _ _ hf
    obtain ⟨y, hy, rfl⟩ := Tr.its_of hx
    have hh := Tr.has_find hs (k := 1) hf hx
    rw [hR.out] at hh
    obtain ⟨b, off, rfl, hY, -⟩ := HA.out.at hy
    have HY : Hid (ItAt w b (off + i * 6) y) := hY
    have hlt : i < n := by have := (List.getElem?_eq_some_iff.1 hy).1; rw [hnn.out] at this; exact this
    have i0 : (0 : Int) ≤ (i : Int) := Int.natCast_nonneg _
    have i1 : (i : Int) < (n : Int) := by omega
    have hb : ((y.it.kind : Int) == 1) = r := by
      rw [hh]
      by_cases h : y.it.kind = 1
      · rw [decide_eq_true h, h]; rfl
      · rw [decide_eq_false h, beq_eq_false_iff_ne]; omega
    clear hf hs hx hxp hh hY hy
    go_enter Tryz.func81, Tryz.ntmps81
    go_wp2_with (go_at_call 110; refine (HX.out _ HA.out).mono ?_; rintro e w1 ⟨rfl, hw1⟩; have c1 := (HY.out.keep hw1).c1)
    go_ret
    exact ⟨rfl, hw1⟩
end Go.Proofs.YtldkhbkgmiicbaaGreatDoor
