/- Texts of mine, put together. -/
import Derived.Test.YtldkhbkgmiicbabGreatDoorBu29
import Derived.Deep.MidRow

/- Layer 12: the program's own lay where the roll stands at the head of a Writer (written by mkzm.py out of Z6). -/
namespace Go.Proofs.YtldkhbkgmiicbabGreatDoor
open Go.RowKit Go.Deep
set_option linter.unusedVariables false
set_option linter.unusedSimpArgs false

/-- a Writer in a block of its own: its roll, its items, whether it is closed -/
def WrAt (I : Value) (cl : Bool) (w : World) (g : Nat) (v : Value) (R : Pk.B) : Prop := w.heap[g]? = some (.cells #[v, .int .i64 (R.length : Int), I, .bool cl] 59 (0, 0))
namespace WrAt
variable {I : Value} {cl : Bool} {w w' : World} {g : Nat} {v : Value} {R : Pk.B}
theorem lt (h : WrAt I cl w g v R) : g < w.heap.size := (Array.getElem?_eq_some_iff.1 h).1
theorem keep (h : WrAt I cl w g v R) (b : Bw w w') : WrAt I cl w' g v R := (b.block g h.lt).trans h
theorem keepx {S : Nat → Prop} (h : WrAt I cl w g v R) (b : Bx S w w') (hg : ¬ S g) : WrAt I cl w' g v R := (b.block g h.lt hg).trans h
theorem c0 (h : WrAt I cl w g v R) : w.cell? ⟨g, 0, none⟩ = some v := cell_of_row w g 0 _ _ _ h
theorem c1 (h : WrAt I cl w g v R) : w.cell? ⟨g, 1, none⟩ = some (.int .i64 (R.length : Int)) := cell_of_row w g 1 _ _ _ h
theorem c2 (h : WrAt I cl w g v R) : w.cell? ⟨g, 2, none⟩ = some I := cell_of_row w g 2 _ _ _ h
theorem c3 (h : WrAt I cl w g v R) : w.cell? ⟨g, 3, none⟩ = some (.bool cl) := cell_of_row w g 3 _ _ _ h
theorem fz (h : WrAt I cl w g v R) (k : Nat) : w.frozen? ⟨g, k, none⟩ = false := frozen_of_row w g k _ _ h
theorem range (h : WrAt I cl w g v R) : w.rangeAt g 0 [v, .int .i64 (R.length : Int)] := fun j u hu => by
  match j, hu with
  | 0, hu => simp at hu; subst hu; exact h.c0
  | 1, hu => simp at hu; subst hu; exact h.c1
theorem there2 (h : WrAt I cl w g v R) (a b : Value) : w.there g 0 (#[a, b] : Array Value).size := fun j hj => by
  have hj' : j < 2 := hj
  match j, hj' with
  | 0, _ => exact ⟨by show (w.cell? ⟨g, 0, none⟩).isSome = true; rw [h.c0]; rfl, h.fz _⟩
  | 1, _ => exact ⟨by show (w.cell? ⟨g, 1, none⟩).isSome = true; rw [h.c1]; rfl, h.fz _⟩
end WrAt
theorem wr_apart {I : Value} {cl : Bool} {w : World} {base g : Nat} {v : Value} {R : Pk.B} (h1 : WrAt I cl w g v R) (h2 : RollOwn w base v R) : v.ownBlock ≠ some g := fun e => by
  rcases h2.2.2 with ⟨e1, _⟩ | ⟨g', cap, cur, e1, _, hc, _⟩
  · rw [e1] at e; cases e
  · rw [e1] at e
    cases e
    unfold WrAt at h1
    rw [hc] at h1
    simp only [Option.some.injEq, Obj.cells.injEq] at h1
    exact absurd h1.2.1 (by decide)
/-- what a Writer's roll becomes -/
structure RollsW (I : Value) (cl : Bool) (base g : Nat) (v : Value) (R R' : Pk.B) (w w' : World) (v' : Value) : Prop where
  at_ : WrAt I cl w' g v' R'
  own : RollOwn w' base v' R'
  bx : Bx (fun b => b = g ∨ v.ownBlock = some b) w w'
  blk : v'.ownBlock = v.ownBlock ∨ ∃ k, v'.ownBlock = some k ∧ w.heap.size ≤ k
  stays : Stays R.length w w'
theorem bx_cells2 (w : World) (g : Nat) (a b : Value) : Bx (fun x => x = g) w (w.setCells g 0 [a, b]) := Bx.put (S := fun x => x = g) (Bx.put (S := fun x => x = g) (Bx.refl (fun x => x = g) w) rfl) rfl
theorem heap_cells2 {I : Value} {cl : Bool} {w : World} {g : Nat} {v : Value} {R R' : Pk.B} (h : WrAt I cl w g v R) (v' : Value) : WrAt I cl (w.setCells g 0 [v', .int .i64 (R'.length : Int)]) g v' R' := by
  have h1 := heap_setCell_same w g 0 _ _ v' h
  have h2 := heap_setCell_same _ g 1 _ _ (.int .i64 (R'.length : Int)) h1
  exact h2
/-- what a copy of a roll became, and the roll itself was left -/
theorem layW_no {I : Value} {cl : Bool} {base g N : Nat} {v v1 : Value} {R R1 : Pk.B} {w W w1 : World} (ha : WrAt I cl w g v R) (ho : RollOwn w base v R) (hb : Bw w W) (hN : w.heap.size ≤ N) (h : Rolls base N v R R1 W w1 v1) : RollsW I cl base g v R R w w1 v := by
  have hgl := ha.lt
  have hne := wr_apart ha ho
  refine ⟨(ha.keep hb).keepx h.bx (fun e => e.elim (fun e => by omega) hne), ⟨ho.1, h.stays _ _ _ _ (by omega) (own_keep ho.2 hb)⟩, Bx.new (Bx.of_bw hb) h.bx (fun x hx e => e.elim (fun e => by omega) .inr), .inl rfl, fun b u k ys hk hu => h.stays b u k ys hk (own_keep hu hb)⟩
/-- .. and the roll became it -/
theorem layW_yes {I : Value} {cl : Bool} {base g N : Nat} {v : Value} {A1 : Option Addr} {m1 c1 : Nat} {R R1 : Pk.B} {w W w1 : World} (ha : WrAt I cl w g v R) (ho : RollOwn w base v R) (hb : Bw w W) (hN : w.heap.size ≤ N) (h : Rolls base N v R R1 W w1 (.slice A1 m1 c1)) :
    RollsW I cl base g v R R1 w (w1.setCells g 0 [.slice A1 m1 c1, .int .i64 (R1.length : Int)]) (.slice A1 m1 c1) := by
  have hn := layW_no ha ho hb hN h
  have hgl := ha.lt
  have hne := wr_apart ha ho
  have bx2 : Bx (fun b => b = g) w1 (w1.setCells g 0 [.slice A1 m1 c1, .int .i64 (R1.length : Int)]) := bx_cells2 _ _ _ _
  have hblk : (Value.slice A1 m1 c1).ownBlock = v.ownBlock ∨ ∃ k, (Value.slice A1 m1 c1).ownBlock = some k ∧ w.heap.size ≤ k := by
    rcases h.blk with e | ⟨k, e1, e2⟩
    · exact .inl e
    · exact .inr ⟨k, e1, Nat.le_trans hb.size e2⟩
  refine ⟨heap_cells2 hn.at_ _, ⟨h.own.1, own_bx h.own.2 bx2 (fun x hx e => ?_)⟩, hn.bx.trans (bx2.more (fun b hb => .inl hb)), hblk, fun b u k ys hk hu => own_bx (hn.stays b u k ys hk hu) bx2 (fun x hx e => ?_)⟩
  · rcases hblk with e1 | ⟨k, e1, e2⟩
    · rw [e1] at hx; exact hne (by rw [hx, e])
    · rw [e1] at hx; cases hx; omega
  · subst e
    rcases hu.2 with ⟨e1, _⟩ | ⟨g', cap, cur, e1, _, hc, _⟩
    · rw [e1] at hx; cases hx
    · rw [e1] at hx
      cases hx
      have := ha
      unfold WrAt at this
      rw [hc] at this
      cases this
/-- what lay answers -/
def LayEndsW (I : Value) (cl : Bool) (base g : Nat) (v : Value) (R : Pk.B) (x : Tr.It) (w : World) (e : Ending) (w' : World) : Prop :=
  (131072 < (R ++ Pk.pcs x).length + 1024 ∧ e = .returned (.int .i64 2) ∧ RollsW I cl base g v R R w w' v) ∨ (¬ 131072 < (R ++ Pk.pcs x).length + 1024 ∧ e = .returned (.int .i64 0) ∧ ∃ v', RollsW I cl base g v R (R ++ Pk.pcs x) w w' v')
set_option maxRecDepth 100000 in
set_option maxHeartbeats 8000000 in
theorem layW_any (I : Value) (cl : Bool) (base g : Nat) (y : Tr.Iv) (R : Pk.B) (v : Value) (hR : R.length ≤ 1048576) (hm : Tr.mayE y.it = 0) (w : World) (hbase : base ≤ w.heap.size) (ha : WrAt I cl w g v R) (ho : RollOwn w base v R) (hy : BodyAt w y) (hap : Apart w y.ad y.it.body.length g v) (hk : ∀ u, Below base w u → KTAt u) :
    Calls Tryz.prog 24 #[.pointer (some ⟨g, 0, none⟩), .agg y.arr] w fun e w' => LayEndsW I cl base g v R y.it w e w' := by
  obtain ⟨Av, cv, hve⟩ := own_slice ho.2
  generalize R.length / 512 = mv at hve
  subst hve
  have hkind := Tr.may_kind hm
  have hbody := Pk.may_body hm
  have hfit := hy.fit
  have hfl := Pk.front_len y.it
  have hpl := Pk.pcs_len y.it
  have hrl := Pk.recs_len y.it
  have hgl := ha.lt
  have hz := zero_roll
  have hiI := info_it y
  obtain ⟨L, hL⟩ : ∃ L, Hid (Pk.prsOf y.it = L) := ⟨_, rfl⟩
  have HPr : Hid (∀ u, Calls Tryz.prog 26 #[.agg y.arr] u fun e w' => (∃ vp, e = .returned vp ∧ w'.ownsRow u.heap.size 42 2 vp L.length (Px.cellsPr L)) ∧ Bw u w') := fun u => by
    have := pairsof_any y hfit (Pk.spl_says y.it.path) u
    rw [show Pk.prs y.it (Pk.spl y.it.path).2.2 = L from hL.out] at this
    exact this
  have HHd : Hid (∀ u, TAt u → Calls Tryz.prog 34 #[.agg y.arr] u fun e w' => e = .returned (.agg (Hd.hv (Pk.hd y.it))) ∧ Bw u w') := fun u hu => headof_any y hfit hkind u hu
  obtain ⟨D, hD⟩ : ∃ D, Hid (D = Pk.hd y.it) := ⟨_, rfl⟩
  rw [← hD.out] at HHd
  obtain ⟨W, hW⟩ : ∃ W, W = (w.alloc (.cells y.arr 26)).alloc (.cells #[.slice Av mv cv, .int .i64 (R.length : Int)] 54) := ⟨_, rfl⟩
  have HX : Hid (BoxAt W w.heap.size y) := by rw [hW]; exact heap_alloc2_old _ _ _
  have HN : Hid (RollAt W (w.heap.size + 1) (.slice Av mv cv) R) := by rw [hW]; exact heap_alloc2_new _ _ _
  have hbW : Bw w W := by rw [hW]; exact bw_alloc2 _ _ _
  have HO : Hid (RollOwn W base (.slice Av mv cv) R) := ⟨ho.1, own_keep ho.2 hbW⟩
  have HA0 : Hid (WrAt I cl w g (.slice Av mv cv) R ∧ RollOwn w base (.slice Av mv cv) R) := ⟨ha, ho⟩
  have hvl : ∀ k, (Value.slice Av mv cv).ownBlock = some k → k < w.heap.size ∧ base ≤ k := fun k hk => ⟨(World.ownsRow.lt ho.2 k hk).2, (World.ownsRow.lt ho.2 k hk).1⟩
  have HVL : Hid (∀ k, (Value.slice Av mv cv).ownBlock = some k → k < w.heap.size ∧ base ≤ k) := hvl
  -- whatever the copy becomes: the item's box, the tables, the item's bytes
  have HXQ : Hid (∀ u, (∃ R1 v1, Rolls base (w.heap.size + 1) (.slice Av mv cv) R R1 W u v1) → u.heap[w.heap.size]? = some (.cells y.arr 26 (0, 0))) := fun u ⟨R1, v1, h⟩ => (h.bx.block _ (Array.getElem?_eq_some_iff.1 HX.out).1 (fun e => e.elim (fun e => by omega) (fun e => by have := (HVL.out _ e).1; omega))).trans HX.out
  have HKQ : Hid (∀ u, (∃ R1 v1, Rolls base (w.heap.size + 1) (.slice Av mv cv) R R1 W u v1) → KTAt u) := fun u ⟨R1, v1, h⟩ => hk u (Below.trans (hbW.mono hbase) (h.bx.below (Nat.le_trans hbase hbW.size) (fun b e => e.elim (fun e => by omega) (fun e => (HVL.out _ e).2))))
  have HapW : Hid (Apart W y.ad y.it.body.length (w.heap.size + 1) (.slice Av mv cv)) := fun b o e hn => ⟨Nat.lt_of_lt_of_le (hap b o e hn).1 hbW.size, by have := (hap b o e hn).1; omega, (hap b o e hn).2.2⟩
  have HyW : Hid (RowAt W y.ad y.it.body.length (Hd.rowF y.it.body)) := hy.row.keep hbW
  have hle := hy.le
  have HWb : Hid (base ≤ W.heap.size) := Nat.le_trans hbase hbW.size
  have HR0 : Hid (Rolls base (w.heap.size + 1) (.slice Av mv cv) R R W W (.slice Av mv cv)) := Rolls.refl HN.out HO.out
  -- putHead and put of the copy
  have HPH : Hid (∀ u R1 v1 h, R1.length ≤ 2097152 → Rolls base (w.heap.size + 1) (.slice Av mv cv) R R1 W u v1 → R.length ≤ R1.length → Calls Tryz.prog 32 #[.pointer (some ⟨w.heap.size + 1, 0, none⟩), .agg (Hd.hv h)] u fun e w' => e = .returned (.tuple #[]) ∧ ∃ v2, Rolls base (w.heap.size + 1) (.slice Av mv cv) R (R1 ++ Pk.hB h) W w' v2 ∧ Rolls base (w.heap.size + 1) v1 R1 (R1 ++ Pk.hB h) u w' v2) := fun u R1 v1 h hl hr hle => (puthead_any base _ h R1 v1 (by omega) u (Nat.le_trans HWb.out hr.bx.size) hr.at_ hr.own).mono fun e w' ⟨h1, v2, h2⟩ => ⟨h1, v2, hr.trans h2 hle, h2⟩
  have HPU : Hid (∀ u R1 v1 A n c r, R1.length ≤ 2097152 → Rolls base (w.heap.size + 1) (.slice Av mv cv) R R1 W u v1 → R.length ≤ R1.length → r.length = n → n ≤ 1048576 → n ≤ c → RowAt u A n (Hd.rowF r) → Apart u A n (w.heap.size + 1) v1 → Calls Tryz.prog 33 #[.pointer (some ⟨w.heap.size + 1, 0, none⟩), .slice A n c] u fun e w' => e = .returned (.tuple #[]) ∧ ∃ v2, Rolls base (w.heap.size + 1) (.slice Av mv cv) R (R1 ++ Pk.fill r) W w' v2) := fun u R1 v1 A n c r hl hr hle h1 h2 h3 h4 h5 => (put_any base _ A n c r R1 v1 h1 (by omega) h3 (by omega) u (Nat.le_trans HWb.out hr.bx.size) hr.at_ hr.own h4 h5).mono fun e w' ⟨h1, v2, h2⟩ => ⟨h1, v2, hr.trans h2 hle⟩
  have hcg : W.cell? ⟨g, 0, none⟩ = some (.slice Av mv cv) := (ha.keep hbW).c0
  clear ha ho hy hap hk hvl
  obtain ⟨nL, hnL⟩ : ∃ n, Hid (L.length = n) := ⟨_, rfl⟩
  rw [hnL.out] at HPr
  have hnL2 : nL ≤ 2 := by rw [← hnL.out, ← hL.out]; exact Pk.prs_len _ _
  obtain ⟨RR, hRR⟩ : ∃ r, Hid (Pk.recs y.it = r) := ⟨_, rfl⟩
  rw [hRR.out] at hrl
  obtain ⟨nr, hnr⟩ : ∃ n, Hid (RR.length = n) := ⟨_, rfl⟩
  rw [hnr.out] at hrl
  have HPP : Hid (∀ u A cap, nL ≤ cap → KAt u → PrsAt u A L → Calls Tryz.prog 31 #[.slice A nL cap] u fun e w' => ∃ Ar cr pi er, e = .returned (.tuple #[.slice Ar nr cr, .int .i64 pi, .int .i64 er]) ∧ nr ≤ cr ∧ RowAt w' Ar nr (Hd.rowF RR) ∧ (∀ b o, Ar = some ⟨b, o, none⟩ → u.heap.size ≤ b ∧ b < w'.heap.size) ∧ Bw u w') := fun u A cap hc hka hpa => by
    have hS : ∀ p ∈ L, p.1.length ≤ 140737488355328 ∧ p.2.length ≤ 140737488355328 := fun p hp => by
      rw [← hL.out] at hp
      unfold Pk.prsOf Pk.prs at hp
      have h1 := hfit.path
      have h2 := hfit.to
      rcases List.mem_append.1 hp with h | h
      · split at h
        · rw [List.mem_singleton] at h; rw [h]; exact ⟨by show (8 : Nat) ≤ _; omega, by show y.it.to.length ≤ _; omega⟩
        · cases h
      · split at h
        · rw [List.mem_singleton] at h; rw [h]; exact ⟨by show (4 : Nat) ≤ _; omega, by show y.it.path.length ≤ _; omega⟩
        · cases h
    have := pput_own A cap L (by rw [hnL.out]; omega) (by rw [hnL.out]; exact hc) hS u hka hpa
    rw [hnL.out] at this
    refine this.mono fun e w' ⟨⟨vr, h1, h2⟩, h3⟩ => ?_
    rw [show (Px.putF L).1 = RR by rw [← hL.out]; exact hRR.out] at h2
    obtain ⟨Ar, cr, e1, hcr, hrow⟩ := rowis_own h2
    rw [hnr.out] at e1 hcr hrow
    subst e1
    refine ⟨Ar, cr, _, _, h1, hcr, hrow, fun b o e => ?_, h3⟩
    have := World.ownsRow.lt h2 b (by rw [e]; rfl)
    exact this
  go_enter Tryz.func24, Tryz.ntmps24
  go_upto_region 2 with (first
    | (refine wpList_load_mid rfl 54 _ rfl g 0 rfl [.slice Av mv cv, .int .i64 (R.length : Int)] _ (HA0.out.1.keep (bw_alloc7 (Bw.refl _) _)).range Tryz.underlying54 rfl (info_roll _ _) ?_)
    | (refine wpList_store_row rfl 54 _ _ rfl (w.alloc (.cells y.arr 26)).heap.size #[.slice Av mv cv, .int .i64 (R.length : Int)] rfl rfl 54 _ (heap_alloc_new _ _) (info_roll _ _) rfl (roll_one _ _ _ _) ?_; rw [setRow_alloc_new]))
  rw [← hW]
  clear hW
  by_cases hpn : L = []
  · have hn0 : nL = 0 := by rw [← hnL.out, hpn]; rfl
    have HF : Hid (Pk.front y.it = []) := by show _ = _; unfold Pk.front; rw [hL.out, if_pos hpn]
    have t0 : ¬ (0 : Int) < (nL : Int) := by omega
    clear hpn
    go_upto_region 7 with (first
      | (refine wpList_load_row rfl 26 _ rfl w.heap.size rfl 26 y.arr (0, 0) _ (HXQ.out _ ⟨_, _, HR0.out⟩) Tryz.underlying26 rfl hiI ?_)
      | (go_at_call 26; refine (HPr.out _).mono ?_; rintro e w1 ⟨⟨vp, rfl, hop⟩, hw1⟩; rw [← hnL.out] at hop; obtain ⟨Ap, cp, rfl, hcp, hPrs, hAn⟩ := prs_of_own hop; rw [hnL.out] at hcp ⊢; have hR1 := HR0.out.bw hw1))
    have hR4 : Rolls base (w.heap.size + 1) (.slice Av mv cv) R (R ++ ([] : Pk.B)) W w1 (.slice Av mv cv) := by rw [List.append_nil]; exact hR1
    obtain ⟨nF, hnF⟩ : ∃ n : Nat, Hid (List.length (R ++ ([] : Pk.B)) = n) := ⟨_, show List.length (R ++ ([] : Pk.B)) = _ from rfl⟩
    have hnFb : nF ≤ 2097152 - 4096 := by rw [← hnF.out, List.length_append]; (try rw [List.length_nil]); omega
    have hRF : R.length ≤ nF := by rw [← hnF.out, List.length_append]; omega
    go_upto_region 8 with (first
      | (refine wpList_load_row rfl 26 _ rfl w.heap.size rfl 26 y.arr (0, 0) _ (HXQ.out _ ⟨_, _, hR4⟩) Tryz.underlying26 rfl hiI ?_)
      | (go_at_call 34; refine (HHd.out _ (HKQ.out _ ⟨_, _, hR4⟩).2).mono ?_; rintro e w5 ⟨rfl, hw5⟩; have hR5 := hR4.bw hw5)
      | (go_at_call 32; refine (HPH.out _ _ _ D (by rw [hnF.out]; omega) hR5 (by rw [hnF.out]; exact hRF)).mono ?_; rintro e w6 ⟨rfl, v6, hR6, -⟩; have c4 : w6.cell? ⟨w.heap.size, 4, none⟩ = some (.slice y.ad y.it.body.length y.cp) := cell_of_row w6 w.heap.size 4 _ _ _ (HXQ.out _ ⟨_, _, hR6⟩)))
    have hDl := Pk.hB_le D
    have hrow6 := hR6.row HyW.out HapW.out
    have hap6 := hR6.apart HapW.out
    go_upto_region 9 with (go_at_call 33; refine (HPU.out _ _ _ y.ad y.it.body.length y.cp y.it.body (by rw [List.length_append, hnF.out]; omega) hR6 (by rw [List.length_append, hnF.out]; omega) rfl (by omega) hle hrow6 hap6).mono ?_; rintro e w7 ⟨rfl, v7, hR7⟩)
    obtain ⟨A7, c7, hv7⟩ := own_slice hR7.own.2
    generalize (R ++ ([] : Pk.B) ++ Pk.hB D ++ Pk.fill y.it.body).length / 512 = m7 at hv7
    subst hv7
    have heq : Hid (R ++ ([] : Pk.B) ++ Pk.hB D ++ Pk.fill y.it.body = R ++ Pk.pcs y.it) := by
      show _ = _
      unfold Pk.pcs
      rw [hD.out, HF.out]
      simp only [List.append_assoc, List.nil_append]
    rw [heq.out] at hR7
    obtain ⟨M, hM⟩ : ∃ M : Nat, Hid ((R ++ Pk.pcs y.it).length = M) := ⟨_, rfl⟩
    have hMb : M ≤ 2097152 := by rw [← hM.out, List.length_append]; omega
    have hat := hR7.at_
    unfold RollAt at hat
    rw [hM.out] at hat
    have c1 : w7.cell? ⟨w.heap.size + 1, 1, none⟩ = some (.int .i64 (M : Int)) := cell_of_row w7 _ 1 _ _ _ hat
    by_cases hbig : 131072 < M + 1024
    · have t1 : (131072 : Int) < (M : Int) + 1024 := by omega
      go_wp2
      go_ret
      exact .inl ⟨by rw [hM.out]; exact hbig, rfl, layW_no HA0.out.1 HA0.out.2 hbW (Nat.le_succ _) hR7⟩
    · have t1 : ¬ (131072 : Int) < (M : Int) + 1024 := by omega
      have hno := layW_no HA0.out.1 HA0.out.2 hbW (Nat.le_succ _) hR7
      go_wp2_with (first
        | (refine wpList_load_row rfl 54 _ rfl (w.heap.size + 1) rfl 54 #[.slice A7 m7 c7, .int .i64 (M : Int)] (0, 0) _ hat Tryz.underlying54 rfl (info_roll _ _) ?_)
        | (refine wpList_store_mid rfl 54 _ _ rfl g 0 #[.slice A7 m7 c7, .int .i64 (M : Int)] rfl rfl (hno.at_.there2 _ _) (info_roll _ _) (roll_one _ _ _ _) ?_))
      go_ret
      have hyes := layW_yes HA0.out.1 HA0.out.2 hbW (Nat.le_succ _) hR7
      rw [hM.out] at hyes
      exact .inr ⟨by rw [hM.out]; exact hbig, rfl, _, hyes⟩
  · have hn0 : 0 < nL := by rw [← hnL.out]; exact List.length_pos_iff.2 hpn
    have HF : Hid (Pk.front y.it = Pk.hB (Pk.more nr) ++ Pk.fill RR) := by show _ = _; unfold Pk.front; rw [hL.out, if_neg hpn, hRR.out, hnr.out]
    have t0 : (0 : Int) < (nL : Int) := by omega
    clear hpn
    obtain ⟨E, hE⟩ : ∃ E, Hid (E = Pk.more nr) := ⟨_, rfl⟩
    rw [← hE.out] at HF
    have hEl := Pk.hB_le E
    go_upto_region 6 with (first
      | (refine wpList_load_row rfl 26 _ rfl w.heap.size rfl 26 y.arr (0, 0) _ (HXQ.out _ ⟨_, _, HR0.out⟩) Tryz.underlying26 rfl hiI ?_)
      | (go_at_call 26; refine (HPr.out _).mono ?_; rintro e w1 ⟨⟨vp, rfl, hop⟩, hw1⟩; rw [← hnL.out] at hop; obtain ⟨Ap, cp, rfl, hcp, hPrs, hAn⟩ := prs_of_own hop; rw [hnL.out] at hcp ⊢; have hR1 := HR0.out.bw hw1)
      | (go_at_call 31; refine (HPP.out _ _ _ hcp (HKQ.out _ ⟨_, _, hR1⟩).1 hPrs).mono ?_; rintro e w2 ⟨Ar, cr, pi, er, rfl, hcr, hrow, hrb, hw2⟩; have hR2 := hR1.bw hw2)
      | (refine wpList_built_g10 (by rfl) 75 _ rfl (Hd.hv E) (by rw [hE.out]; kernel_rfl) ?_)
      | (go_at_call 32; refine (HPH.out _ _ _ E (by omega) hR2 (Nat.le_refl _)).mono ?_; rintro e w3 ⟨rfl, v3, hR3, hR23⟩))
    have hapr : Apart w2 Ar nr (w.heap.size + 1) (.slice Av mv cv) := fun b o e _ => by
      have h1 := hrb b o e
      have h2 := hw1.size
      have h3 := HN.out.lt
      exact ⟨h1.2, by omega, fun e2 => by have := (HVL.out _ e2).1; omega⟩
    have hrow3 := hR23.row hrow hapr
    have hap3 := hR23.apart hapr
    go_upto_region 7 with (go_at_call 33; refine (HPU.out _ _ _ Ar nr cr RR (by rw [List.length_append]; omega) hR3 (by rw [List.length_append]; omega) hnr.out (by omega) hcr hrow3 hap3).mono ?_; rintro e w4 ⟨rfl, v4, hR4'⟩)
    have hR4 : Rolls base (w.heap.size + 1) (.slice Av mv cv) R (R ++ (Pk.hB E ++ Pk.fill RR)) W w4 v4 := by rw [← List.append_assoc]; exact hR4'
    have hFl : (Pk.hB E ++ Pk.fill RR).length ≤ 3200 := by rw [← HF.out]; exact hfl
    obtain ⟨nF, hnF⟩ : ∃ n : Nat, Hid (List.length (R ++ (Pk.hB E ++ Pk.fill RR)) = n) := ⟨_, show List.length (R ++ (Pk.hB E ++ Pk.fill RR)) = _ from rfl⟩
    have hnFb : nF ≤ 2097152 - 4096 := by rw [← hnF.out, List.length_append]; (try rw [List.length_nil]); omega
    have hRF : R.length ≤ nF := by rw [← hnF.out, List.length_append]; omega
    go_upto_region 8 with (first
      | (refine wpList_load_row rfl 26 _ rfl w.heap.size rfl 26 y.arr (0, 0) _ (HXQ.out _ ⟨_, _, hR4⟩) Tryz.underlying26 rfl hiI ?_)
      | (go_at_call 34; refine (HHd.out _ (HKQ.out _ ⟨_, _, hR4⟩).2).mono ?_; rintro e w5 ⟨rfl, hw5⟩; have hR5 := hR4.bw hw5)
      | (go_at_call 32; refine (HPH.out _ _ _ D (by rw [hnF.out]; omega) hR5 (by rw [hnF.out]; exact hRF)).mono ?_; rintro e w6 ⟨rfl, v6, hR6, -⟩; have c4 : w6.cell? ⟨w.heap.size, 4, none⟩ = some (.slice y.ad y.it.body.length y.cp) := cell_of_row w6 w.heap.size 4 _ _ _ (HXQ.out _ ⟨_, _, hR6⟩)))
    have hDl := Pk.hB_le D
    have hrow6 := hR6.row HyW.out HapW.out
    have hap6 := hR6.apart HapW.out
    go_upto_region 9 with (go_at_call 33; refine (HPU.out _ _ _ y.ad y.it.body.length y.cp y.it.body (by rw [List.length_append, hnF.out]; omega) hR6 (by rw [List.length_append, hnF.out]; omega) rfl (by omega) hle hrow6 hap6).mono ?_; rintro e w7 ⟨rfl, v7, hR7⟩)
    obtain ⟨A7, c7, hv7⟩ := own_slice hR7.own.2
    generalize (R ++ (Pk.hB E ++ Pk.fill RR) ++ Pk.hB D ++ Pk.fill y.it.body).length / 512 = m7 at hv7
    subst hv7
    have heq : Hid (R ++ (Pk.hB E ++ Pk.fill RR) ++ Pk.hB D ++ Pk.fill y.it.body = R ++ Pk.pcs y.it) := by
      show _ = _
      unfold Pk.pcs
      rw [hD.out, HF.out]
      simp only [List.append_assoc, List.nil_append]
    rw [heq.out] at hR7
    obtain ⟨M, hM⟩ : ∃ M : Nat, Hid ((R ++ Pk.pcs y.it).length = M) := ⟨_, rfl⟩
    have hMb : M ≤ 2097152 := by rw [← hM.out, List.length_append]; omega
    have hat := hR7.at_
    unfold RollAt at hat
    rw [hM.out] at hat
    have c1 : w7.cell? ⟨w.heap.size + 1, 1, none⟩ = some (.int .i64 (M : Int)) := cell_of_row w7 _ 1 _ _ _ hat
    by_cases hbig : 131072 < M + 1024
    · have t1 : (131072 : Int) < (M : Int) + 1024 := by omega
      go_wp2
      go_ret
      exact .inl ⟨by rw [hM.out]; exact hbig, rfl, layW_no HA0.out.1 HA0.out.2 hbW (Nat.le_succ _) hR7⟩
    · have t1 : ¬ (131072 : Int) < (M : Int) + 1024 := by omega
      have hno := layW_no HA0.out.1 HA0.out.2 hbW (Nat.le_succ _) hR7
      go_wp2_with (first
        | (refine wpList_load_row rfl 54 _ rfl (w.heap.size + 1) rfl 54 #[.slice A7 m7 c7, .int .i64 (M : Int)] (0, 0) _ hat Tryz.underlying54 rfl (info_roll _ _) ?_)
        | (refine wpList_store_mid rfl 54 _ _ rfl g 0 #[.slice A7 m7 c7, .int .i64 (M : Int)] rfl rfl (hno.at_.there2 _ _) (info_roll _ _) (roll_one _ _ _ _) ?_))
      go_ret
      have hyes := layW_yes HA0.out.1 HA0.out.2 hbW (Nat.le_succ _) hR7
      rw [hM.out] at hyes
      exact .inr ⟨by rw [hM.out]; exact hbig, rfl, _, hyes⟩
end Go.Proofs.YtldkhbkgmiicbabGreatDoor
