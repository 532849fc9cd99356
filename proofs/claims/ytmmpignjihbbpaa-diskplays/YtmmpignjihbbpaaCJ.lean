/- Layer 14: an act done to a disk and to the document's (the statements' own both). -/
import Derived.Test.YtmmpignjihbbpaaCI
namespace Go.Proofs.Ytmmpignjihbbpaa
open Go.RowKit Go.Deep Go.Maps
set_option linter.unusedVariables false
set_option linter.unusedSimpArgs false

theorem DiskAt.nou {w : World} {g lb gm : Nat} {S : Dsk} (h : DiskAt w g lb gm S) : NoU w (dIn g lb gm) := fun b hb cur fr e => by
  rcases hb with rfl | rfl | rfl
  · rw [h.cells] at e
    simp only [Option.some.injEq, Obj.cells.injEq] at e
    exact absurd e.2.1 (by decide)
  · obtain ⟨cur', h1, _⟩ := h.rows
    rw [h1] at e
    simp only [Option.some.injEq, Obj.cells.injEq] at e
    exact absurd e.2.1 (by decide)
  · obtain ⟨es, c, h1⟩ := h.map.block
    rw [h1] at e
    cases e
theorem dr_ne {w : World} {g lb gm g' cb cap : Nat} {LV WV : Nat → Value} {S T : Dsk} (h : DiskAt w g lb gm S) (k : RefAt w g' cb cap LV WV T) : ∀ b, rIn g' cb b → ¬ dIn g lb gm b := fun b hb hd => by
  have hty : ∃ cur t, w.heap[b]? = some (.cells cur t (0, 0)) ∧ (t = 39 ∨ t = 60) := by
    rcases hb with rfl | rfl
    · exact ⟨_, _, k.top, .inl rfl⟩
    · obtain ⟨cur, h1⟩ := k.blk
      exact ⟨_, _, h1, .inr rfl⟩
  obtain ⟨cur, t, h1, ht⟩ := hty
  rcases hd with rfl | rfl | rfl
  · rw [h.cells] at h1
    simp only [Option.some.injEq, Obj.cells.injEq] at h1
    rcases ht with rfl | rfl <;> exact absurd h1.2.1 (by decide)
  · obtain ⟨cur', h2, _⟩ := h.rows
    rw [h2] at h1
    simp only [Option.some.injEq, Obj.cells.injEq] at h1
    rcases ht with rfl | rfl <;> exact absurd h1.2.1 (by decide)
  · obtain ⟨es, c, h2⟩ := h.map.block
    rw [h2] at h1
    cases h1
/-- the document's disk stays while the program's turns -/
theorem RefAt.keepd {w w' : World} {g lb gm g' cb cap : Nat} {LV WV : Nat → Value} {S T : Dsk} (k : RefAt w g' cb cap LV WV T) (h : DiskAt w g lb gm S) (b : Bx (dIn g lb gm) w w') : RefAt w' g' cb cap LV WV T := k.keepn b h.nou (dr_ne h k _ (.inl rfl)) (dr_ne h k _ (.inr rfl))
/-- .. and the other way round -/
theorem DiskAt.keepr {w w' : World} {g lb gm g' cb cap : Nat} {LV WV : Nat → Value} {S T : Dsk} (h : DiskAt w g lb gm S) (k : RefAt w g' cb cap LV WV T) (b : Bx (rIn g' cb) w w') : DiskAt w' g lb gm S := h.keepx b (fun e => dr_ne h k _ e (.inl rfl)) (fun e => dr_ne h k _ e (.inr (.inl rfl))) (fun e => dr_ne h k _ e (.inr (.inr rfl)))
theorem AcIn.keepx {P : Nat → Prop} {w w' : World} {x : Ac} (h : AcIn w x) (k : Bx P w w') (hB : ∀ b o, x.B = some ⟨b, o, none⟩ → 0 < x.L → ¬ P b) (hF : ∀ b o, x.F = some ⟨b, o, none⟩ → 0 < x.m → ¬ P b) : AcIn w' x := ⟨⟨h.row.row.keepx k hB, h.row.le, h.row.room, h.row.nil⟩, ⟨h.ints.row.keepx k hF, h.ints.le, h.ints.room⟩, h.db, h.ab, h.nb, h.yb⟩
theorem n_syncs (S : Dsk) : S.syncs.2.n = S.n := by
  unfold Dsk.syncs
  split
  · rfl
  split <;> rfl
theorem n_rots (S : Dsk) (x z y : Int) : (S.rots x z y).2.n = S.n := by
  unfold Dsk.rots
  split <;> rfl
theorem n_wrote (S : Dsk) (x : Int) (L : Nat) (f : Nat → Int) : (S.wrote x L f).2.n = S.n := by
  unfold Dsk.wrote
  split
  · rfl
  split
  · rfl
  split
  · rfl
  split <;> rfl
/-- how both ends -/
def BothEnds (base g lb gm g' cb cap N : Nat) (w : World) (e : Ending) (w' : World) : Prop := ∃ S', e = .returned (.bool true) ∧ DiskAt w' g lb gm S' ∧ (∃ LV' WV', RefAt w' g' cb cap LV' WV' S') ∧ Below base w w' ∧ S'.n = N
/-- an act in a block of its own -/
def XAt (w : World) (z : Nat) (x : Ac) : Prop := w.heap[z]? = some (.cells x.vals.toArray 36 (0, 0))
theorem XAt.keep {w w' : World} {z : Nat} {x : Ac} (h : XAt w z x) (k : Bw w w') : XAt w' z x := (k.block z (Array.getElem?_eq_some_iff.1 h).1).trans h
theorem XAt.keepx {P : Nat → Prop} {w w' : World} {z : Nat} {x : Ac} (h : XAt w z x) (k : Bx P w w') (hz : ¬ P z) : XAt w' z x := (k.block z (Array.getElem?_eq_some_iff.1 h).1 hz).trans h
theorem XAt.cells {w : World} {z : Nat} {x : Ac} (h : XAt w z x) : w.cell? ⟨z, 0, none⟩ = some (.int .i64 x.do_) ∧ w.cell? ⟨z, 1, none⟩ = some (.int .i64 x.at_) ∧ w.cell? ⟨z, 2, none⟩ = some (.int .i64 x.n) ∧ w.cell? ⟨z, 3, none⟩ = some (.slice x.B x.L x.C) ∧ w.cell? ⟨z, 4, none⟩ = some (.slice x.F x.m x.c) ∧ w.cell? ⟨z, 5, none⟩ = some (.int .u8 x.y) :=
  ⟨cell_of_row w z 0 _ _ _ h, cell_of_row w z 1 _ _ _ h, cell_of_row w z 2 _ _ _ h, cell_of_row w z 3 _ _ _ h, cell_of_row w z 4 _ _ _ h, cell_of_row w z 5 _ _ _ h⟩
/-- all that an act's walk knows -/
structure Ctx (w W : World) (base g lb gm g' cb cap z : Nat) (x : Ac) (S T : Dsk) : Prop where
  d : DiskAt W g lb gm S
  r : ∃ LV WV, RefAt W g' cb cap LV WV T
  a : XAt W z x
  i : AcIn W x
  ge : ∀ b, dIn g lb gm b ∨ rIn g' cb b → base ≤ b
  xB : ∀ b o, x.B = some ⟨b, o, none⟩ → 0 < x.L → b < base
  xF : ∀ b o, x.F = some ⟨b, o, none⟩ → 0 < x.m → b < base
  zd : ¬ dIn g lb gm z
  zr : ¬ rIn g' cb z
  bl : base ≤ W.heap.size
  bw : Below base w W
namespace Ctx
variable {w W W' : World} {base g lb gm g' cb cap z : Nat} {x : Ac} {S T S' T' : Dsk}
theorem turnd (h : Ctx w W base g lb gm g' cb cap z x S T) (hd : DiskAt W' g lb gm S') (k : Bx (dIn g lb gm) W W') : Ctx w W' base g lb gm g' cb cap z x S' T := by
  obtain ⟨LV, WV, hr⟩ := h.r
  exact ⟨hd, ⟨LV, WV, hr.keepd h.d k⟩, h.a.keepx k h.zd, h.i.keepx k (fun b o e h0 hb => by have := h.xB b o e h0; have := h.ge b (.inl hb); omega) (fun b o e h0 hb => by have := h.xF b o e h0; have := h.ge b (.inl hb); omega), h.ge, h.xB, h.xF, h.zd, h.zr, Nat.le_trans h.bl k.size, Below.trans h.bw (k.below h.bl (fun b hb => h.ge b (.inl hb)))⟩
theorem turnr (h : Ctx w W base g lb gm g' cb cap z x S T) (hr' : ∃ LV WV, RefAt W' g' cb cap LV WV T') (k : Bx (rIn g' cb) W W') : Ctx w W' base g lb gm g' cb cap z x S T' := by
  obtain ⟨LV, WV, hr⟩ := h.r
  exact ⟨h.d.keepr hr k, hr', h.a.keepx k h.zr, h.i.keepx k (fun b o e h0 hb => by have := h.xB b o e h0; have := h.ge b (.inr hb); omega) (fun b o e h0 hb => by have := h.xF b o e h0; have := h.ge b (.inr hb); omega), h.ge, h.xB, h.xF, h.zd, h.zr, Nat.le_trans h.bl k.size, Below.trans h.bw (k.below h.bl (fun b hb => h.ge b (.inr hb)))⟩
theorem keep (h : Ctx w W base g lb gm g' cb cap z x S T) (k : Bw W W') : Ctx w W' base g lb gm g' cb cap z x S T := by
  obtain ⟨LV, WV, hr⟩ := h.r
  exact ⟨h.d.keep k, ⟨LV, WV, hr.keep k⟩, h.a.keep k, h.i.keep k, h.ge, h.xB, h.xF, h.zd, h.zr, Nat.le_trans h.bl k.size, Below.trans h.bw (Below.mono k h.bl)⟩
theorem ends (h : Ctx w W base g lb gm g' cb cap z x S S) {N : Nat} (hn : S.n = N) : BothEnds base g lb gm g' cb cap N w (.returned (.bool true)) W := ⟨S, rfl, h.d, h.r, h.bw, hn⟩
end Ctx
theorem ctx_of {w : World} {base g lb gm g' cb cap : Nat} {LV WV : Nat → Value} {S : Dsk} (hd : DiskAt w g lb gm S) (hr : RefAt w g' cb cap LV WV S) (hge : ∀ b, dIn g lb gm b ∨ rIn g' cb b → base ≤ b) (hbase : base ≤ w.heap.size) (x : Ac) (hx : AcIn w x) (hxB : ∀ b o, x.B = some ⟨b, o, none⟩ → 0 < x.L → b < base) (hxF : ∀ b o, x.F = some ⟨b, o, none⟩ → 0 < x.m → b < base) :
    Ctx w (w.alloc (.cells x.vals.toArray 36)) base g lb gm g' cb cap w.heap.size x S S := by
  have k : Bw w (w.alloc (.cells x.vals.toArray 36)) := Below.alloc (Bw.refl _) (Nat.le_refl _) _
  exact ⟨hd.keep k, ⟨LV, WV, hr.keep k⟩, (Go.MapKept.heap_alloc _ _).1, hx.keep k, hge, hxB, hxF, (fun e => absurd (hd.low _ e) (Nat.lt_irrefl _)), (fun e => absurd (hr.low _ e) (Nat.lt_irrefl _)), Nat.le_trans hbase k.size, Below.mono k hbase⟩
set_option maxRecDepth 100000 in
set_option maxHeartbeats 4000000 in
theorem both_kill {w : World} {base g lb gm g' cb cap : Nat} {LV WV : Nat → Value} {S : Dsk} (hd : DiskAt w g lb gm S) (hr : RefAt w g' cb cap LV WV S) (hge : ∀ b, dIn g lb gm b ∨ rIn g' cb b → base ≤ b) (hbase : base ≤ w.heap.size) (x : Ac) (hx : AcIn w x) (hxB : ∀ b o, x.B = some ⟨b, o, none⟩ → 0 < x.L → b < base) (hxF : ∀ b o, x.F = some ⟨b, o, none⟩ → 0 < x.m → b < base) (hdo : x.do_ = 4) :
    Calls Try.prog 12 #[.pointer (some ⟨g, 0, none⟩), .pointer (some ⟨g', 0, none⟩), .agg x.vals.toArray] w fun e w' => BothEnds base g lb gm g' cb cap S.n w e w' := by
  have hC := ctx_of hd hr hge hbase x hx hxB hxF
  obtain ⟨W1, hW1⟩ : ∃ W, Hid (w.alloc (.cells x.vals.toArray 36) = W) := ⟨_, rfl⟩
  obtain ⟨z, hz⟩ : ∃ z, Hid (w.heap.size = z) := ⟨_, rfl⟩
  rw [hW1.out, hz.out] at hC
  have hcs := hC.a.cells
  have k0 := hcs.1
  have k1 := hcs.2.1
  have k2 := hcs.2.2.1
  have k3 := hcs.2.2.2.1
  have k4 := hcs.2.2.2.2.1
  have k5 := hcs.2.2.2.2.2
  have ab := hC.i.ab
  have nb := hC.i.nb
  have yb := hC.i.yb
  clear hd hr hx hcs
  go_enter Try.func12, Try.ntmps12
  rw [hdo] at k0
  clear hdo
  go_wp2_with (first
    | (rw [hW1.out, hz.out])
    | (go_at_call 20; refine (kill_any hC.d).mono ?_; rintro e W2 ⟨rfl, hd2, hx2⟩; have hC2 := hC.turnd hd2 (hx2.more (fun b e => .inl e)); obtain ⟨LV2, WV2, hr2⟩ := hC2.r; have hcs := hC2.a.cells; have m1 := hcs.2.1; have m2 := hcs.2.2.1; have m3 := hcs.2.2.2.1; have m4 := hcs.2.2.2.2.1; have m5 := hcs.2.2.2.2.2; clear hcs)
    | (go_at_call 30; refine (rkill_any hr2).mono ?_; rintro e W3 ⟨rfl, hr3, hx3⟩; have hC3 := hC2.turnr ⟨_, _, hr3⟩ hx3))
  go_ret
  exact hC3.ends (by first | exact hn.out | rfl)
set_option maxRecDepth 100000 in
set_option maxHeartbeats 4000000 in
theorem both_fuse {w : World} {base g lb gm g' cb cap : Nat} {LV WV : Nat → Value} {S : Dsk} (hd : DiskAt w g lb gm S) (hr : RefAt w g' cb cap LV WV S) (hge : ∀ b, dIn g lb gm b ∨ rIn g' cb b → base ≤ b) (hbase : base ≤ w.heap.size) (x : Ac) (hx : AcIn w x) (hxB : ∀ b o, x.B = some ⟨b, o, none⟩ → 0 < x.L → b < base) (hxF : ∀ b o, x.F = some ⟨b, o, none⟩ → 0 < x.m → b < base) (hdo : x.do_ = 3) :
    Calls Try.prog 12 #[.pointer (some ⟨g, 0, none⟩), .pointer (some ⟨g', 0, none⟩), .agg x.vals.toArray] w fun e w' => BothEnds base g lb gm g' cb cap S.n w e w' := by
  have hC := ctx_of hd hr hge hbase x hx hxB hxF
  obtain ⟨W1, hW1⟩ : ∃ W, Hid (w.alloc (.cells x.vals.toArray 36) = W) := ⟨_, rfl⟩
  obtain ⟨z, hz⟩ : ∃ z, Hid (w.heap.size = z) := ⟨_, rfl⟩
  rw [hW1.out, hz.out] at hC
  have hcs := hC.a.cells
  have k0 := hcs.1
  have k1 := hcs.2.1
  have k2 := hcs.2.2.1
  have k3 := hcs.2.2.2.1
  have k4 := hcs.2.2.2.2.1
  have k5 := hcs.2.2.2.2.2
  have ab := hC.i.ab
  have nb := hC.i.nb
  have yb := hC.i.yb
  clear hd hr hx hcs
  go_enter Try.func12, Try.ntmps12
  rw [hdo] at k0
  clear hdo
  go_wp2_with (first
    | (rw [hW1.out, hz.out])
    | (go_at_call 19; refine (fuse_any hC.d x.n (by omega)).mono ?_; rintro e W2 ⟨rfl, hd2, hx2⟩; have hC2 := hC.turnd hd2 (hx2.more (fun b e => .inl e)); obtain ⟨LV2, WV2, hr2⟩ := hC2.r; have hcs := hC2.a.cells; have m1 := hcs.2.1; have m2 := hcs.2.2.1; have m3 := hcs.2.2.2.1; have m4 := hcs.2.2.2.2.1; have m5 := hcs.2.2.2.2.2; clear hcs)
    | (go_at_call 29; refine (rfuse_any hr2 x.n (by omega)).mono ?_; rintro e W3 ⟨rfl, hr3, hx3⟩; have hC3 := hC2.turnr ⟨_, _, hr3⟩ hx3))
  go_ret
  exact hC3.ends (by first | exact hn.out | rfl)
set_option maxRecDepth 100000 in
set_option maxHeartbeats 4000000 in
theorem both_restart {w : World} {base g lb gm g' cb cap : Nat} {LV WV : Nat → Value} {S : Dsk} (hd : DiskAt w g lb gm S) (hr : RefAt w g' cb cap LV WV S) (hge : ∀ b, dIn g lb gm b ∨ rIn g' cb b → base ≤ b) (hbase : base ≤ w.heap.size) (x : Ac) (hx : AcIn w x) (hxB : ∀ b o, x.B = some ⟨b, o, none⟩ → 0 < x.L → b < base) (hxF : ∀ b o, x.F = some ⟨b, o, none⟩ → 0 < x.m → b < base) (hdo : x.do_ = 5) :
    Calls Try.prog 12 #[.pointer (some ⟨g, 0, none⟩), .pointer (some ⟨g', 0, none⟩), .agg x.vals.toArray] w fun e w' => BothEnds base g lb gm g' cb cap S.n w e w' := by
  have hC := ctx_of hd hr hge hbase x hx hxB hxF
  obtain ⟨W1, hW1⟩ : ∃ W, Hid (w.alloc (.cells x.vals.toArray 36) = W) := ⟨_, rfl⟩
  obtain ⟨z, hz⟩ : ∃ z, Hid (w.heap.size = z) := ⟨_, rfl⟩
  rw [hW1.out, hz.out] at hC
  have hcs := hC.a.cells
  have k0 := hcs.1
  have k1 := hcs.2.1
  have k2 := hcs.2.2.1
  have k3 := hcs.2.2.2.1
  have k4 := hcs.2.2.2.2.1
  have k5 := hcs.2.2.2.2.2
  have ab := hC.i.ab
  have nb := hC.i.nb
  have yb := hC.i.yb
  clear hd hr hx hcs
  go_enter Try.func12, Try.ntmps12
  rw [hdo] at k0
  clear hdo
  have mb : x.m ≤ 140737488355328 := by have := hC.i.ints.le; have := hC.i.ints.room; omega
  go_wp2_with (first
    | (rw [hW1.out, hz.out])
    | (go_at_call 17; refine (restart_any hC.d x.F x.m x.c x.K mb hC.i.ints.row (fun b o e h0 hb => by have := hC.xF b o e h0; have := hC.ge b (.inl hb); omega)).mono ?_; rintro e W2 ⟨rfl, hd2, hx2⟩; have hC2 := hC.turnd hd2 hx2; obtain ⟨LV2, WV2, hr2⟩ := hC2.r; have hcs := hC2.a.cells; have m1 := hcs.2.1; have m2 := hcs.2.2.1; have m3 := hcs.2.2.2.1; have m4 := hcs.2.2.2.2.1; have m5 := hcs.2.2.2.2.2; clear hcs)
    | (go_at_call 18; refine (rrestart_any hr2 x.F x.m x.c x.K mb hC2.i.ints.row (fun b o e h0 hb => by have := hC2.xF b o e h0; have := hC2.ge b (.inr hb); omega)).mono ?_; rintro e W3 ⟨rfl, ⟨LV3, WV3, hr3⟩, hx3⟩; have hC3 := hC2.turnr ⟨_, _, hr3⟩ hx3))
  go_ret
  exact hC3.ends (by first | exact hn.out | rfl)
set_option maxRecDepth 100000 in
set_option maxHeartbeats 4000000 in
theorem both_sync {w : World} {base g lb gm g' cb cap : Nat} {LV WV : Nat → Value} {S : Dsk} (hd : DiskAt w g lb gm S) (hr : RefAt w g' cb cap LV WV S) (hge : ∀ b, dIn g lb gm b ∨ rIn g' cb b → base ≤ b) (hbase : base ≤ w.heap.size) (x : Ac) (hx : AcIn w x) (hxB : ∀ b o, x.B = some ⟨b, o, none⟩ → 0 < x.L → b < base) (hxF : ∀ b o, x.F = some ⟨b, o, none⟩ → 0 < x.m → b < base) (hdo : x.do_ = 1) :
    Calls Try.prog 12 #[.pointer (some ⟨g, 0, none⟩), .pointer (some ⟨g', 0, none⟩), .agg x.vals.toArray] w fun e w' => BothEnds base g lb gm g' cb cap S.n w e w' := by
  have hC := ctx_of hd hr hge hbase x hx hxB hxF
  obtain ⟨W1, hW1⟩ : ∃ W, Hid (w.alloc (.cells x.vals.toArray 36) = W) := ⟨_, rfl⟩
  obtain ⟨z, hz⟩ : ∃ z, Hid (w.heap.size = z) := ⟨_, rfl⟩
  rw [hW1.out, hz.out] at hC
  have hcs := hC.a.cells
  have k0 := hcs.1
  have k1 := hcs.2.1
  have k2 := hcs.2.2.1
  have k3 := hcs.2.2.2.1
  have k4 := hcs.2.2.2.2.1
  have k5 := hcs.2.2.2.2.2
  have ab := hC.i.ab
  have nb := hC.i.nb
  have yb := hC.i.yb
  clear hd hr hx hcs
  go_enter Try.func12, Try.ntmps12
  rw [hdo] at k0
  clear hdo
  obtain ⟨P, hP⟩ : ∃ P, Hid ((S.syncs) = P) := ⟨_, rfl⟩
  obtain ⟨E, S'⟩ := P
  have HD := sync_any hC.d
  have HR : Hid (∀ W LV WV, Ctx w W base g lb gm g' cb cap z x S' S → RefAt W g' cb cap LV WV S → Calls Try.prog 27 #[.pointer (some ⟨g', 0, none⟩)] W fun e w' => e = .returned (.int .i64 E) ∧ (∃ LV WV, RefAt w' g' cb cap LV WV S') ∧ Bx (rIn g' cb) W w') := fun W LV WV hCW hr => by
    have := rsync_any hr
    rw [hP.out] at this
    exact this
  have hn : Hid (S'.n = S.n) := by
    have := n_syncs S
    rw [hP.out] at this
    exact this
  rw [hP.out] at HD
  have eE : (E == E) = true := beq_self_eq_true E
  go_wp2_with (first
    | (rw [hW1.out, hz.out])
    | (go_at_call 23; refine (HD).mono ?_; rintro e W2 ⟨rfl, hd2, hx2⟩; have hC2 := hC.turnd hd2 hx2; obtain ⟨LV2, WV2, hr2⟩ := hC2.r; have hcs := hC2.a.cells; have m1 := hcs.2.1; have m2 := hcs.2.2.1; have m3 := hcs.2.2.2.1; have m4 := hcs.2.2.2.2.1; have m5 := hcs.2.2.2.2.2; clear hcs)
    | (go_at_call 27; refine (HR.out _ _ _ hC2 hr2).mono ?_; rintro e W3 ⟨rfl, ⟨LV3, WV3, hr3⟩, hx3⟩; have hC3 := hC2.turnr ⟨_, _, hr3⟩ hx3))
  go_ret
  exact hC3.ends (by first | exact hn.out | rfl)
set_option maxRecDepth 100000 in
set_option maxHeartbeats 4000000 in
theorem both_rot {w : World} {base g lb gm g' cb cap : Nat} {LV WV : Nat → Value} {S : Dsk} (hd : DiskAt w g lb gm S) (hr : RefAt w g' cb cap LV WV S) (hge : ∀ b, dIn g lb gm b ∨ rIn g' cb b → base ≤ b) (hbase : base ≤ w.heap.size) (x : Ac) (hx : AcIn w x) (hxB : ∀ b o, x.B = some ⟨b, o, none⟩ → 0 < x.L → b < base) (hxF : ∀ b o, x.F = some ⟨b, o, none⟩ → 0 < x.m → b < base) (hdo : x.do_ = 6) :
    Calls Try.prog 12 #[.pointer (some ⟨g, 0, none⟩), .pointer (some ⟨g', 0, none⟩), .agg x.vals.toArray] w fun e w' => BothEnds base g lb gm g' cb cap S.n w e w' := by
  have hC := ctx_of hd hr hge hbase x hx hxB hxF
  obtain ⟨W1, hW1⟩ : ∃ W, Hid (w.alloc (.cells x.vals.toArray 36) = W) := ⟨_, rfl⟩
  obtain ⟨z, hz⟩ : ∃ z, Hid (w.heap.size = z) := ⟨_, rfl⟩
  rw [hW1.out, hz.out] at hC
  have hcs := hC.a.cells
  have k0 := hcs.1
  have k1 := hcs.2.1
  have k2 := hcs.2.2.1
  have k3 := hcs.2.2.2.1
  have k4 := hcs.2.2.2.2.1
  have k5 := hcs.2.2.2.2.2
  have ab := hC.i.ab
  have nb := hC.i.nb
  have yb := hC.i.yb
  clear hd hr hx hcs
  go_enter Try.func12, Try.ntmps12
  rw [hdo] at k0
  clear hdo
  obtain ⟨P, hP⟩ : ∃ P, Hid ((S.rots x.at_ x.n x.y) = P) := ⟨_, rfl⟩
  obtain ⟨E, S'⟩ := P
  have HD := rot_any hC.d x.at_ x.n x.y (by omega) yb
  have HR : Hid (∀ W LV WV, Ctx w W base g lb gm g' cb cap z x S' S → RefAt W g' cb cap LV WV S → Calls Try.prog 31 #[.pointer (some ⟨g', 0, none⟩), .int .i64 x.at_, .int .i64 x.n, .int .u8 x.y] W fun e w' => e = .returned (.int .i64 E) ∧ (∃ LV WV, RefAt w' g' cb cap LV WV S') ∧ Bx (rIn g' cb) W w') := fun W LV WV hCW hr => by
    have := rrot_any hr x.at_ x.n x.y yb
    rw [hP.out] at this
    exact this
  have hn : Hid (S'.n = S.n) := by
    have := n_rots S x.at_ x.n x.y
    rw [hP.out] at this
    exact this
  rw [hP.out] at HD
  have eE : (E == E) = true := beq_self_eq_true E
  go_wp2_with (first
    | (rw [hW1.out, hz.out])
    | (go_at_call 24; refine (HD).mono ?_; rintro e W2 ⟨rfl, hd2, hx2⟩; have hC2 := hC.turnd hd2 hx2; obtain ⟨LV2, WV2, hr2⟩ := hC2.r; have hcs := hC2.a.cells; have m1 := hcs.2.1; have m2 := hcs.2.2.1; have m3 := hcs.2.2.2.1; have m4 := hcs.2.2.2.2.1; have m5 := hcs.2.2.2.2.2; clear hcs)
    | (go_at_call 31; refine (HR.out _ _ _ hC2 hr2).mono ?_; rintro e W3 ⟨rfl, ⟨LV3, WV3, hr3⟩, hx3⟩; have hC3 := hC2.turnr ⟨_, _, hr3⟩ hx3))
  go_ret
  exact hC3.ends (by first | exact hn.out | rfl)
set_option maxRecDepth 100000 in
set_option maxHeartbeats 4000000 in
theorem both_none {w : World} {base g lb gm g' cb cap : Nat} {LV WV : Nat → Value} {S : Dsk} (hd : DiskAt w g lb gm S) (hr : RefAt w g' cb cap LV WV S) (hge : ∀ b, dIn g lb gm b ∨ rIn g' cb b → base ≤ b) (hbase : base ≤ w.heap.size) (x : Ac) (hx : AcIn w x) (hxB : ∀ b o, x.B = some ⟨b, o, none⟩ → 0 < x.L → b < base) (hxF : ∀ b o, x.F = some ⟨b, o, none⟩ → 0 < x.m → b < base) (h0 : x.do_ ≠ 0) (h1 : x.do_ ≠ 1) (h2 : x.do_ ≠ 2) (h3 : x.do_ ≠ 3) (h4 : x.do_ ≠ 4) (h5 : x.do_ ≠ 5) (h6 : x.do_ ≠ 6) :
    Calls Try.prog 12 #[.pointer (some ⟨g, 0, none⟩), .pointer (some ⟨g', 0, none⟩), .agg x.vals.toArray] w fun e w' => BothEnds base g lb gm g' cb cap S.n w e w' := by
  have hC := ctx_of hd hr hge hbase x hx hxB hxF
  obtain ⟨W1, hW1⟩ : ∃ W, Hid (w.alloc (.cells x.vals.toArray 36) = W) := ⟨_, rfl⟩
  obtain ⟨z, hz⟩ : ∃ z, Hid (w.heap.size = z) := ⟨_, rfl⟩
  rw [hW1.out, hz.out] at hC
  have hcs := hC.a.cells
  have k0 := hcs.1
  have k1 := hcs.2.1
  have k2 := hcs.2.2.1
  have k3 := hcs.2.2.2.1
  have k4 := hcs.2.2.2.2.1
  have k5 := hcs.2.2.2.2.2
  have ab := hC.i.ab
  have nb := hC.i.nb
  have yb := hC.i.yb
  clear hd hr hx hcs
  go_enter Try.func12, Try.ntmps12
  obtain ⟨dx, hdx⟩ : ∃ d, Hid (x.do_ = d) := ⟨_, rfl⟩
  rw [hdx.out] at k0 h0 h1 h2 h3 h4 h5 h6
  have e0 : (dx == 0) = false := by rw [beq_eq_false_iff_ne]; exact h0
  have e1 : (dx == 1) = false := by rw [beq_eq_false_iff_ne]; exact h1
  have e2 : (dx == 2) = false := by rw [beq_eq_false_iff_ne]; exact h2
  have e3 : (dx == 3) = false := by rw [beq_eq_false_iff_ne]; exact h3
  have e4 : (dx == 4) = false := by rw [beq_eq_false_iff_ne]; exact h4
  have e5 : (dx == 5) = false := by rw [beq_eq_false_iff_ne]; exact h5
  have e6 : (dx == 6) = false := by rw [beq_eq_false_iff_ne]; exact h6
  clear h0 h1 h2 h3 h4 h5 h6
  go_wp2_with (first
    | (rw [hW1.out, hz.out]))
  go_ret
  exact hC.ends rfl
end Go.Proofs.Ytmmpignjihbbpaa
