/- Proved: for every list of acts the statement JournalWhole answers true (the document's P15.5: records are added whole or not at all, whenever the power goes), with no condition but the reach. -/
import Derived.Test.YtppknadflmjefaaWW
import Derived.Test.YtppknadflmjefaaFj
import Derived.ShutString
import Derived.ChangeOld
namespace Go.Proofs.Ytppknadflmjefaa.journalWhole
open Go.ChangeShapes Go.WideShapes Go.ChangeAt Go.RowKit
set_option linter.unusedVariables false

set_option maxRecDepth 100000 in
set_option maxHeartbeats 8000000 in
theorem walk (a0 : Option Addr) (len0 cap0 : Nat) (X0 : Nat → Ac15) (w : World) (w0 : InActs15 w a0 len0 cap0 X0) :
    Calls Try.prog 6 #[.slice a0 len0 cap0] w fun e w' => e = .returned (.bool true) ∧ Below w.heap.size w w' := by
  obtain ⟨W0, hW0⟩ : ∃ W, Hid (w.alloc (.cells #[.int .i64 2, .int .i64 16] 23) = W) := ⟨_, rfl⟩
  obtain ⟨z, hz⟩ : ∃ z, Hid (w.heap.size = z) := ⟨_, rfl⟩
  have hb0 : Bw w W0 := by rw [← hW0.out]; exact Below.alloc (Bw.refl _) (Nat.le_refl _) _
  have hg0 : W0.heap[z]? = some (.cells #[.int .i64 2, .int .i64 16] 23 (0, 0)) := by rw [← hW0.out, ← hz.out]; exact heap_alloc_new _ _
  have HZ : Hid (∀ W, Bw W0 W → W.cell? ⟨z, 0, none⟩ = some (.int .i64 2) ∧ W.cell? ⟨z, 1, none⟩ = some (.int .i64 16)) := fun W k => by
    have hg := (k.block z (Array.getElem?_eq_some_iff.1 hg0).1).trans hg0
    exact ⟨cell_of_row W z 0 _ _ _ hg, cell_of_row W z 1 _ _ _ hg⟩
  have HG := great15_any (w0.keep hb0)
  have HA : Hid (InActs15 W0 a0 len0 cap0 X0) := w0.keep hb0
  have l63 : len0 ≤ 140737488351232 := Nat.le_trans w0.le w0.room
  have HOp : Hid (∀ W g lb gm S J, DiskAt W g lb gm S → Jl.Inv J S → J.r0 = 2 → J.rc = 16 → Calls Try.prog 19 #[.pointer (some ⟨g, 0, none⟩), .agg #[.int .i64 2, .int .i64 16]] W fun e w' => ∃ gj, e = .returned (.tuple #[.pointer (some ⟨gj, 0, none⟩), .int .i64 0]) ∧ Hid (∃ v, JrAt w' W.heap.size gj g (fun b => W.heap.size ≤ b) v J) ∧ Bw W w') := fun W g lb gm S J hd hI h0 hc => by
    have h := jopen_any hd 2 16 (by decide) (by decide)
    obtain ⟨e1, e2⟩ := hI.open_
    rw [h0, hc] at e1 e2
    have e1' : Jl.openE S 2 16 = 0 := e1
    have e2' : Jl.openJ S 2 16 = some J := e2
    rw [e1', e2'] at h
    exact h.mono (fun e w' hh => by
      obtain ⟨h1, p, v, h2, gj, h3, h4⟩ := hh
      subst h3
      exact ⟨gj, h2, ⟨v, h4⟩, h1⟩)
  clear w0 hg0
  cases hB : decide (40 < len0) with
  | true =>
    have l40 : (40 : Int) < (len0 : Int) := by have := of_decide_eq_true hB; omega
    clear hB
    go_enter Try.func6, Try.ntmps6
    go_wp2_with (first
      | rw [hW0.out, hz.out]
      | (go_at_call 8; refine HG.mono ?_; rintro e w1 ⟨B1, rfl, hsm, hb1⟩; clear HG; cases B1)
      | (go_at_call 9; refine (wakes15_any _).mono ?_; rintro e w6 ⟨rfl, hb6⟩))
    all_goals (go_ret; exact ⟨rfl, (hb0.trans hb1).trans hb6⟩)
  | false =>
    have l40 : ¬ (40 : Int) < (len0 : Int) := by have := of_decide_eq_false hB; omega
    clear hB
    go_enter Try.func6, Try.ntmps6
    go_wp2_with (first
      | rw [hW0.out, hz.out]
      | (go_at_call 8; refine HG.mono ?_; rintro e w1 ⟨B1, rfl, hsm, hb1⟩; clear HG; cases B1)
      | (go_at_call 9; refine (wakes15_any _).mono ?_; rintro e w6 ⟨rfl, hb6⟩)
      | (go_at_call 10; refine (new_ok 20 (by omega) (by omega) w1).mono ?_; rintro e w2 ⟨g, lb, gm, rfl, hd2, hge2, hb2⟩; have hb02 := hb1.trans hb2; obtain ⟨y0, y1⟩ := HZ.out w2 hb02; have hI0 := Jl.inv_new 20 2 16 (by decide) (by decide) (by decide); have HO1 := HOp.out w2 g lb gm _ _ hd2 hI0 rfl rfl)
      | (go_at_call 19; refine HO1.mono ?_; rintro e w3 ⟨gj, rfl, hj3, hb3⟩; clear HO1))
-- ROUNDS
    rotate_left
    · go_ret
      exact ⟨rfl, (hb0.trans hb1).trans hb6⟩
    have hge : Hid (∀ b, dIn g lb gm b → W0.heap.size ≤ b) := fun b hb => Nat.le_trans hb1.size (hge2 b hb)
    obtain ⟨v3, hj3⟩ := hj3.out
    have hI3 : WhI W0 w3 g lb gm 0 (Dsk.new 20) ⟨2, 16, Jl.no, [], false⟩ gj (fun b => w2.heap.size ≤ b) v3 := ⟨hd2.keep hb3, hj3.base_le hb02.size, fun b hb hi => absurd (hd2.low b hi) (Nat.not_lt.2 hb), hI0, rfl, rfl, Nat.le_refl _, rfl, fun _ _ => rfl, hb02.trans hb3⟩
    have Hsm : Hid (Small15 len0 X0) := by first | exact hsm rfl | exact hsm trivial
    clear hd2 hj3 hge2 hI0 hb3 hb2 hb02 hsm
    go_loopw [6, 7] (fun jp ip wr => ∃ (i : Nat) (S : Dsk) (J : Jl.Jn) (gj : Nat) (R : Nat → Prop) (v : Value), i ≤ len0 ∧ ip = .int .i64 (i : Int) ∧ jp = .pointer (some ⟨gj, 0, none⟩) ∧ WhI W0 wr g lb gm i S J gj R v) (fun _ ip _ => len0 - (intOf ip).toNat)
    case atStart => exact ⟨0, _, _, gj, _, v3, Nat.zero_le _, rfl, rfl, hI3⟩
    case round =>
      obtain ⟨i, S, J, gj, R, v, hil, rfl, rfl, hI⟩ := hrel
      clear hI3
      have i0 : (0 : Int) ≤ (i : Int) := Int.natCast_nonneg _
      by_cases hlt : i < len0
      · have i1 : (i : Int) < (len0 : Int) := by omega
        have p4 : IntKind.i64.wrap ((i : Int) + 1) = (i : Int) + 1 := by rw [IntKind.wrap_i64]; omega
        obtain ⟨x, hxe⟩ : ∃ x, Hid (X0 i = x) := ⟨_, rfl⟩
        have Hx : Hid (AcIn15 W0 x) := by show AcIn15 W0 x; rw [← hxe.out]; exact HA.out.acts i hlt
        have htot : Hid (x.tot ≤ 32768) := by show x.tot ≤ 32768; rw [← hxe.out]; exact Hsm.out.2 i hlt
        have hxb : Hid (∀ r ∈ x.recs, Jl.Byt r) := recs_byt Hx.out
        have hi100 : i < 100 := by omega
        have xm : x.m ≤ 140737488355328 := by have := Hx.out.ints.le; have := Hx.out.ints.room; omega
        have xnb := Hx.out.nb
        have xnb0 := xnb.1
        have xnb1 := xnb.2
        obtain ⟨b, off, rfl, -⟩ := HA.out.cell hlt
        have HX : Hid (∀ W, Bw W0 W → W.cell? ⟨b, off + i * 6, none⟩ = some (.int .i64 x.do_) ∧ W.cell? ⟨b, off + i * 6 + 1, none⟩ = some (.int .i64 x.n_) ∧ W.cell? ⟨b, off + i * 6 + 2, none⟩ = some (.int .i64 x.at_) ∧ W.cell? ⟨b, off + i * 6 + 3, none⟩ = some (.slice x.A x.n x.ca) ∧ W.cell? ⟨b, off + i * 6 + 4, none⟩ = some (.slice x.F x.m x.c) ∧ W.cell? ⟨b, off + i * 6 + 5, none⟩ = some (.slice x.B x.Lr x.Cr)) := fun W k => by
          obtain ⟨b', off', e', hc⟩ := (HA.out.keep k).cell hlt
          cases e'
          rw [hxe.out] at hc
          exact ⟨hc 0 _ rfl, hc 1 _ rfl, hc 2 _ rfl, hc 3 _ rfl, hc 4 _ rfl, hc 5 _ rfl⟩
        have HRc := jrecords_any hI.j
        have hJf := hI.j.ok.few
        have hfin : Hid (∀ W S' J' gj' R' v', WhI W0 W g lb gm (i + 1) S' J' gj' R' v' → (∃ (i' : Nat) (S : Dsk) (J : Jl.Jn) (gj : Nat) (R : Nat → Prop) (v : Value), i' ≤ len0 ∧ Value.int .i64 ((i : Int) + 1) = .int .i64 (i' : Int) ∧ Value.pointer (some ⟨gj', 0, none⟩) = .pointer (some ⟨gj, 0, none⟩) ∧ WhI W0 W g lb gm i' S J gj R v) ∧ len0 - (intOf (.int .i64 ((i : Int) + 1))).toNat < len0 - (intOf (.int .i64 (i : Int))).toNat) := fun W S' J' gj' R' v' h => ⟨⟨i + 1, S', J', gj', R', v', hlt, rfl, rfl, h⟩, by simp only [intOf]; omega⟩
        have t1 : Hid (i = i) := rfl
        clear xnb hxe
        by_cases hN : 0 ≤ x.n_ ∧ x.n_ < 8
        · have n0 := hN.1
          have n1 := hN.2
          have hmx : Hid (({ S with fuse := max x.n_ (-1) } : Dsk) = Jl.fus S x.n_) := by show _ = _; unfold Jl.fus; rw [show max x.n_ (-1) = x.n_ by omega]
          clear hN
          have HSt : Hid (∀ W, WhI W0 W g lb gm i (Jl.fus S x.n_) J gj R v → Calls Try.prog 26 #[.pointer (some ⟨gj, 0, none⟩), .agg #[.int .i64 x.do_, .int .i64 x.n_, .int .i64 x.at_, .slice x.A x.n x.ca, .slice x.F x.m x.c, .slice x.B x.Lr x.Cr]] W fun e w' => StepV W0.heap.size gj g lb gm R v x J (Jl.fus S x.n_) W e w') := fun W hW => step_any hW.j hW.d hW.sep (by rw [hW.r0, hW.rc, hW.sn]; decide) hW.inv.few x (Hx.out.keep hW.bw) htot.out (fun b hb => Hx.out.mat.low hb) hge.out
          have HBW : Hid (∀ W W', WhI W0 W g lb gm i (Jl.fus S x.n_) J gj R v → Bx (fun b => dIn g lb gm b ∨ jIn gj v b) W W' → Bw W0 W') := fun W W' hW k => Below.trans hW.bw (k.below hW.bw.size (fun b hb => hb.elim (hge.out b) (hW.j.jge b)))
          rcases step_case (S := Jl.fus S x.n_) (x := x) (hI.inv.fuse _) (by have := hI.n; omega) hxb.out with hE0 | hE23 | hE140
          · as_aux_lemma =>
              have hE1 : Hid ((stepP x J (Jl.fus S x.n_)).1 = 0) := hE0
              have hEE : Hid ((stepP x J (Jl.fus S x.n_)).1 = 0) := hE1.out
              clear hE0
              go_wp2_with (first
                | (clear t1; go_at_call 20; refine HRc.mono ?_; rintro e w4 ⟨g4, us4, rfl, ho4, hr4, hi4, hb4⟩; clear HRc; have hI4 := hI.keep hb4; have hM4 := copy_mat ho4 hr4; have hA4 := hI.was ho4 hi4; obtain ⟨c0, c1, c2, c3, c4, c5⟩ := HX.out w4 hI4.bw; have t2 : Hid (i = i) := rfl)
                | (clear t2; go_at_call 25; refine (fuse_any hI4.d x.n_ (by omega)).mono ?_; rintro e w5 ⟨rfl, hd5, hx5⟩; rw [hmx.out] at hd5; have hI5 := hI4.fuse hge.out x.n_ hd5 hx5; have hM5 := hI4.mat (hx5.more (fun b e => .inl (.inl e))) hM4 hA4; obtain ⟨d0, d1, d2, d3, d4, d5⟩ := HX.out w5 hI5.bw; have t3 : Hid (i = i) := rfl)
                | (clear t3; go_at_call 26; refine (HSt.out w5 hI5).mono ?_; rintro e w6 ⟨A6, n6, c6, us6, v6, rfl, hM6, hn6, hA6, hd6, hj6, hx6⟩; rw [hE1.out]; have hM6w := hI5.mat hx6 hM5 hA4; clear HSt; have t4 : Hid (i = i) := rfl)
                | (clear t4; go_at_call 20; obtain ⟨hI6, hL6⟩ := hI5.okay hi100 hge.out hxb.out hd6 hj6 hx6 hEE.out; refine (jrecords_any hI6.j).mono ?_; rintro e w7 ⟨g7, us7, rfl, ho7, hr7, hi7, hb7⟩; have hf7 := hI6.j.ok.few; have hf7' := hf7; rw [hL6] at hf7'; have hM7 := copy_mat ho7 hr7; have hM7' := hM7; rw [hL6] at hM7'; have hl7 := hM7.lenL; have t5 : Hid (i = i) := rfl)
                | (clear t5; go_at_call 27; refine (rsame15_any _ _ hM7' (hM6.keep hb7) (by omega) (by omega)).mono ?_; rintro e w8 ⟨rfl, hb8⟩; rw [decide_eq_true rfl]; have hI8 := (hI6.keep hb7).keep hb8; clear hM7 hM7' hM6 hM6w; have t6 : Hid (i = i) := rfl)
                | (clear t6; go_at_call 25; refine (fuse_any hI8.d (-1) (by omega)).mono ?_; rintro e w9 ⟨rfl, hd9, hx9⟩; have hI9 := hI8.fuse hge.out (-1) hd9 hx9; have hf := hfin.out _ _ _ _ _ _ hI9; replace hf := (show Hid _ from hf)))
              exact hf.out
          · rcases hE23 with hE23 | hE23
            · as_aux_lemma =>
                have hE1 : Hid ((stepP x J (Jl.fus S x.n_)).1 = 2) := hE23
                have hEE : Hid ((stepP x J (Jl.fus S x.n_)).1 = 2 ∨ (stepP x J (Jl.fus S x.n_)).1 = 3) := .inl hE1.out
                clear hE23
                go_wp2_with (first
                  | (clear t1; go_at_call 20; refine HRc.mono ?_; rintro e w4 ⟨g4, us4, rfl, ho4, hr4, hi4, hb4⟩; clear HRc; have hI4 := hI.keep hb4; have hM4 := copy_mat ho4 hr4; have hA4 := hI.was ho4 hi4; obtain ⟨c0, c1, c2, c3, c4, c5⟩ := HX.out w4 hI4.bw; have t2 : Hid (i = i) := rfl)
                  | (clear t2; go_at_call 25; refine (fuse_any hI4.d x.n_ (by omega)).mono ?_; rintro e w5 ⟨rfl, hd5, hx5⟩; rw [hmx.out] at hd5; have hI5 := hI4.fuse hge.out x.n_ hd5 hx5; have hM5 := hI4.mat (hx5.more (fun b e => .inl (.inl e))) hM4 hA4; obtain ⟨d0, d1, d2, d3, d4, d5⟩ := HX.out w5 hI5.bw; have t3 : Hid (i = i) := rfl)
                  | (clear t3; go_at_call 26; refine (HSt.out w5 hI5).mono ?_; rintro e w6 ⟨A6, n6, c6, us6, v6, rfl, hM6, hn6, hA6, hd6, hj6, hx6⟩; rw [hE1.out]; have hM6w := hI5.mat hx6 hM5 hA4; clear HSt; have t4 : Hid (i = i) := rfl)
                  | (clear t4; go_at_call 20; obtain ⟨hI6, hL6⟩ := hI5.refused hi100 hge.out hxb.out hd6 hj6 hx6 hEE.out; refine (jrecords_any hI6.j).mono ?_; rintro e w7 ⟨g7, us7, rfl, ho7, hr7, hi7, hb7⟩; have hf7 := hI6.j.ok.few; have hf7' := hf7; rw [hL6] at hf7'; have hM7 := copy_mat ho7 hr7; have hM7' := hM7; rw [hL6] at hM7'; have hl7 := hM7.lenL; have t5 : Hid (i = i) := rfl)
                  | (clear t5; go_at_call 27; refine (rsame15_any _ _ hM7' (hM6w.keep hb7) (by omega) (by omega)).mono ?_; rintro e w8 ⟨rfl, hb8⟩; rw [decide_eq_true rfl]; have hI8 := (hI6.keep hb7).keep hb8; clear hM7 hM7' hM6 hM6w; have t6 : Hid (i = i) := rfl)
                  | (clear t6; go_at_call 25; refine (fuse_any hI8.d (-1) (by omega)).mono ?_; rintro e w9 ⟨rfl, hd9, hx9⟩; have hI9 := hI8.fuse hge.out (-1) hd9 hx9; have hf := hfin.out _ _ _ _ _ _ hI9; replace hf := (show Hid _ from hf)))
                exact hf.out
            · as_aux_lemma =>
                have hE1 : Hid ((stepP x J (Jl.fus S x.n_)).1 = 3) := hE23
                have hEE : Hid ((stepP x J (Jl.fus S x.n_)).1 = 2 ∨ (stepP x J (Jl.fus S x.n_)).1 = 3) := .inr hE1.out
                clear hE23
                go_wp2_with (first
                  | (clear t1; go_at_call 20; refine HRc.mono ?_; rintro e w4 ⟨g4, us4, rfl, ho4, hr4, hi4, hb4⟩; clear HRc; have hI4 := hI.keep hb4; have hM4 := copy_mat ho4 hr4; have hA4 := hI.was ho4 hi4; obtain ⟨c0, c1, c2, c3, c4, c5⟩ := HX.out w4 hI4.bw; have t2 : Hid (i = i) := rfl)
                  | (clear t2; go_at_call 25; refine (fuse_any hI4.d x.n_ (by omega)).mono ?_; rintro e w5 ⟨rfl, hd5, hx5⟩; rw [hmx.out] at hd5; have hI5 := hI4.fuse hge.out x.n_ hd5 hx5; have hM5 := hI4.mat (hx5.more (fun b e => .inl (.inl e))) hM4 hA4; obtain ⟨d0, d1, d2, d3, d4, d5⟩ := HX.out w5 hI5.bw; have t3 : Hid (i = i) := rfl)
                  | (clear t3; go_at_call 26; refine (HSt.out w5 hI5).mono ?_; rintro e w6 ⟨A6, n6, c6, us6, v6, rfl, hM6, hn6, hA6, hd6, hj6, hx6⟩; rw [hE1.out]; have hM6w := hI5.mat hx6 hM5 hA4; clear HSt; have t4 : Hid (i = i) := rfl)
                  | (clear t4; go_at_call 20; obtain ⟨hI6, hL6⟩ := hI5.refused hi100 hge.out hxb.out hd6 hj6 hx6 hEE.out; refine (jrecords_any hI6.j).mono ?_; rintro e w7 ⟨g7, us7, rfl, ho7, hr7, hi7, hb7⟩; have hf7 := hI6.j.ok.few; have hf7' := hf7; rw [hL6] at hf7'; have hM7 := copy_mat ho7 hr7; have hM7' := hM7; rw [hL6] at hM7'; have hl7 := hM7.lenL; have t5 : Hid (i = i) := rfl)
                  | (clear t5; go_at_call 27; refine (rsame15_any _ _ hM7' (hM6w.keep hb7) (by omega) (by omega)).mono ?_; rintro e w8 ⟨rfl, hb8⟩; rw [decide_eq_true rfl]; have hI8 := (hI6.keep hb7).keep hb8; clear hM7 hM7' hM6 hM6w; have t6 : Hid (i = i) := rfl)
                  | (clear t6; go_at_call 25; refine (fuse_any hI8.d (-1) (by omega)).mono ?_; rintro e w9 ⟨rfl, hd9, hx9⟩; have hI9 := hI8.fuse hge.out (-1) hd9 hx9; have hf := hfin.out _ _ _ _ _ _ hI9; replace hf := (show Hid _ from hf)))
                exact hf.out
          · as_aux_lemma =>
              have hE1 : Hid ((stepP x J (Jl.fus S x.n_)).1 = 140) := hE140
              have hEE : Hid ((stepP x J (Jl.fus S x.n_)).1 = 140) := hE1.out
              clear hE140
              go_wp2_with (first
                | (clear t1; go_at_call 20; refine HRc.mono ?_; rintro e w4 ⟨g4, us4, rfl, ho4, hr4, hi4, hb4⟩; clear HRc; have hI4 := hI.keep hb4; have hM4 := copy_mat ho4 hr4; have hA4 := hI.was ho4 hi4; obtain ⟨c0, c1, c2, c3, c4, c5⟩ := HX.out w4 hI4.bw; have t2 : Hid (i = i) := rfl)
                | (clear t2; go_at_call 25; refine (fuse_any hI4.d x.n_ (by omega)).mono ?_; rintro e w5 ⟨rfl, hd5, hx5⟩; rw [hmx.out] at hd5; have hI5 := hI4.fuse hge.out x.n_ hd5 hx5; have hM5 := hI4.mat (hx5.more (fun b e => .inl (.inl e))) hM4 hA4; obtain ⟨d0, d1, d2, d3, d4, d5⟩ := HX.out w5 hI5.bw; have t3 : Hid (i = i) := rfl)
                | (clear t3; go_at_call 26; refine (HSt.out w5 hI5).mono ?_; rintro e w6 ⟨A6, n6, c6, us6, v6, rfl, hM6, hn6, hA6, hd6, hj6, hx6⟩; rw [hE1.out]; have hM6w := hI5.mat hx6 hM5 hA4; clear HSt; obtain ⟨f0, f1, f2, f3, f4, f5⟩ := HX.out w6 (HBW.out _ _ hI5 hx6); have t4 : Hid (i = i) := rfl)
                | (clear t4; go_at_call 13; obtain ⟨r1, r2⟩ := hI5.ints hge.out Hx.out hx6; refine (restart_any hd6 x.F x.m x.c x.K (by omega) r1 r2).mono ?_; rintro e w7 ⟨rfl, hd7, hx7⟩; obtain ⟨hbw7, hM7w, hM7n, J7, hi7, hL7, h70, h7c, h7n, h7s, h7o⟩ := hI5.cut hi100 hge.out hxb.out hd6 hj6 hx6 hEE.out hx7 hM6w hA4 hM6 hA6 x.K x.m; obtain ⟨z0, z1⟩ := HZ.out w7 hbw7; have HO7 := HOp.out w7 g lb gm _ _ hd7 hi7 h70 h7c; clear hM6 hM6w hd6 hj6; have t5 : Hid (i = i) := rfl)
                | (clear t5; go_at_call 19; refine HO7.mono ?_; rintro e w8 ⟨gk, rfl, hj8, hb8⟩; clear HO7; obtain ⟨v8, hj8⟩ := hj8.out; have hI8 := WhI.mk (hd7.keep hb8) (hj8.base_le hbw7.size) (fun b hb hi => absurd (hd7.low b hi) (Nat.not_lt.2 hb)) hi7 h70 h7c h7n h7s h7o (hbw7.trans hb8); have hM8w := hM7w.keep hb8; have hM8n := hM7n.keep hb8; clear hM7w hM7n hd7; have t6 : Hid (i = i) := rfl)
                | (clear t6; go_at_call 20; refine (jrecords_any hI8.j).mono ?_; rintro e w9 ⟨g9, us9, rfl, ho9, hr9, hi9, hb9⟩; have hf9 := hI8.j.ok.few; have hM9 := copy_mat ho9 hr9; have t7 : Hid (i = i) := rfl)
                | (clear t7; go_at_call 27; refine (rsame15_any _ _ hM9 (hM8w.keep hb9) (by omega) (by omega)).mono ?_; rintro e w10 ⟨rfl, hb10⟩; have hI10 := (hI8.keep hb9).keep hb10; have hf := hfin.out _ _ _ _ _ _ hI10; replace hf := (show Hid _ from hf); obtain ⟨D1, hD1⟩ : ∃ D, Hid (decide (J7.L = J.L) = D) := ⟨_, rfl⟩; rw [hD1.out]; have t8 : Hid (i = i) := rfl; cases D1)
                | (clear t8; go_at_call 20; refine (jrecords_any hI10.j).mono ?_; rintro e w11 ⟨g11, us11, rfl, ho11, hr11, hi11, hb11⟩; have hM11 := copy_mat ho11 hr11; have t9 : Hid (i = i) := rfl)
                | (clear t9; go_at_call 27; refine (rsame15_any _ _ hM11 (((hM8n.keep hb9).keep hb10).keep hb11) (by omega) (by omega)).mono ?_; rintro e w12 ⟨rfl, hb12⟩; rw [decide_eq_true (hL7.resolve_left (of_decide_eq_false hD1.out))]; have hI12 := (hI10.keep hb11).keep hb12; have hf' := hfin.out _ _ _ _ _ _ hI12; replace hf' := (show Hid _ from hf')))
              · exact hf'.out
              · exact hf.out
        · by_cases n0 : 0 ≤ x.n_
          · have n1 : ¬ x.n_ < 8 := fun h => hN ⟨n0, h⟩
            clear hN
            have HSt : Hid (∀ W, WhI W0 W g lb gm i (S) J gj R v → Calls Try.prog 26 #[.pointer (some ⟨gj, 0, none⟩), .agg #[.int .i64 x.do_, .int .i64 x.n_, .int .i64 x.at_, .slice x.A x.n x.ca, .slice x.F x.m x.c, .slice x.B x.Lr x.Cr]] W fun e w' => StepV W0.heap.size gj g lb gm R v x J (S) W e w') := fun W hW => step_any hW.j hW.d hW.sep (by rw [hW.r0, hW.rc, hW.sn]; decide) hW.inv.few x (Hx.out.keep hW.bw) htot.out (fun b hb => Hx.out.mat.low hb) hge.out
            have HBW : Hid (∀ W W', WhI W0 W g lb gm i (S) J gj R v → Bx (fun b => dIn g lb gm b ∨ jIn gj v b) W W' → Bw W0 W') := fun W W' hW k => Below.trans hW.bw (k.below hW.bw.size (fun b hb => hb.elim (hge.out b) (hW.j.jge b)))
            rcases step_case (S := S) (x := x) hI.inv (by have := hI.n; omega) hxb.out with hE0 | hE23 | hE140
            · as_aux_lemma =>
                have hE1 : Hid ((stepP x J (S)).1 = 0) := hE0
                have hEE : Hid ((stepP x J (S)).1 = 0) := hE1.out
                clear hE0
                go_wp2_with (first
                  | (clear t1; go_at_call 20; refine HRc.mono ?_; rintro e w4 ⟨g4, us4, rfl, ho4, hr4, hi4, hb4⟩; clear HRc; have hI4 := hI.keep hb4; have hM4 := copy_mat ho4 hr4; have hA4 := hI.was ho4 hi4; obtain ⟨c0, c1, c2, c3, c4, c5⟩ := HX.out w4 hI4.bw; have hI5 := hI4; have hM5 := hM4; have t2 : Hid (i = i) := rfl)
                  | (clear t2; go_at_call 26; refine (HSt.out w4 hI5).mono ?_; rintro e w6 ⟨A6, n6, c6, us6, v6, rfl, hM6, hn6, hA6, hd6, hj6, hx6⟩; rw [hE1.out]; have hM6w := hI5.mat hx6 hM5 hA4; clear HSt; have t4 : Hid (i = i) := rfl)
                  | (clear t4; go_at_call 20; obtain ⟨hI6, hL6⟩ := hI5.okay hi100 hge.out hxb.out hd6 hj6 hx6 hEE.out; refine (jrecords_any hI6.j).mono ?_; rintro e w7 ⟨g7, us7, rfl, ho7, hr7, hi7, hb7⟩; have hf7 := hI6.j.ok.few; have hf7' := hf7; rw [hL6] at hf7'; have hM7 := copy_mat ho7 hr7; have hM7' := hM7; rw [hL6] at hM7'; have hl7 := hM7.lenL; have t5 : Hid (i = i) := rfl)
                  | (clear t5; go_at_call 27; refine (rsame15_any _ _ hM7' (hM6.keep hb7) (by omega) (by omega)).mono ?_; rintro e w8 ⟨rfl, hb8⟩; rw [decide_eq_true rfl]; have hI8 := (hI6.keep hb7).keep hb8; clear hM7 hM7' hM6 hM6w; have t6 : Hid (i = i) := rfl)
                  | (clear t6; go_at_call 25; refine (fuse_any hI8.d (-1) (by omega)).mono ?_; rintro e w9 ⟨rfl, hd9, hx9⟩; have hI9 := hI8.fuse hge.out (-1) hd9 hx9; have hf := hfin.out _ _ _ _ _ _ hI9; replace hf := (show Hid _ from hf)))
                exact hf.out
            · rcases hE23 with hE23 | hE23
              · as_aux_lemma =>
                  have hE1 : Hid ((stepP x J (S)).1 = 2) := hE23
                  have hEE : Hid ((stepP x J (S)).1 = 2 ∨ (stepP x J (S)).1 = 3) := .inl hE1.out
                  clear hE23
                  go_wp2_with (first
                    | (clear t1; go_at_call 20; refine HRc.mono ?_; rintro e w4 ⟨g4, us4, rfl, ho4, hr4, hi4, hb4⟩; clear HRc; have hI4 := hI.keep hb4; have hM4 := copy_mat ho4 hr4; have hA4 := hI.was ho4 hi4; obtain ⟨c0, c1, c2, c3, c4, c5⟩ := HX.out w4 hI4.bw; have hI5 := hI4; have hM5 := hM4; have t2 : Hid (i = i) := rfl)
                    | (clear t2; go_at_call 26; refine (HSt.out w4 hI5).mono ?_; rintro e w6 ⟨A6, n6, c6, us6, v6, rfl, hM6, hn6, hA6, hd6, hj6, hx6⟩; rw [hE1.out]; have hM6w := hI5.mat hx6 hM5 hA4; clear HSt; have t4 : Hid (i = i) := rfl)
                    | (clear t4; go_at_call 20; obtain ⟨hI6, hL6⟩ := hI5.refused hi100 hge.out hxb.out hd6 hj6 hx6 hEE.out; refine (jrecords_any hI6.j).mono ?_; rintro e w7 ⟨g7, us7, rfl, ho7, hr7, hi7, hb7⟩; have hf7 := hI6.j.ok.few; have hf7' := hf7; rw [hL6] at hf7'; have hM7 := copy_mat ho7 hr7; have hM7' := hM7; rw [hL6] at hM7'; have hl7 := hM7.lenL; have t5 : Hid (i = i) := rfl)
                    | (clear t5; go_at_call 27; refine (rsame15_any _ _ hM7' (hM6w.keep hb7) (by omega) (by omega)).mono ?_; rintro e w8 ⟨rfl, hb8⟩; rw [decide_eq_true rfl]; have hI8 := (hI6.keep hb7).keep hb8; clear hM7 hM7' hM6 hM6w; have t6 : Hid (i = i) := rfl)
                    | (clear t6; go_at_call 25; refine (fuse_any hI8.d (-1) (by omega)).mono ?_; rintro e w9 ⟨rfl, hd9, hx9⟩; have hI9 := hI8.fuse hge.out (-1) hd9 hx9; have hf := hfin.out _ _ _ _ _ _ hI9; replace hf := (show Hid _ from hf)))
                  exact hf.out
              · as_aux_lemma =>
                  have hE1 : Hid ((stepP x J (S)).1 = 3) := hE23
                  have hEE : Hid ((stepP x J (S)).1 = 2 ∨ (stepP x J (S)).1 = 3) := .inr hE1.out
                  clear hE23
                  go_wp2_with (first
                    | (clear t1; go_at_call 20; refine HRc.mono ?_; rintro e w4 ⟨g4, us4, rfl, ho4, hr4, hi4, hb4⟩; clear HRc; have hI4 := hI.keep hb4; have hM4 := copy_mat ho4 hr4; have hA4 := hI.was ho4 hi4; obtain ⟨c0, c1, c2, c3, c4, c5⟩ := HX.out w4 hI4.bw; have hI5 := hI4; have hM5 := hM4; have t2 : Hid (i = i) := rfl)
                    | (clear t2; go_at_call 26; refine (HSt.out w4 hI5).mono ?_; rintro e w6 ⟨A6, n6, c6, us6, v6, rfl, hM6, hn6, hA6, hd6, hj6, hx6⟩; rw [hE1.out]; have hM6w := hI5.mat hx6 hM5 hA4; clear HSt; have t4 : Hid (i = i) := rfl)
                    | (clear t4; go_at_call 20; obtain ⟨hI6, hL6⟩ := hI5.refused hi100 hge.out hxb.out hd6 hj6 hx6 hEE.out; refine (jrecords_any hI6.j).mono ?_; rintro e w7 ⟨g7, us7, rfl, ho7, hr7, hi7, hb7⟩; have hf7 := hI6.j.ok.few; have hf7' := hf7; rw [hL6] at hf7'; have hM7 := copy_mat ho7 hr7; have hM7' := hM7; rw [hL6] at hM7'; have hl7 := hM7.lenL; have t5 : Hid (i = i) := rfl)
                    | (clear t5; go_at_call 27; refine (rsame15_any _ _ hM7' (hM6w.keep hb7) (by omega) (by omega)).mono ?_; rintro e w8 ⟨rfl, hb8⟩; rw [decide_eq_true rfl]; have hI8 := (hI6.keep hb7).keep hb8; clear hM7 hM7' hM6 hM6w; have t6 : Hid (i = i) := rfl)
                    | (clear t6; go_at_call 25; refine (fuse_any hI8.d (-1) (by omega)).mono ?_; rintro e w9 ⟨rfl, hd9, hx9⟩; have hI9 := hI8.fuse hge.out (-1) hd9 hx9; have hf := hfin.out _ _ _ _ _ _ hI9; replace hf := (show Hid _ from hf)))
                  exact hf.out
            · as_aux_lemma =>
                have hE1 : Hid ((stepP x J (S)).1 = 140) := hE140
                have hEE : Hid ((stepP x J (S)).1 = 140) := hE1.out
                clear hE140
                go_wp2_with (first
                  | (clear t1; go_at_call 20; refine HRc.mono ?_; rintro e w4 ⟨g4, us4, rfl, ho4, hr4, hi4, hb4⟩; clear HRc; have hI4 := hI.keep hb4; have hM4 := copy_mat ho4 hr4; have hA4 := hI.was ho4 hi4; obtain ⟨c0, c1, c2, c3, c4, c5⟩ := HX.out w4 hI4.bw; have hI5 := hI4; have hM5 := hM4; have t2 : Hid (i = i) := rfl)
                  | (clear t2; go_at_call 26; refine (HSt.out w4 hI5).mono ?_; rintro e w6 ⟨A6, n6, c6, us6, v6, rfl, hM6, hn6, hA6, hd6, hj6, hx6⟩; rw [hE1.out]; have hM6w := hI5.mat hx6 hM5 hA4; clear HSt; obtain ⟨f0, f1, f2, f3, f4, f5⟩ := HX.out w6 (HBW.out _ _ hI5 hx6); have t4 : Hid (i = i) := rfl)
                  | (clear t4; go_at_call 13; obtain ⟨r1, r2⟩ := hI5.ints hge.out Hx.out hx6; refine (restart_any hd6 x.F x.m x.c x.K (by omega) r1 r2).mono ?_; rintro e w7 ⟨rfl, hd7, hx7⟩; obtain ⟨hbw7, hM7w, hM7n, J7, hi7, hL7, h70, h7c, h7n, h7s, h7o⟩ := hI5.cut hi100 hge.out hxb.out hd6 hj6 hx6 hEE.out hx7 hM6w hA4 hM6 hA6 x.K x.m; obtain ⟨z0, z1⟩ := HZ.out w7 hbw7; have HO7 := HOp.out w7 g lb gm _ _ hd7 hi7 h70 h7c; clear hM6 hM6w hd6 hj6; have t5 : Hid (i = i) := rfl)
                  | (clear t5; go_at_call 19; refine HO7.mono ?_; rintro e w8 ⟨gk, rfl, hj8, hb8⟩; clear HO7; obtain ⟨v8, hj8⟩ := hj8.out; have hI8 := WhI.mk (hd7.keep hb8) (hj8.base_le hbw7.size) (fun b hb hi => absurd (hd7.low b hi) (Nat.not_lt.2 hb)) hi7 h70 h7c h7n h7s h7o (hbw7.trans hb8); have hM8w := hM7w.keep hb8; have hM8n := hM7n.keep hb8; clear hM7w hM7n hd7; have t6 : Hid (i = i) := rfl)
                  | (clear t6; go_at_call 20; refine (jrecords_any hI8.j).mono ?_; rintro e w9 ⟨g9, us9, rfl, ho9, hr9, hi9, hb9⟩; have hf9 := hI8.j.ok.few; have hM9 := copy_mat ho9 hr9; have t7 : Hid (i = i) := rfl)
                  | (clear t7; go_at_call 27; refine (rsame15_any _ _ hM9 (hM8w.keep hb9) (by omega) (by omega)).mono ?_; rintro e w10 ⟨rfl, hb10⟩; have hI10 := (hI8.keep hb9).keep hb10; have hf := hfin.out _ _ _ _ _ _ hI10; replace hf := (show Hid _ from hf); obtain ⟨D1, hD1⟩ : ∃ D, Hid (decide (J7.L = J.L) = D) := ⟨_, rfl⟩; rw [hD1.out]; have t8 : Hid (i = i) := rfl; cases D1)
                  | (clear t8; go_at_call 20; refine (jrecords_any hI10.j).mono ?_; rintro e w11 ⟨g11, us11, rfl, ho11, hr11, hi11, hb11⟩; have hM11 := copy_mat ho11 hr11; have t9 : Hid (i = i) := rfl)
                  | (clear t9; go_at_call 27; refine (rsame15_any _ _ hM11 (((hM8n.keep hb9).keep hb10).keep hb11) (by omega) (by omega)).mono ?_; rintro e w12 ⟨rfl, hb12⟩; rw [decide_eq_true (hL7.resolve_left (of_decide_eq_false hD1.out))]; have hI12 := (hI10.keep hb11).keep hb12; have hf' := hfin.out _ _ _ _ _ _ hI12; replace hf' := (show Hid _ from hf')))
                · exact hf'.out
                · exact hf.out
          · clear hN
            have HSt : Hid (∀ W, WhI W0 W g lb gm i (S) J gj R v → Calls Try.prog 26 #[.pointer (some ⟨gj, 0, none⟩), .agg #[.int .i64 x.do_, .int .i64 x.n_, .int .i64 x.at_, .slice x.A x.n x.ca, .slice x.F x.m x.c, .slice x.B x.Lr x.Cr]] W fun e w' => StepV W0.heap.size gj g lb gm R v x J (S) W e w') := fun W hW => step_any hW.j hW.d hW.sep (by rw [hW.r0, hW.rc, hW.sn]; decide) hW.inv.few x (Hx.out.keep hW.bw) htot.out (fun b hb => Hx.out.mat.low hb) hge.out
            have HBW : Hid (∀ W W', WhI W0 W g lb gm i (S) J gj R v → Bx (fun b => dIn g lb gm b ∨ jIn gj v b) W W' → Bw W0 W') := fun W W' hW k => Below.trans hW.bw (k.below hW.bw.size (fun b hb => hb.elim (hge.out b) (hW.j.jge b)))
            rcases step_case (S := S) (x := x) hI.inv (by have := hI.n; omega) hxb.out with hE0 | hE23 | hE140
            · as_aux_lemma =>
                have hE1 : Hid ((stepP x J (S)).1 = 0) := hE0
                have hEE : Hid ((stepP x J (S)).1 = 0) := hE1.out
                clear hE0
                go_wp2_with (first
                  | (clear t1; go_at_call 20; refine HRc.mono ?_; rintro e w4 ⟨g4, us4, rfl, ho4, hr4, hi4, hb4⟩; clear HRc; have hI4 := hI.keep hb4; have hM4 := copy_mat ho4 hr4; have hA4 := hI.was ho4 hi4; obtain ⟨c0, c1, c2, c3, c4, c5⟩ := HX.out w4 hI4.bw; have hI5 := hI4; have hM5 := hM4; have t2 : Hid (i = i) := rfl)
                  | (clear t2; go_at_call 26; refine (HSt.out w4 hI5).mono ?_; rintro e w6 ⟨A6, n6, c6, us6, v6, rfl, hM6, hn6, hA6, hd6, hj6, hx6⟩; rw [hE1.out]; have hM6w := hI5.mat hx6 hM5 hA4; clear HSt; have t4 : Hid (i = i) := rfl)
                  | (clear t4; go_at_call 20; obtain ⟨hI6, hL6⟩ := hI5.okay hi100 hge.out hxb.out hd6 hj6 hx6 hEE.out; refine (jrecords_any hI6.j).mono ?_; rintro e w7 ⟨g7, us7, rfl, ho7, hr7, hi7, hb7⟩; have hf7 := hI6.j.ok.few; have hf7' := hf7; rw [hL6] at hf7'; have hM7 := copy_mat ho7 hr7; have hM7' := hM7; rw [hL6] at hM7'; have hl7 := hM7.lenL; have t5 : Hid (i = i) := rfl)
                  | (clear t5; go_at_call 27; refine (rsame15_any _ _ hM7' (hM6.keep hb7) (by omega) (by omega)).mono ?_; rintro e w8 ⟨rfl, hb8⟩; rw [decide_eq_true rfl]; have hI8 := (hI6.keep hb7).keep hb8; clear hM7 hM7' hM6 hM6w; have t6 : Hid (i = i) := rfl)
                  | (clear t6; go_at_call 25; refine (fuse_any hI8.d (-1) (by omega)).mono ?_; rintro e w9 ⟨rfl, hd9, hx9⟩; have hI9 := hI8.fuse hge.out (-1) hd9 hx9; have hf := hfin.out _ _ _ _ _ _ hI9; replace hf := (show Hid _ from hf)))
                exact hf.out
            · rcases hE23 with hE23 | hE23
              · as_aux_lemma =>
                  have hE1 : Hid ((stepP x J (S)).1 = 2) := hE23
                  have hEE : Hid ((stepP x J (S)).1 = 2 ∨ (stepP x J (S)).1 = 3) := .inl hE1.out
                  clear hE23
                  go_wp2_with (first
                    | (clear t1; go_at_call 20; refine HRc.mono ?_; rintro e w4 ⟨g4, us4, rfl, ho4, hr4, hi4, hb4⟩; clear HRc; have hI4 := hI.keep hb4; have hM4 := copy_mat ho4 hr4; have hA4 := hI.was ho4 hi4; obtain ⟨c0, c1, c2, c3, c4, c5⟩ := HX.out w4 hI4.bw; have hI5 := hI4; have hM5 := hM4; have t2 : Hid (i = i) := rfl)
                    | (clear t2; go_at_call 26; refine (HSt.out w4 hI5).mono ?_; rintro e w6 ⟨A6, n6, c6, us6, v6, rfl, hM6, hn6, hA6, hd6, hj6, hx6⟩; rw [hE1.out]; have hM6w := hI5.mat hx6 hM5 hA4; clear HSt; have t4 : Hid (i = i) := rfl)
                    | (clear t4; go_at_call 20; obtain ⟨hI6, hL6⟩ := hI5.refused hi100 hge.out hxb.out hd6 hj6 hx6 hEE.out; refine (jrecords_any hI6.j).mono ?_; rintro e w7 ⟨g7, us7, rfl, ho7, hr7, hi7, hb7⟩; have hf7 := hI6.j.ok.few; have hf7' := hf7; rw [hL6] at hf7'; have hM7 := copy_mat ho7 hr7; have hM7' := hM7; rw [hL6] at hM7'; have hl7 := hM7.lenL; have t5 : Hid (i = i) := rfl)
                    | (clear t5; go_at_call 27; refine (rsame15_any _ _ hM7' (hM6w.keep hb7) (by omega) (by omega)).mono ?_; rintro e w8 ⟨rfl, hb8⟩; rw [decide_eq_true rfl]; have hI8 := (hI6.keep hb7).keep hb8; clear hM7 hM7' hM6 hM6w; have t6 : Hid (i = i) := rfl)
                    | (clear t6; go_at_call 25; refine (fuse_any hI8.d (-1) (by omega)).mono ?_; rintro e w9 ⟨rfl, hd9, hx9⟩; have hI9 := hI8.fuse hge.out (-1) hd9 hx9; have hf := hfin.out _ _ _ _ _ _ hI9; replace hf := (show Hid _ from hf)))
                  exact hf.out
              · as_aux_lemma =>
                  have hE1 : Hid ((stepP x J (S)).1 = 3) := hE23
                  have hEE : Hid ((stepP x J (S)).1 = 2 ∨ (stepP x J (S)).1 = 3) := .inr hE1.out
                  clear hE23
                  go_wp2_with (first
                    | (clear t1; go_at_call 20; refine HRc.mono ?_; rintro e w4 ⟨g4, us4, rfl, ho4, hr4, hi4, hb4⟩; clear HRc; have hI4 := hI.keep hb4; have hM4 := copy_mat ho4 hr4; have hA4 := hI.was ho4 hi4; obtain ⟨c0, c1, c2, c3, c4, c5⟩ := HX.out w4 hI4.bw; have hI5 := hI4; have hM5 := hM4; have t2 : Hid (i = i) := rfl)
                    | (clear t2; go_at_call 26; refine (HSt.out w4 hI5).mono ?_; rintro e w6 ⟨A6, n6, c6, us6, v6, rfl, hM6, hn6, hA6, hd6, hj6, hx6⟩; rw [hE1.out]; have hM6w := hI5.mat hx6 hM5 hA4; clear HSt; have t4 : Hid (i = i) := rfl)
                    | (clear t4; go_at_call 20; obtain ⟨hI6, hL6⟩ := hI5.refused hi100 hge.out hxb.out hd6 hj6 hx6 hEE.out; refine (jrecords_any hI6.j).mono ?_; rintro e w7 ⟨g7, us7, rfl, ho7, hr7, hi7, hb7⟩; have hf7 := hI6.j.ok.few; have hf7' := hf7; rw [hL6] at hf7'; have hM7 := copy_mat ho7 hr7; have hM7' := hM7; rw [hL6] at hM7'; have hl7 := hM7.lenL; have t5 : Hid (i = i) := rfl)
                    | (clear t5; go_at_call 27; refine (rsame15_any _ _ hM7' (hM6w.keep hb7) (by omega) (by omega)).mono ?_; rintro e w8 ⟨rfl, hb8⟩; rw [decide_eq_true rfl]; have hI8 := (hI6.keep hb7).keep hb8; clear hM7 hM7' hM6 hM6w; have t6 : Hid (i = i) := rfl)
                    | (clear t6; go_at_call 25; refine (fuse_any hI8.d (-1) (by omega)).mono ?_; rintro e w9 ⟨rfl, hd9, hx9⟩; have hI9 := hI8.fuse hge.out (-1) hd9 hx9; have hf := hfin.out _ _ _ _ _ _ hI9; replace hf := (show Hid _ from hf)))
                  exact hf.out
            · as_aux_lemma =>
                have hE1 : Hid ((stepP x J (S)).1 = 140) := hE140
                have hEE : Hid ((stepP x J (S)).1 = 140) := hE1.out
                clear hE140
                go_wp2_with (first
                  | (clear t1; go_at_call 20; refine HRc.mono ?_; rintro e w4 ⟨g4, us4, rfl, ho4, hr4, hi4, hb4⟩; clear HRc; have hI4 := hI.keep hb4; have hM4 := copy_mat ho4 hr4; have hA4 := hI.was ho4 hi4; obtain ⟨c0, c1, c2, c3, c4, c5⟩ := HX.out w4 hI4.bw; have hI5 := hI4; have hM5 := hM4; have t2 : Hid (i = i) := rfl)
                  | (clear t2; go_at_call 26; refine (HSt.out w4 hI5).mono ?_; rintro e w6 ⟨A6, n6, c6, us6, v6, rfl, hM6, hn6, hA6, hd6, hj6, hx6⟩; rw [hE1.out]; have hM6w := hI5.mat hx6 hM5 hA4; clear HSt; obtain ⟨f0, f1, f2, f3, f4, f5⟩ := HX.out w6 (HBW.out _ _ hI5 hx6); have t4 : Hid (i = i) := rfl)
                  | (clear t4; go_at_call 13; obtain ⟨r1, r2⟩ := hI5.ints hge.out Hx.out hx6; refine (restart_any hd6 x.F x.m x.c x.K (by omega) r1 r2).mono ?_; rintro e w7 ⟨rfl, hd7, hx7⟩; obtain ⟨hbw7, hM7w, hM7n, J7, hi7, hL7, h70, h7c, h7n, h7s, h7o⟩ := hI5.cut hi100 hge.out hxb.out hd6 hj6 hx6 hEE.out hx7 hM6w hA4 hM6 hA6 x.K x.m; obtain ⟨z0, z1⟩ := HZ.out w7 hbw7; have HO7 := HOp.out w7 g lb gm _ _ hd7 hi7 h70 h7c; clear hM6 hM6w hd6 hj6; have t5 : Hid (i = i) := rfl)
                  | (clear t5; go_at_call 19; refine HO7.mono ?_; rintro e w8 ⟨gk, rfl, hj8, hb8⟩; clear HO7; obtain ⟨v8, hj8⟩ := hj8.out; have hI8 := WhI.mk (hd7.keep hb8) (hj8.base_le hbw7.size) (fun b hb hi => absurd (hd7.low b hi) (Nat.not_lt.2 hb)) hi7 h70 h7c h7n h7s h7o (hbw7.trans hb8); have hM8w := hM7w.keep hb8; have hM8n := hM7n.keep hb8; clear hM7w hM7n hd7; have t6 : Hid (i = i) := rfl)
                  | (clear t6; go_at_call 20; refine (jrecords_any hI8.j).mono ?_; rintro e w9 ⟨g9, us9, rfl, ho9, hr9, hi9, hb9⟩; have hf9 := hI8.j.ok.few; have hM9 := copy_mat ho9 hr9; have t7 : Hid (i = i) := rfl)
                  | (clear t7; go_at_call 27; refine (rsame15_any _ _ hM9 (hM8w.keep hb9) (by omega) (by omega)).mono ?_; rintro e w10 ⟨rfl, hb10⟩; have hI10 := (hI8.keep hb9).keep hb10; have hf := hfin.out _ _ _ _ _ _ hI10; replace hf := (show Hid _ from hf); obtain ⟨D1, hD1⟩ : ∃ D, Hid (decide (J7.L = J.L) = D) := ⟨_, rfl⟩; rw [hD1.out]; have t8 : Hid (i = i) := rfl; cases D1)
                  | (clear t8; go_at_call 20; refine (jrecords_any hI10.j).mono ?_; rintro e w11 ⟨g11, us11, rfl, ho11, hr11, hi11, hb11⟩; have hM11 := copy_mat ho11 hr11; have t9 : Hid (i = i) := rfl)
                  | (clear t9; go_at_call 27; refine (rsame15_any _ _ hM11 (((hM8n.keep hb9).keep hb10).keep hb11) (by omega) (by omega)).mono ?_; rintro e w12 ⟨rfl, hb12⟩; rw [decide_eq_true (hL7.resolve_left (of_decide_eq_false hD1.out))]; have hI12 := (hI10.keep hb11).keep hb12; have hf' := hfin.out _ _ _ _ _ _ hI12; replace hf' := (show Hid _ from hf')))
                · exact hf'.out
                · exact hf.out
      · obtain rfl : i = len0 := by omega
        have i1 : ¬ (i : Int) < (i : Int) := by omega
        as_aux_lemma =>
          obtain ⟨M, hM, hM0, hmk⟩ := made_bytes 128 (by omega)
          replace hmk : ∀ w, (Instr.makeSlice 37 (.int .i64 128) (.int .i64 128)).run Try.prog w = .ok (.slice (some ⟨w.heap.size, 0, none⟩) 128 128) (w.alloc (.cells M 5)) := hmk
          have HM : Hid (∀ i, i < 128 → M[i]? = some (.int .u8 0)) := hM0
          obtain ⟨T0, hT0⟩ : ∃ T, Hid (str (fun _ => (0 : Int)) 128 = T) := ⟨_, rfl⟩
          have HOu : Hid (∀ q, q < 2 * 64 → (0 : Int) = S.read (64 * 0 + q)) := fun q hq => by rw [hI.inv.calm.read, Nat.mul_zero, Nat.zero_add]; exact (hI.out q hq).symm
          have HO7 := HOp.out wr g lb gm S J hI.d hI.inv hI.r0 hI.rc
          have HAl : Hid (S.dead = false) := hI.inv.calm.alive
          have HSn : Hid (0 + 2 ≤ S.n) := by show 0 + 2 ≤ S.n; rw [hI.sn]; decide
          obtain ⟨z0, z1⟩ := HZ.out wr hI.bw
          have hJf := hI.j.ok.few
          have t1 : Hid (i = i) := rfl
          clear hM0 HZ HOp HA Hsm
          go_wp2_with (first
            | (clear t1; go_at_call 19; refine HO7.mono ?_; rintro e w1 ⟨gk, rfl, hj1, hb1'⟩; clear HO7; obtain ⟨v1, hj1⟩ := hj1.out; have hI1 := hI.keep hb1'; have t2 : Hid (i = i) := rfl)
            | (clear t2; go_at_call 15; refine (read_ok hI1.d 0 2 HAl.out HSn.out).mono ?_; rintro e w2 ⟨b2, rfl, hb2g, hB2, hb2'⟩; have hB2' := hB2.congr HOu.out; clear hB2; have hI2 := hI1.keep hb2'; have hj2 := hj1.keep hb2'; have t3 : Hid (i = i) := rfl)
            )
          have kd : Bw w2 w2.drew := (Bw.refl _).drew
          replace hI2 := hI2.keep kd
          replace hj2 := hj2.keep kd
          replace hB2' := hB2'.keep kd
          refine wp_region_held_drew (S := fun w' => BlockIs w' b2 128 (fun _ => (0 : Int))) (by kernel_rfl) hB2' (fun hHeld => ?_)
          refine wpAnyH_take (i := 0) (v := ?_) rfl (by kernel_rfl) (by kernel_rfl) (by kernel_rfl) (fun _ _ _ h => h) (Or.inl ⟨by rfl, ?_⟩) (by assumption) ?_
          rotate_left
          · intro w hSw; (try dsimp only at hSw); go_simp; all_goals (with_reducible rfl)
          try simp only [Act.put, List.setIfInBounds_toArray, List.set_cons_zero, List.set_cons_succ, List.getElem_toArray, List.getElem_cons_zero]
          refine wpAnyH_take (i := 1) (v := ?_) rfl (by kernel_rfl) (by kernel_rfl) (by kernel_rfl) (fun _ _ _ h => h) (Or.inl ⟨by rfl, ?_⟩) (by assumption) ?_
          rotate_left
          · intro w hSw; (try dsimp only at hSw); go_simp; all_goals (with_reducible rfl)
          try simp only [Act.put, List.setIfInBounds_toArray, List.set_cons_zero, List.set_cons_succ, List.getElem_toArray, List.getElem_cons_succ, List.getElem_cons_zero]
          refine wpAnyH_take (i := 2) (v := ?_) rfl (by kernel_rfl) (by kernel_rfl) (by kernel_rfl) (fun _ _ _ h => h) (Or.inl ⟨by rfl, ?_⟩) (by assumption) ?_
          rotate_left
          · intro w hSw; (try dsimp only at hSw); go_simp; all_goals (with_reducible rfl)
          try simp only [Act.put, List.setIfInBounds_toArray, List.set_cons_zero, List.set_cons_succ, List.getElem_toArray, List.getElem_cons_succ, List.getElem_cons_zero]
          refine wpAnyH_take (i := 3) (v := ?_) rfl (by kernel_rfl) (by kernel_rfl) (by kernel_rfl) (fun _ _ _ h => h) (Or.inl ⟨by rfl, ?_⟩) (by assumption) ?_
          rotate_left
          · intro w hSw; (try dsimp only at hSw); go_simp; all_goals (with_reducible rfl)
          try simp only [Act.put, List.setIfInBounds_toArray, List.set_cons_zero, List.set_cons_succ, List.getElem_toArray, List.getElem_cons_succ, List.getElem_cons_zero]
          refine wpAnyH_take (i := 5) (v := ?_) rfl (by kernel_rfl) (by kernel_rfl) (by kernel_rfl) (fun _ _ _ h => h) (Or.inl ⟨by rfl, ?_⟩) (by assumption) ?_
          rotate_left
          · intro w hSw; (try dsimp only at hSw); go_simp; all_goals (with_reducible rfl)
          try simp only [Act.put, List.setIfInBounds_toArray, List.set_cons_zero, List.set_cons_succ, List.getElem_toArray, List.getElem_cons_succ, List.getElem_cons_zero]
          refine wpAnyH_ready (rs := [4]) (by kernel_rfl) (by simp) ?_
          refine AllReadyH.cons rfl (fun K hK => ?_) AllReadyH.nil
          go_simp
          refine (jrecords_any hj2).mono ?_
          rintro e w3 ⟨g3, us3, rfl, ho3, hr3, hi3, hb3'⟩
          have hM3 := copy_mat ho3 hr3
          have hI3 := hI2.keep hb3'
          have hB3 := hB2'.keep hb3'
          refine hK.out _ _ hB3 (fun hHeld => ?_)
          clear hK K
          try simp only [Act.put, List.setIfInBounds_toArray, List.set_cons_zero, List.set_cons_succ, List.getElem_toArray, List.getElem_cons_succ, List.getElem_cons_zero]
          refine wpAnyH_ready (rs := [6]) (by kernel_rfl) (by simp) ?_
          refine AllReadyH.cons rfl (fun K hK => ?_) AllReadyH.nil
          go_simp
          refine (jrecords_any hI3.j).mono ?_
          rintro e w4 ⟨g4, us4, rfl, ho4, hr4, hi4, hb4'⟩
          have hM4 := copy_mat ho4 hr4
          have hI4 := hI3.keep hb4'
          have hB4 := hB3.keep hb4'
          refine hK.out _ _ hB4 (fun hHeld => ?_)
          clear hK K
          try simp only [Act.put, List.setIfInBounds_toArray, List.set_cons_zero, List.set_cons_succ, List.getElem_toArray, List.getElem_cons_succ, List.getElem_cons_zero]
          refine wpAnyH_ready (rs := [7]) (by kernel_rfl) (by simp) ?_
          refine AllReadyH.cons rfl (fun K hK => ?_) AllReadyH.nil
          go_simp
          refine (rsame15_any _ _ (hM3.keep hb4') hM4 (by omega) (by omega)).mono ?_
          rintro e w5 ⟨rfl, hb5'⟩
          rw [decide_eq_true rfl]
          have hI5 := hI4.keep hb5'
          have hB5 := hB4.keep hb5'
          clear hM3 hM4
          refine hK.out _ _ hB5 (fun hHeld => ?_)
          clear hK K
          try simp only [Act.put, List.setIfInBounds_toArray, List.set_cons_zero, List.set_cons_succ, List.getElem_toArray, List.getElem_cons_succ, List.getElem_cons_zero]
          refine wpAnyH_take (i := 8) (v := ?_) rfl (by kernel_rfl) (by kernel_rfl) (by kernel_rfl) (fun _ _ _ h => h) (Or.inl ⟨by rfl, ?_⟩) (by assumption) ?_
          rotate_left
          · intro w hSw; (try dsimp only at hSw); go_simp; all_goals (with_reducible rfl)
          try simp only [Act.put, List.setIfInBounds_toArray, List.set_cons_zero, List.set_cons_succ, List.getElem_toArray, List.getElem_cons_succ, List.getElem_cons_zero]
          refine wpAnyH_take (i := 9) (v := ?_) rfl (by kernel_rfl) (by kernel_rfl) (by kernel_rfl) (fun _ _ _ h => h) (Or.inl ⟨by rfl, ?_⟩) (by assumption) ?_
          rotate_left
          · intro w hSw; (try dsimp only at hSw); go_simp; all_goals (with_reducible rfl)
          try simp only [Act.put, List.setIfInBounds_toArray, List.set_cons_zero, List.set_cons_succ, List.getElem_toArray, List.getElem_cons_succ, List.getElem_cons_zero]
          refine wpAnyH_take (i := 10) (v := ?_) rfl (by kernel_rfl) (by kernel_rfl) (by kernel_rfl) (fun _ _ _ h => h) (Or.inl ⟨by rfl, ?_⟩) (by assumption) ?_
          rotate_left
          · intro w hSw; (try dsimp only at hSw); go_simp; all_goals (with_reducible rfl)
          try simp only [Act.put, List.setIfInBounds_toArray, List.set_cons_zero, List.set_cons_succ, List.getElem_toArray, List.getElem_cons_succ, List.getElem_cons_zero]
          refine wpAnyH_take (i := 11) (v := ?_) rfl (by kernel_rfl) (by kernel_rfl) (by kernel_rfl) (fun _ _ _ h => h) (Or.inl ⟨by rfl, ?_⟩) (by assumption) ?_
          rotate_left
          · intro w hSw; (try dsimp only at hSw); go_simp; all_goals (with_reducible rfl)
          try simp only [Act.put, List.setIfInBounds_toArray, List.set_cons_zero, List.set_cons_succ, List.getElem_toArray, List.getElem_cons_succ, List.getElem_cons_zero]
          refine wpAnyH_take (i := 12) (v := ?_) rfl (by kernel_rfl) (by kernel_rfl) (by kernel_rfl) (fun _ _ _ h => h) (Or.inl ⟨by rfl, ?_⟩) (by assumption) ?_
          rotate_left
          · intro w hSw; (try dsimp only at hSw); go_simp; all_goals (with_reducible rfl)
          try simp only [Act.put, List.setIfInBounds_toArray, List.set_cons_zero, List.set_cons_succ, List.getElem_toArray, List.getElem_cons_succ, List.getElem_cons_zero]
          refine wpAnyH_take (i := 13) (v := ?_) rfl (by kernel_rfl) (by kernel_rfl) (by kernel_rfl) (fun _ _ _ h => h) (Or.inl ⟨by rfl, ?_⟩) (by assumption) ?_
          rotate_left
          · intro w hSw; (try dsimp only at hSw); go_simp; all_goals (with_reducible rfl)
          try simp only [Act.put, List.setIfInBounds_toArray, List.set_cons_zero, List.set_cons_succ, List.getElem_toArray, List.getElem_cons_succ, List.getElem_cons_zero]
          refine wpAnyH_take (i := 14) (v := ?_) rfl (by kernel_rfl) (by kernel_rfl) (by kernel_rfl) (fun _ _ _ h => h) (Or.inl ⟨by rfl, ?_⟩) (by assumption) ?_
          rotate_left
          · intro w hSw; (try dsimp only at hSw); go_simp; all_goals (with_reducible rfl)
          try simp only [Act.put, List.setIfInBounds_toArray, List.set_cons_zero, List.set_cons_succ, List.getElem_toArray, List.getElem_cons_succ, List.getElem_cons_zero]
          refine wpAnyH_take (i := 15) (v := ?_) rfl (by kernel_rfl) (by kernel_rfl) (by kernel_rfl) (fun _ _ _ h => h) (Or.inl ⟨by rfl, ?_⟩) (by assumption) ?_
          rotate_left
          · intro w hSw; (try dsimp only at hSw); have cy := conv_row (C := 128) (hSw.row (fun _ => ⟨Int.le_refl _, by decide⟩)); rw [hT0.out] at cy; go_simp; all_goals (with_reducible rfl)
          try simp only [Act.put, List.setIfInBounds_toArray, List.set_cons_zero, List.set_cons_succ, List.getElem_toArray, List.getElem_cons_succ, List.getElem_cons_zero]
          refine wpAnyH_ready (rs := [16]) (by kernel_rfl) (by simp) ?_
          refine AllReadyH.cons rfl (fun K hK => ?_) AllReadyH.nil
          go_simp
          have kA : Bw w5 (w5.alloc (.cells M 5)) := Below.alloc (Bw.refl _) (Nat.le_refl _) _
          have cz := conv_row (C := 128) (row_new w5 M 5 128 (fun _ => (0 : Int)) (fun _ => ⟨Int.le_refl _, by decide⟩) HM.out)
          rw [hT0.out] at cz
          refine hK.out _ _ (hB5.keep kA) (fun hHeld => ?_)
          clear hK K
          try simp only [Act.put, List.setIfInBounds_toArray, List.set_cons_zero, List.set_cons_succ, List.getElem_toArray, List.getElem_cons_succ, List.getElem_cons_zero]
          refine wpAnyH_ready (rs := [17]) (by kernel_rfl) (by simp) ?_
          refine AllReadyH.cons rfl (fun K hK => ?_) AllReadyH.nil
          go_simp
          refine hK.out _ _ (hB5.keep kA) (fun hHeld => ?_)
          clear hK K
          try simp only [Act.put, List.setIfInBounds_toArray, List.set_cons_zero, List.set_cons_succ, List.getElem_toArray, List.getElem_cons_succ, List.getElem_cons_zero]
          refine wpAnyH_take (i := 18) (v := ?_) rfl (by kernel_rfl) (by kernel_rfl) (by kernel_rfl) (fun _ _ _ h => h) (Or.inl ⟨by rfl, ?_⟩) (by assumption) ?_
          rotate_left
          · intro w hSw; (try dsimp only at hSw); go_simp; all_goals (with_reducible rfl)
          try simp only [Act.put, List.setIfInBounds_toArray, List.set_cons_zero, List.set_cons_succ, List.getElem_toArray, List.getElem_cons_succ, List.getElem_cons_zero]
          refine wpAnyH_take (i := 19) (v := ?_) rfl (by kernel_rfl) (by kernel_rfl) (by kernel_rfl) (fun _ _ _ h => h) (Or.inl ⟨by rfl, ?_⟩) (by assumption) ?_
          rotate_left
          · intro w hSw; (try dsimp only at hSw); go_simp; all_goals (with_reducible rfl)
          try simp only [Act.put, List.setIfInBounds_toArray, List.set_cons_zero, List.set_cons_succ, List.getElem_toArray, List.getElem_cons_succ, List.getElem_cons_zero]
          refine wpAnyH_take (i := 20) (v := ?_) rfl (by kernel_rfl) (by kernel_rfl) (by kernel_rfl) (fun _ _ _ h => h) (Or.inl ⟨by rfl, ?_⟩) (by assumption) ?_
          rotate_left
          · intro w hSw; (try dsimp only at hSw); go_simp; all_goals (with_reducible rfl)
          try simp only [Act.put, List.setIfInBounds_toArray, List.set_cons_zero, List.set_cons_succ, List.getElem_toArray, List.getElem_cons_succ, List.getElem_cons_zero]
          refine wpAnyH_ready (rs := [21]) (by kernel_rfl) (by simp) ?_
          refine AllReadyH.cons rfl (fun K hK => ?_) AllReadyH.nil
          go_simp
          refine (wakes15_any _).mono ?_
          rintro e w9 ⟨rfl, hb9⟩
          refine hK.out _ _ ((hB5.keep kA).keep hb9) (fun hHeld => ?_)
          clear hK K
          try simp only [Act.put, List.setIfInBounds_toArray, List.set_cons_zero, List.set_cons_succ, List.getElem_toArray, List.getElem_cons_succ, List.getElem_cons_zero]
          refine wpAnyH_take (i := 22) (v := ?_) rfl (by kernel_rfl) (by kernel_rfl) (by kernel_rfl) (fun _ _ _ h => h) (Or.inl ⟨by rfl, ?_⟩) (by assumption) ?_
          rotate_left
          · intro w hSw; (try dsimp only at hSw); go_simp; all_goals (with_reducible rfl)
          try simp only [Act.put, List.setIfInBounds_toArray, List.set_cons_zero, List.set_cons_succ, List.getElem_toArray, List.getElem_cons_succ, List.getElem_cons_zero]
          refine wpAnyH_take (i := 23) (v := ?_) rfl (by kernel_rfl) (by kernel_rfl) (by kernel_rfl) (fun _ _ _ h => h) (Or.inl ⟨by rfl, ?_⟩) (by assumption) ?_
          rotate_left
          · intro w hSw; (try dsimp only at hSw); go_simp; all_goals (with_reducible rfl)
          try simp only [Act.put, List.setIfInBounds_toArray, List.set_cons_zero, List.set_cons_succ, List.getElem_toArray, List.getElem_cons_succ, List.getElem_cons_zero]
          refine wpAnyH_done (by kernel_rfl) ?_ _
          go_wp2
          go_ret
          exact ⟨rfl, ((hb0.trans hI5.bw).trans kA).trans hb9⟩
-- /ROUNDS

set_option maxRecDepth 100000 in
theorem lifted (os : Os) (started : os.Started) (H : Type) (enc : TypeId × Value → H) :
    ReturnsInHanded {} Try.checked os 6 .any (Rows.journalWholeSpec.pre6 enc Try.prog Try.f6 Rows.journalWholeRow.domain false) (Rows.journalWholeSpec.post enc Try.prog Try.f6 false true false false) := by
  refine returnsInHanded_of_change_sized (C := Try.checked) own started (by kernel_rfl) Try.func6
    (ChangeSpec.witness6 (enc := enc) (C := Try.checked) false ⟨#[], #[.slice none 0 0], []⟩ 8 (by kernel_rfl) (by kernel_rfl) (by kernel_rfl) (by kernel_rfl)) ?_
  intro W base args ds gs before hval0 hW hcnd hsz0 _
  have hval : ∀ (j : Nat) t v, Try.f6.params[j]? = some t → args[j]? = some v → Value.okWide Try.prog W .any base t v := hval0
  have hW' := hW
  obtain ⟨p, q, hA0, hV, rfl, hfz, hnd⟩ := hW
  have hA : DataW.TrodAll enc Try.prog W 0 (fun _ => true) true Try.f6.params.toList args.toList ds p := hA0
  have hsz : (DataW.weightsEach Try.prog (Try.f6.params.toList ++ Rows.journalWholeSpec.plain.varTypes Try.prog) (ds ++ gs)).all (· ≤ reachBytes) = true := hsz0
  rw [Try.params6] at hA hval hsz
  obtain ⟨v0, vs0, d0, ds0, p0, q0, hargs, rfl, rfl, h0, r0⟩ := trodAll_cons hA
  obtain ⟨rfl, rfl, rfl⟩ := trodAll_nil r0
  obtain rfl : args = #[v0] := by cases args; simp_all
  obtain ⟨rfl, rfl⟩ := trodVars_none hV
  obtain ⟨a0, len0, cap0, rfl⟩ := okWide_slice Try.underlying24 (hval 0 24 v0 rfl rfl)
  have k0 := h0
  have lt0 : ∀ x ∈ p0, x.block < W.heap.size := by obtain ⟨m, hm⟩ := k0; exact DataW.trod_lt m _ _ _ hm
  obtain ⟨X0, w0⟩ := open_acts15 h0 (fun x hx => by simpa using List.all_eq_true.1 hsz x (DataW.weights_mem_each (j := 0) (t := 24) rfl rfl x hx))
  clear hA0 hval0
  refine (walk a0 len0 cap0 X0 W w0).mono fun e W' ⟨he, bel⟩ => ?_
  subst he
  exact ⟨_, rfl, _, _, _, [], _, [], hW', trodAll_mk1 (shut_bool Try.underlying4 _), (trodAll_cons_mk (Below.trod laidOut (by kernel_rfl) (of_decide_eq_true (by kernel_rfl)) k0 bel lt0) trodAll_mk0), rfl, bel.frame _, fun h => by cases h⟩

theorem over : Rows.journalWholeRow.holds Try.pinned (OpenSpec.ofChange Rows.journalWholeSpec) :=
  OpenClaim.holds_of_wide 6 Try.f6 rfl rfl rfl rfl rfl rfl rfl ⟨rfl, rfl, rfl, rfl, rfl⟩ rfl rfl rfl rfl rfl (by kernel_rfl) Try.func6 (by kernel_rfl)
    (of_decide_eq_true (by kernel_rfl)) (by unfold Func.isWrapper; first | (rw [if_pos (by decide +kernel)]; kernel_rfl) | (rw [if_neg (by decide +kernel)]; exact ⟨rfl, rfl⟩))
    (fun os started H enc _ => lifted os started H enc)

theorem proved : Rows.JournalWholeSaid := over
#print axioms proved
end Go.Proofs.Ytppknadflmjefaa.journalWhole
