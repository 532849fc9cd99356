/- Layer 15: the document's Open where there is a disk. -/
import Derived.Test.YtppknadflmjefaaQc
namespace Go.Proofs.Ytppknadflmjefaa
open Go.RowKit Go.Deep Go.Maps
set_option linter.unusedVariables false
set_option linter.unusedSimpArgs false

/-- the journal's block while its heads are looked at -/
def RjB (w : World) (gj g r0 rc : Nat) (h : Jl.Hed) : Prop := w.heap[gj]? = some (.cells (jcells g (.slice none 0 0) ⟨r0, rc, h, [], false⟩) 92 (0, 0))
theorem RjB.keep {w w' : World} {gj g r0 rc : Nat} {h : Jl.Hed} (k : RjB w gj g r0 rc h) (b : Bw w w') : RjB w' gj g r0 rc h := (b.block gj (Array.getElem?_eq_some_iff.1 k).1).trans k
theorem RjB.c (j : Nat) {w : World} {gj g r0 rc : Nat} {h : Jl.Hed} (k : RjB w gj g r0 rc h) : w.cell? ⟨gj, j, none⟩ = (jcells g (.slice none 0 0) ⟨r0, rc, h, [], false⟩)[j]? := cell_of_row w gj j _ _ _ k
theorem RjB.fz {w : World} {gj g r0 rc : Nat} {h : Jl.Hed} (k : RjB w gj g r0 rc h) (j : Nat) : w.frozen? ⟨gj, j, none⟩ = false := frozen_of_row w gj j _ _ k
theorem RjB.set {w : World} {gj g r0 rc : Nat} {h : Jl.Hed} (k : RjB w gj g r0 rc h) (o : Jl.Hed) : RjB (((w.setCell ⟨gj, 3, none⟩ (.int .u64 (o.n : Int))).setCell ⟨gj, 4, none⟩ (.int .i64 (o.area : Int))).setCell ⟨gj, 5, none⟩ (.int .i64 (o.len : Int))) gj g r0 rc o := by
  exact heap_setCell_same _ gj 5 _ _ _ (heap_setCell_same _ gj 4 _ _ _ (heap_setCell_same w gj 3 _ _ _ k))
set_option maxRecDepth 100000 in
set_option maxHeartbeats 8000000 in
theorem ropen15_ok {w : World} {g cb cap : Nat} {LV WV : Nat → Value} {S : Dsk} (h : RefAt w g cb cap LV WV S) (r0 rc : Nat) (h4 : 4 ≤ rc) (hin : r0 + rc ≤ S.n) (hd : S.dead = false) :
    Calls Try.prog 28 #[.pointer (some ⟨g, 0, none⟩), .agg #[.int .i64 (r0 : Int), .int .i64 (rc : Int)]] w fun e w' => ROpenV w g (if (Jl.opn S r0 rc).isNone then 150 else 0) (Jl.opn S r0 rc) e w' := by
  obtain ⟨E, hE⟩ : ∃ E : Int, Hid ((if (Jl.opn S r0 rc).isNone then (150 : Int) else 0) = E) := ⟨_, rfl⟩
  rw [hE.out]
  have hn := h.ok.n1
  have hrd := h.ok.read
  obtain ⟨z, hz⟩ : ∃ z, Hid (w.heap.size = z) := ⟨_, rfl⟩
  obtain ⟨W1, hW1⟩ : ∃ W, W = w.alloc (.cells #[.int .i64 (r0 : Int), .int .i64 (rc : Int)] 23) := ⟨_, rfl⟩
  have kA : Bw w W1 := by rw [hW1]; exact Below.alloc (Bw.refl _) (Nat.le_refl _) _
  have HZ : Hid (∀ u, Bw W1 u → u.cell? ⟨z, 0, none⟩ = some (.int .i64 (r0 : Int)) ∧ u.cell? ⟨z, 1, none⟩ = some (.int .i64 (rc : Int))) := fun u ku => by
    have h1 := cells2_15 w (.int .i64 (r0 : Int)) (.int .i64 (rc : Int)) 23
    rw [← hW1, hz.out] at h1
    exact ⟨(ku.cell (p := ⟨z, 0, none⟩) (block_lt_of_cell h1.1)).trans h1.1, (ku.cell (p := ⟨z, 1, none⟩) (block_lt_of_cell h1.2)).trans h1.2⟩
  obtain ⟨F, hF⟩ : ∃ F : Nat → Int, Hid (F = fun i => S.read (64 * r0 + i)) := ⟨_, rfl⟩
  have HR : Hid (Calls Try.prog 16 #[.pointer (some ⟨g, 0, none⟩), .int .i64 (r0 : Int), .int .i64 (rc : Int)] W1 fun e w' => RReadEnds2 W1 (rc * 64) F e w') := by
    refine (?_ : Calls _ _ _ _ _)
    rw [hF.out]
    exact rread2_ok (h.keep kA) r0 rc hd hin
  obtain ⟨n, hnn⟩ : ∃ n, Hid (S.n = n) := ⟨_, rfl⟩
  have c0 := (h.keep kA).t0
  rw [hnn.out] at hn hin c0
  obtain ⟨z0, z1⟩ := HZ.out W1 (Bw.refl _)
  have hFb : Hid (∀ i, 0 ≤ F i ∧ F i < 256) := fun i => by rw [hF.out]; exact hrd _
  have p0 : (4 : Int) ≤ (rc : Int) := by omega
  have p1 : (0 : Int) ≤ (n : Int) - (r0 : Int) := by omega
  have p2 : (n : Int) - (r0 : Int) ≤ 65536 := by omega
  have p3 : (rc : Int) ≤ (n : Int) - (r0 : Int) := by omega
  have p4 : (r0 : Int) ≤ (n : Int) := by omega
  have p5 : (0 : Int) ≤ (r0 : Int) := Int.natCast_nonneg _
  have rcb : rc ≤ 65536 := by omega
  have r0b : Hid (r0 ≤ 65536) := by show _ ≤ _; omega
  clear h hin hrd
  go_enter Try.func28, Try.ntmps28
  go_upto_region 1 with fail
  rw [← hW1, hz.out]
  clear hW1
  go_upto_region 9 with (go_at_call 16; refine HR.out.mono ?_; rintro e w2 ⟨A, c, rfl, hNc, hcm, hrow, hb2⟩; replace hNc : Hid (rc * 64 ≤ c) := hNc; replace hcm : Hid (c ≤ maxLen) := hcm; replace hrow : Hid (RowAt w2 A (rc * 64) F) := hrow)
  obtain ⟨b1, o1, rfl, -⟩ := hrow.out.at (k := 0) (by omega)
  obtain ⟨room, hroom⟩ : ∃ room, Hid (Jl.room rc = room) := ⟨_, rfl⟩
  obtain ⟨hf, hhf⟩ : ∃ hf, Hid (Jl.half rc = hf) := ⟨_, rfl⟩
  have hrf : Hid (room = hf * 64 ∧ 2 * hf + 2 ≤ rc) := by
    have e1 := hroom.out; have e2 := hhf.out
    refine (?_ : _ ∧ _)
    unfold Jl.room at e1
    rw [e2] at e1
    have : Jl.half rc = (rc - 2) / 2 := rfl
    exact ⟨e1.symm, by omega⟩
  have hfb : hf ≤ 32768 := by have := hrf.out; omega
  have kw2 : Hid (Bw w w2) := kA.trans hb2
  have HZ2 : Hid (∀ u, Bw w2 u → u.cell? ⟨z, 0, none⟩ = some (.int .i64 (r0 : Int)) ∧ u.cell? ⟨z, 1, none⟩ = some (.int .i64 (rc : Int))) := fun u ku => HZ.out u (hb2.trans ku)
  have HHalf : Hid (∀ u, Calls Try.prog 55 #[.agg #[.int .i64 (r0 : Int), .int .i64 (rc : Int)]] u fun e w' => e = .returned (.int .i64 (hf : Int)) ∧ Bw u w') := fun u => by rw [← hhf.out]; exact rhalf15_any _ rc h4 rcb u
  obtain ⟨gj, hgj⟩ : ∃ gj, Hid (w2.heap.size = gj) := ⟨_, rfl⟩
  obtain ⟨W3, hW3⟩ : ∃ W, W = w2.alloc (.cells (jcells g (.slice none 0 0) ⟨r0, rc, Jl.no, [], false⟩) 92) := ⟨_, rfl⟩
  have k3 : Bw w2 W3 := by rw [hW3]; exact Below.alloc (Bw.refl _) (Nat.le_refl _) _
  have hB3 : Hid (RjB W3 gj g r0 rc Jl.no) := by refine (?_ : RjB _ _ _ _ _ _); unfold RjB; rw [hW3, ← hgj.out]; exact heap_alloc_new _ _
  obtain ⟨y0, y1⟩ := HZ2.out w2 (Bw.refl _)
  obtain ⟨x0, x1⟩ := HZ2.out W3 k3
  have hgw : Hid (w.heap.size ≤ gj) := by have := kw2.out.size; have := hgj.out; exact (by omega : w.heap.size ≤ gj)
  have kW3 : Hid (Bw w W3) := kw2.out.trans k3
  have hrow3 : Hid (RowAt W3 (some ⟨b1, o1, none⟩) (rc * 64) F) := hrow.out.keep k3
  have hrow2 : Hid (RowAt w2 (some ⟨b1, o1, none⟩) (rc * 64) F) := hrow.out
  clear z0 z1 c0 hrow
  go_upto_region 10 with fail
  have hW3' : W3 = w2.alloc (.cells #[.pointer (some ⟨g, 0, none⟩), .int .i64 (r0 : Int), .int .i64 (rc : Int), .int .u64 0, .int .i64 0, .int .i64 0, .slice none 0 0, .bool false] 92) := hW3
  rw [← hW3', hgj.out]
  clear hW3 hW3' y0 y1
  go_upto_region 11 with (go_at_call 55; refine (HHalf.out _).mono ?_; rintro e w4 ⟨rfl, hb4⟩)
  have hr64 : (hf : Int) * 64 = (room : Int) := by have := hrf.out; omega
  rw [hr64]
  have hbj : Hid (b1 ≠ gj) := by
    have h1 := hrow3.out.lt (k := 0) (by omega)
    have h2 := hgj.out
    obtain ⟨b', o', e, hc⟩ := (show RowAt w2 (some ⟨b1, o1, none⟩) (rc * 64) F from hrow2.out).at (k := 0) (by omega)
    cases e
    have h3 := block_lt_of_cell (hc 0 (by omega))
    exact (by have h3' : b1 < w2.heap.size := h3; omega : b1 ≠ gj)
  have e63 : ¬ c = 64 := by have := hNc.out; omega
  have e61 : (64 : Int) ≤ (c : Int) := by have := hNc.out; omega
  have e62 : (128 : Int) ≤ (c : Int) := by have := hNc.out; omega
  have e60 : ¬ c = 0 := by have := hNc.out; omega
  have hB4 : Hid (RjB w4 gj g r0 rc Jl.no) := hB3.out.keep hb4
  have hrow4 : Hid (RowAt w4 (some ⟨b1, o1, none⟩) (rc * 64) F) := hrow3.out.keep hb4
  have hbw4 : Hid (Bw w w4) := kW3.out.trans hb4
  clear x0 x1 p0 p1 p2 p3 p4 p5 HZ HR hrow2 hrow3 hB3 hr64 HHalf HZ2
  go_wp2
  go_loopw [11] (fun s11 wr => ∃ i : Nat, s11 = .int .i64 (i : Int) ∧ i ≤ 2 ∧ Hid (RjB wr gj g r0 rc (seqH F room i)) ∧ Hid (Bw w wr) ∧ Hid (RowAt wr (some ⟨b1, o1, none⟩) (rc * 64) F)) (fun s11 _ => 2 - (intOf s11).toNat)
  case atStart => exact ⟨0, rfl, by omega, hB4, hbw4, hrow4⟩
  case round =>
    obtain ⟨i, rfl, hi, hB, hbw, hrw⟩ := hrel
    clear hB4 hrow4 hbw4 hb4
    rcases (by omega : i = 0 ∨ i = 1 ∨ i = 2) with hi0 | hi1 | hi2
    · subst hi0
      obtain ⟨H, hH⟩ : ∃ H, Hid (Jl.hed (fun j => F (64 * 0 + j)) 0 room = H) := ⟨_, rfl⟩
      obtain ⟨P, hP⟩ : ∃ P, Hid (seqH F room 0 = P) := ⟨_, rfl⟩
      have hnext : Hid (seqH F room (0 + 1) = Jl.pick P H) := by refine (?_ : _ = _); rw [seqH, hH.out, hP.out]
      replace hB : Hid (RjB wr gj g r0 rc P) := by rw [← hP.out]; exact hB.out
      have HH : Hid (Calls Try.prog 56 #[.slice (some ⟨b1, o1, none⟩) 64 c, .int .u64 0, .int .i64 (room : Int)] wr fun e w' => e = .returned (headT H) ∧ Bw wr w') := by
        have h1 := rhead_any b1 (o1) c 0 room (fun j => F (64 * 0 + j)) (by omega) (by have := hNc.out; omega) (by have := hrf.out; omega) wr (by have h2 := row_sub15 hrw.out (p := 64 * 0) (q := 64) (by omega); simpa using h2)
        rw [hH.out] at h1
        exact h1
      have c3 := hB.out.c 3
      have c4 := hB.out.c 4
      have c5 := hB.out.c 5
      have z3 := hB.out.fz 3
      have z4 := hB.out.fz 4
      have z5 := hB.out.fz 5
      replace c3 : wr.cell? ⟨gj, 3, none⟩ = some (.int .u64 (P.n : Int)) := c3
      replace c4 : wr.cell? ⟨gj, 4, none⟩ = some (.int .i64 (P.area : Int)) := c4
      replace c5 : wr.cell? ⟨gj, 5, none⟩ = some (.int .i64 (P.len : Int)) := c5
      clear c3 c4 c5 z3 z4 z5
      by_cases hn0 : H.n = 0
      · have hT : headT H = .tuple #[.int .u64 0, .int .i64 0, .int .i64 0, .bool false] := by unfold headT; rw [if_pos hn0]
        have hpk : Hid (seqH F room (0 + 1) = P) := by refine (?_ : _ = _); rw [hnext.out]; unfold Jl.pick; rw [if_neg (by omega)]
        rw [hT] at HH
        clear hT hn0
        go_wp2_with (go_at_call 56; refine HH.out.mono ?_; rintro e w5 ⟨rfl, hb5⟩)
        go_roundw
        case rel => exact ⟨0 + 1, by go_num, by omega, by rw [hpk.out]; exact hB.out.keep hb5, hbw.out.trans hb5, hrw.out.keep hb5⟩
        case measure => simp [intOf]
      · have hT : headT H = .tuple #[.int .u64 (H.n : Int), .int .i64 (H.area : Int), .int .i64 (H.len : Int), .bool true] := by unfold headT; rw [if_neg hn0]
        rw [hT] at HH
        clear hT hn0
        by_cases hlt : P.n < H.n
        · have hpk : Hid (seqH F room (0 + 1) = H) := by refine (?_ : _ = _); rw [hnext.out]; unfold Jl.pick; rw [if_pos hlt]
          have hB5 : Hid (∀ u, Bw wr u → (u.cell? ⟨gj, 3, none⟩ = some (.int .u64 (P.n : Int)) ∧ u.cell? ⟨gj, 4, none⟩ = some (.int .i64 (P.area : Int)) ∧ u.cell? ⟨gj, 5, none⟩ = some (.int .i64 (P.len : Int))) ∧ u.frozen? ⟨gj, 3, none⟩ = false ∧ u.frozen? ⟨gj, 4, none⟩ = false ∧ u.frozen? ⟨gj, 5, none⟩ = false) := fun u ku => by
            have h1 := hB.out.keep ku
            exact ⟨⟨h1.c 3, h1.c 4, h1.c 5⟩, h1.fz 3, h1.fz 4, h1.fz 5⟩
          have hlt2 : (P.n : Int) < (H.n : Int) := by omega
          go_wp2_with (go_at_call 56; refine HH.out.mono ?_; rintro e w5 ⟨rfl, hb5⟩; obtain ⟨⟨c3, c4, c5⟩, z3, z4, z5⟩ := hB5.out w5 hb5)
          go_roundw
          case rel =>
            have hX : Bx (· = gj) w5 (((w5.setCell ⟨gj, 3, none⟩ (.int .u64 (H.n : Int))).setCell ⟨gj, 4, none⟩ (.int .i64 (H.area : Int))).setCell ⟨gj, 5, none⟩ (.int .i64 (H.len : Int))) := (((Bx.refl (· = gj) w5).put rfl).put rfl).put rfl
            exact ⟨0 + 1, by go_num, by omega, by rw [hpk.out]; exact (hB.out.keep hb5).set H, Below.trans (hbw.out.trans hb5) (hX.below (hbw.out.trans hb5).size (fun b e => by have e' : b = gj := e; have := hgw.out; omega)), (hrw.out.keep hb5).keepx hX (fun b o e h0 hb => by cases e; exact hbj.out hb)⟩
          case measure => simp [intOf]
        · have hpk : Hid (seqH F room (0 + 1) = P) := by refine (?_ : _ = _); rw [hnext.out]; unfold Jl.pick; rw [if_neg hlt]
          have hB5 : Hid (∀ u, Bw wr u → u.cell? ⟨gj, 3, none⟩ = some (.int .u64 (P.n : Int))) := fun u ku => (hB.out.keep ku).c 3
          have hlt2 : decide (P.n < H.n) = false := by rw [decide_eq_false_iff_not]; exact hlt
          have hlt3 : decide ((P.n : Int) < (H.n : Int)) = false := by rw [decide_eq_false_iff_not]; omega
          clear hlt
          go_wp2_with (go_at_call 56; refine HH.out.mono ?_; rintro e w5 ⟨rfl, hb5⟩; have c3 := hB5.out w5 hb5)
          go_roundw
          case rel => exact ⟨0 + 1, by go_num, by omega, by rw [hpk.out]; exact hB.out.keep hb5, hbw.out.trans hb5, hrw.out.keep hb5⟩
          case measure => simp [intOf]
    · subst hi1
      obtain ⟨H, hH⟩ : ∃ H, Hid (Jl.hed (fun j => F (64 * 1 + j)) 1 room = H) := ⟨_, rfl⟩
      obtain ⟨P, hP⟩ : ∃ P, Hid (seqH F room 1 = P) := ⟨_, rfl⟩
      have hnext : Hid (seqH F room (1 + 1) = Jl.pick P H) := by refine (?_ : _ = _); rw [seqH, hH.out, hP.out]
      replace hB : Hid (RjB wr gj g r0 rc P) := by rw [← hP.out]; exact hB.out
      have HH : Hid (Calls Try.prog 56 #[.slice (some ⟨b1, o1 + 64, none⟩) 64 (c - 64), .int .u64 1, .int .i64 (room : Int)] wr fun e w' => e = .returned (headT H) ∧ Bw wr w') := by
        have h1 := rhead_any b1 (o1 + 64) (c - 64) 1 room (fun j => F (64 * 1 + j)) (by omega) (by have := hNc.out; omega) (by have := hrf.out; omega) wr (by have h2 := row_sub15 hrw.out (p := 64 * 1) (q := 64) (by omega); simpa using h2)
        rw [hH.out] at h1
        exact h1
      have c3 := hB.out.c 3
      have c4 := hB.out.c 4
      have c5 := hB.out.c 5
      have z3 := hB.out.fz 3
      have z4 := hB.out.fz 4
      have z5 := hB.out.fz 5
      replace c3 : wr.cell? ⟨gj, 3, none⟩ = some (.int .u64 (P.n : Int)) := c3
      replace c4 : wr.cell? ⟨gj, 4, none⟩ = some (.int .i64 (P.area : Int)) := c4
      replace c5 : wr.cell? ⟨gj, 5, none⟩ = some (.int .i64 (P.len : Int)) := c5
      clear c3 c4 c5 z3 z4 z5
      by_cases hn0 : H.n = 0
      · have hT : headT H = .tuple #[.int .u64 0, .int .i64 0, .int .i64 0, .bool false] := by unfold headT; rw [if_pos hn0]
        have hpk : Hid (seqH F room (1 + 1) = P) := by refine (?_ : _ = _); rw [hnext.out]; unfold Jl.pick; rw [if_neg (by omega)]
        rw [hT] at HH
        clear hT hn0
        go_wp2_with (go_at_call 56; refine HH.out.mono ?_; rintro e w5 ⟨rfl, hb5⟩)
        go_roundw
        case rel => exact ⟨1 + 1, by go_num, by omega, by rw [hpk.out]; exact hB.out.keep hb5, hbw.out.trans hb5, hrw.out.keep hb5⟩
        case measure => simp [intOf]
      · have hT : headT H = .tuple #[.int .u64 (H.n : Int), .int .i64 (H.area : Int), .int .i64 (H.len : Int), .bool true] := by unfold headT; rw [if_neg hn0]
        rw [hT] at HH
        clear hT hn0
        by_cases hlt : P.n < H.n
        · have hpk : Hid (seqH F room (1 + 1) = H) := by refine (?_ : _ = _); rw [hnext.out]; unfold Jl.pick; rw [if_pos hlt]
          have hB5 : Hid (∀ u, Bw wr u → (u.cell? ⟨gj, 3, none⟩ = some (.int .u64 (P.n : Int)) ∧ u.cell? ⟨gj, 4, none⟩ = some (.int .i64 (P.area : Int)) ∧ u.cell? ⟨gj, 5, none⟩ = some (.int .i64 (P.len : Int))) ∧ u.frozen? ⟨gj, 3, none⟩ = false ∧ u.frozen? ⟨gj, 4, none⟩ = false ∧ u.frozen? ⟨gj, 5, none⟩ = false) := fun u ku => by
            have h1 := hB.out.keep ku
            exact ⟨⟨h1.c 3, h1.c 4, h1.c 5⟩, h1.fz 3, h1.fz 4, h1.fz 5⟩
          have hlt2 : (P.n : Int) < (H.n : Int) := by omega
          go_wp2_with (go_at_call 56; refine HH.out.mono ?_; rintro e w5 ⟨rfl, hb5⟩; obtain ⟨⟨c3, c4, c5⟩, z3, z4, z5⟩ := hB5.out w5 hb5)
          go_roundw
          case rel =>
            have hX : Bx (· = gj) w5 (((w5.setCell ⟨gj, 3, none⟩ (.int .u64 (H.n : Int))).setCell ⟨gj, 4, none⟩ (.int .i64 (H.area : Int))).setCell ⟨gj, 5, none⟩ (.int .i64 (H.len : Int))) := (((Bx.refl (· = gj) w5).put rfl).put rfl).put rfl
            exact ⟨1 + 1, by go_num, by omega, by rw [hpk.out]; exact (hB.out.keep hb5).set H, Below.trans (hbw.out.trans hb5) (hX.below (hbw.out.trans hb5).size (fun b e => by have e' : b = gj := e; have := hgw.out; omega)), (hrw.out.keep hb5).keepx hX (fun b o e h0 hb => by cases e; exact hbj.out hb)⟩
          case measure => simp [intOf]
        · have hpk : Hid (seqH F room (1 + 1) = P) := by refine (?_ : _ = _); rw [hnext.out]; unfold Jl.pick; rw [if_neg hlt]
          have hB5 : Hid (∀ u, Bw wr u → u.cell? ⟨gj, 3, none⟩ = some (.int .u64 (P.n : Int))) := fun u ku => (hB.out.keep ku).c 3
          have hlt2 : decide (P.n < H.n) = false := by rw [decide_eq_false_iff_not]; exact hlt
          have hlt3 : decide ((P.n : Int) < (H.n : Int)) = false := by rw [decide_eq_false_iff_not]; omega
          clear hlt
          go_wp2_with (go_at_call 56; refine HH.out.mono ?_; rintro e w5 ⟨rfl, hb5⟩; have c3 := hB5.out w5 hb5)
          go_roundw
          case rel => exact ⟨1 + 1, by go_num, by omega, by rw [hpk.out]; exact hB.out.keep hb5, hbw.out.trans hb5, hrw.out.keep hb5⟩
          case measure => simp [intOf]
    · subst hi2
      rw [seqH_two] at hB
      obtain ⟨hd0, hho⟩ : ∃ h, Hid (Jl.hold F room = h) := ⟨_, rfl⟩
      rw [hho.out] at hB
      have hfit := Jl.hold_fit hFb.out room
      rw [hho.out] at hfit
      have harea : hd0.area ≤ 1 := hfit.2.1
      have hlen : hd0.len ≤ room := hfit.2.2
      have hHo : Hid (Jl.holds S r0 rc = hd0) := by
        refine (?_ : _ = _)
        unfold Jl.holds
        rw [← hho.out, hroom.out, hF.out]
      clear hfit
      have c4 : wr.cell? ⟨gj, 4, none⟩ = some (.int .i64 (hd0.area : Int)) := hB.out.c 4
      have c5 : wr.cell? ⟨gj, 5, none⟩ = some (.int .i64 (hd0.len : Int)) := hB.out.c 5
      have hf1 : Hid (64 ≤ room) := by
        have e1 := hhf.out
        have e2 : Jl.half rc = (rc - 2) / 2 := rfl
        have := hrf.out
        exact (by omega : 64 ≤ room)
      rcases (by omega : hd0.area = 0 ∨ hd0.area = 1) with hA0 | hA1
      · have hfr : Hid (hd0.area = 0) := hA0
        rw [hA0] at c4
        have HS : Hid (∀ n', n' = hd0.len → Calls Try.prog 57 #[.slice (some ⟨b1, o1 + 128, none⟩) n' (c - 128)] wr fun e w' => SplV wr (Jl.data (fun i => F (128 + i)) hd0.len) e w') := fun n' e => by
          subst e
          exact rsplit15_any b1 (o1 + 128) hd0.len (c - 128) (fun i => F (128 + i)) wr (by have := hrf.out; omega) (by have := hNc.out; have := hrf.out; omega) (by have := hcm.out; unfold maxLen at this; omega) (row_sub15 hrw.out (p := 128) (q := hd0.len) (by have := hrf.out; omega))
        have hD : Hid (Jl.dat S r0 rc = Jl.data (fun i => F (128 + i)) hd0.len) := by
          refine (?_ : _ = _)
          unfold Jl.dat
          rw [hHo.out]
          refine Jl.data_congr (fun i hi => ?_)
          rw [hF.out, hfr.out]
          unfold Jl.start
          rw [hhf.out]
          have := hrf.out
          congr 1
          omega
        have HN : Hid (Jl.spl (Jl.data (fun i => F (128 + i)) hd0.len) = none → ∀ u, Bw w u → ROpenV w g E (Jl.opn S r0 rc) (.returned (.tuple #[.pointer none, .int .i64 150])) u) := fun e u hu => by
          rw [← hE.out]
          have ho : Jl.opn S r0 rc = none := by unfold Jl.opn; rw [hD.out, e]; rfl
          rw [ho]
          exact ropenV_err hu
        have HY : Hid (∀ L v w6, Jl.spl (Jl.data (fun i => F (128 + i)) hd0.len) = some L → Bw wr w6 → LstAt wr.heap.size w6 v L → (w6.cell? ⟨gj, 6, none⟩ = some (.slice none 0 0) ∧ w6.frozen? ⟨gj, 6, none⟩ = false) ∧ ROpenV w g E (Jl.opn S r0 rc) (.returned (.tuple #[.pointer (some ⟨gj, 0, none⟩), .int .i64 0])) (w6.setCell ⟨gj, 6, none⟩ v)) := fun L v w6 e k6 hl => by
          rw [← hE.out]
          have hB6 := hB.out.keep k6
          refine ⟨⟨hB6.c 6, hB6.fz 6⟩, ?_⟩
          have hgl : gj < wr.heap.size := (Array.getElem?_eq_some_iff.1 hB.out).1
          have ho : Jl.opn S r0 rc = some ⟨r0, rc, hd0, L, false⟩ := by unfold Jl.opn; rw [hD.out, e, hHo.out]; rfl
          rw [ho]
          have hX : Bx (· = gj) w6 (w6.setCell ⟨gj, 6, none⟩ v) := (Bx.refl _ _).put rfl
          have hl2 : LstAt wr.heap.size (w6.setCell ⟨gj, 6, none⟩ v) v L := hl.keepx hX (fun b hb _ e => by have e' : b = gj := e; omega)
          obtain ⟨vs, l1, l2, l3, l4⟩ := hl2
          have hws : w.heap.size ≤ wr.heap.size := hbw.out.size
          refine ⟨Below.trans (hbw.out.trans k6) (hX.below (hbw.out.trans k6).size (fun b e => by have e' : b = gj := e; have := hgw.out; omega)), _, v, rfl, gj, rfl, ⟨?_, ⟨vs, own_low15 l1 hws, l2, l3.mono (fun b hb => Nat.le_trans hws hb), fun u hu b o n c e h0 hb => ?_⟩, hgw.out, ⟨h4, rcb, r0b.out, ?_, ?_⟩⟩⟩
          · exact heap_setCell_same w6 gj 6 _ _ _ hB6
          · rcases hb with hb | hb
            · have := l3 u hu b o n c e h0; omega
            · exact l4 u hu b o n c e h0 hb
          · show Jl.Fit hd0 (Jl.room rc)
            rw [hroom.out, ← hho.out]; exact Jl.hold_fit hFb.out room
          · have h1 := Jl.spl_len e
            rw [Jl.data_len] at h1
            have := hrf.out
            show L.length ≤ 4000000
            omega
        have m1 : (0 : Int) ≤ (hd0.len : Int) := Int.natCast_nonneg _
        have m2 : (128 : Int) + (hd0.len : Int) ≤ (c : Int) := by have := hNc.out; have := hrf.out; omega
        have m3 : ¬ c = 128 := by have := hNc.out; have := hrf.out; omega
        have m4 : room ≤ 2097152 := by have := hrf.out; omega
        have m5 : hd0.len ≤ 2097152 := by have := hrf.out; omega
        have m6 : (0 : Int) ≤ (room : Int) := Int.natCast_nonneg _
        clear hlen harea hA0 e60 e61 e62 e63
        go_wp2_with (go_at_call 57; refine (HS.out _ (by omega)).mono ?_; rintro e w6 ⟨hb6, hs6⟩; replace hs6 : Hid _ := hs6; rcases hs6.out with ⟨n6, rfl⟩ | ⟨L, v, n6, rfl, l6⟩; all_goals first | (obtain ⟨⟨c6, f6⟩, hfin⟩ := HY.out L v w6 n6 hb6 l6; replace hfin := (show Hid (ROpenV w g E (Jl.opn S r0 rc) _ _) from hfin); obtain ⟨A6, q6, vs6, e6, -⟩ := l6.mat; subst e6) | skip)
        · go_ret2
          exact HN.out n6 _ (hbw.out.trans hb6)
        · go_ret2
          exact hfin.out
      · have hfr : Hid (hd0.area = 1) := hA1
        rw [hA1] at c4
        have HS : Hid (∀ n', n' = hd0.len → Calls Try.prog 57 #[.slice (some ⟨b1, o1 + (128 + room), none⟩) n' (c - (128 + room))] wr fun e w' => SplV wr (Jl.data (fun i => F (128 + room + i)) hd0.len) e w') := fun n' e => by
          subst e
          exact rsplit15_any b1 (o1 + (128 + room)) hd0.len (c - (128 + room)) (fun i => F (128 + room + i)) wr (by have := hrf.out; omega) (by have := hNc.out; have := hrf.out; omega) (by have := hcm.out; unfold maxLen at this; omega) (row_sub15 hrw.out (p := 128 + room) (q := hd0.len) (by have := hrf.out; omega))
        have hD : Hid (Jl.dat S r0 rc = Jl.data (fun i => F (128 + room + i)) hd0.len) := by
          refine (?_ : _ = _)
          unfold Jl.dat
          rw [hHo.out]
          refine Jl.data_congr (fun i hi => ?_)
          rw [hF.out, hfr.out]
          unfold Jl.start
          rw [hhf.out]
          have := hrf.out
          congr 1
          omega
        have HN : Hid (Jl.spl (Jl.data (fun i => F (128 + room + i)) hd0.len) = none → ∀ u, Bw w u → ROpenV w g E (Jl.opn S r0 rc) (.returned (.tuple #[.pointer none, .int .i64 150])) u) := fun e u hu => by
          rw [← hE.out]
          have ho : Jl.opn S r0 rc = none := by unfold Jl.opn; rw [hD.out, e]; rfl
          rw [ho]
          exact ropenV_err hu
        have HY : Hid (∀ L v w6, Jl.spl (Jl.data (fun i => F (128 + room + i)) hd0.len) = some L → Bw wr w6 → LstAt wr.heap.size w6 v L → (w6.cell? ⟨gj, 6, none⟩ = some (.slice none 0 0) ∧ w6.frozen? ⟨gj, 6, none⟩ = false) ∧ ROpenV w g E (Jl.opn S r0 rc) (.returned (.tuple #[.pointer (some ⟨gj, 0, none⟩), .int .i64 0])) (w6.setCell ⟨gj, 6, none⟩ v)) := fun L v w6 e k6 hl => by
          rw [← hE.out]
          have hB6 := hB.out.keep k6
          refine ⟨⟨hB6.c 6, hB6.fz 6⟩, ?_⟩
          have hgl : gj < wr.heap.size := (Array.getElem?_eq_some_iff.1 hB.out).1
          have ho : Jl.opn S r0 rc = some ⟨r0, rc, hd0, L, false⟩ := by unfold Jl.opn; rw [hD.out, e, hHo.out]; rfl
          rw [ho]
          have hX : Bx (· = gj) w6 (w6.setCell ⟨gj, 6, none⟩ v) := (Bx.refl _ _).put rfl
          have hl2 : LstAt wr.heap.size (w6.setCell ⟨gj, 6, none⟩ v) v L := hl.keepx hX (fun b hb _ e => by have e' : b = gj := e; omega)
          obtain ⟨vs, l1, l2, l3, l4⟩ := hl2
          have hws : w.heap.size ≤ wr.heap.size := hbw.out.size
          refine ⟨Below.trans (hbw.out.trans k6) (hX.below (hbw.out.trans k6).size (fun b e => by have e' : b = gj := e; have := hgw.out; omega)), _, v, rfl, gj, rfl, ⟨?_, ⟨vs, own_low15 l1 hws, l2, l3.mono (fun b hb => Nat.le_trans hws hb), fun u hu b o n c e h0 hb => ?_⟩, hgw.out, ⟨h4, rcb, r0b.out, ?_, ?_⟩⟩⟩
          · exact heap_setCell_same w6 gj 6 _ _ _ hB6
          · rcases hb with hb | hb
            · have := l3 u hu b o n c e h0; omega
            · exact l4 u hu b o n c e h0 hb
          · show Jl.Fit hd0 (Jl.room rc)
            rw [hroom.out, ← hho.out]; exact Jl.hold_fit hFb.out room
          · have h1 := Jl.spl_len e
            rw [Jl.data_len] at h1
            have := hrf.out
            show L.length ≤ 4000000
            omega
        have m1 : (0 : Int) ≤ (hd0.len : Int) := Int.natCast_nonneg _
        have m2 : (128 : Int) + (room : Int) + (hd0.len : Int) ≤ (c : Int) := by have := hNc.out; have := hrf.out; omega
        have m3 : ¬ c = 128 + room := by have := hNc.out; have := hrf.out; have := hf1.out; omega
        have m4 : room ≤ 2097152 := by have := hrf.out; omega
        have m5 : hd0.len ≤ 2097152 := by have := hrf.out; omega
        have m6 : (0 : Int) ≤ (room : Int) := Int.natCast_nonneg _
        clear hlen harea hA1 e60 e61 e62 e63
        go_wp2_with (go_at_call 57; refine (HS.out _ (by omega)).mono ?_; rintro e w6 ⟨hb6, hs6⟩; replace hs6 : Hid _ := hs6; rcases hs6.out with ⟨n6, rfl⟩ | ⟨L, v, n6, rfl, l6⟩; all_goals first | (obtain ⟨⟨c6, f6⟩, hfin⟩ := HY.out L v w6 n6 hb6 l6; replace hfin := (show Hid (ROpenV w g E (Jl.opn S r0 rc) _ _) from hfin); obtain ⟨A6, q6, vs6, e6, -⟩ := l6.mat; subst e6) | skip)
        · go_ret2
          exact HN.out n6 _ (hbw.out.trans hb6)
        · go_ret2
          exact hfin.out
end Go.Proofs.Ytppknadflmjefaa
