/- Proved: for every list of items and every number the statement PackBlocks answers true (the document's P12.4: every Blocks, stopped behind so many pieces, and gone over from the beginning again). -/
import Derived.Test.YtldkhbkgmiicbaaGreatDoorBu42
import Derived.Test.YtldkhbkgmiicbaaGreatDoorBu44
import Derived.Test.YtldkhbkgmiicbaaGreatDoorBu7
import Derived.Test.YtldkhbkgmiicbaaGreatDoorBu43
import Derived.Test.YtldkhbkgmiicbaaGreatDoorCards
import Derived.Test.YtldkhbkgmiicbaaGreatDoorTie
import Derived.ShutString
import Derived.ChangeOld
import Derived.SevenTiedAt
namespace Go.Proofs.YtldkhbkgmiicbaaGreatDoor.packBlocks
open Go.ChangeShapes Go.WideShapes Go.ChangeAt Go.RowKit Go.Deep
set_option linter.unusedVariables false

open Go.Deep
set_option linter.unusedSimpArgs false
attribute [local go_sem] Oper.semAt_some eq_nilFunc12
theorem pce_len {V : Pk.B} {nb k : Nat} (h : V.length = 512 * nb) (hk : k < nb) : (Pk.pce V k).length = 512 := by
  unfold Pk.pce
  rw [List.length_take, List.length_drop]; omega
theorem row_pce {w : World} {q : Nat} {V : Pk.B} {nb k p : Nat} (h : V.length = 512 * nb) (hk : k < nb) (hr : RowAt w (some ⟨q, 0, none⟩) (512 * nb) (Hd.rowF V)) (hp : 512 * k = p) : RowAt w (some ⟨q, p, none⟩) 512 (Hd.rowF (Pk.pce V k)) := by
  subst hp
  have h1 := rowat_cutz (q := 512 * k) (by omega) hr (512 * k) (.inl (by omega))
  exact rowat_take (q := 512) (by omega) h1
theorem frozen_drewN12 (w : World) (a : Addr) : ∀ n, (w.drewN n).frozen? a = w.frozen? a
  | 0 => rfl
  | n + 1 => frozen_drewN12 w a n
theorem heap_drewN12 (w : World) : ∀ (n D : Nat), (w.drewN n).heap[D]? = w.heap[D]?
  | 0, _ => rfl
  | n + 1, D => heap_drewN12 w n D
theorem below_drewN {n : Nat} {w : World} (q : Nat) : Below n w (w.drewN q) := by
  induction q with
  | zero => exact Below.refl _ _
  | succ q ih => exact ih.drew
set_option maxRecDepth 100000 in
set_option maxHeartbeats 8000000 in
theorem blocks_law (a0 : Option Addr) (len0 cap0 : Nat) (L0 : List Tr.Iv) (stop : Int) (w : World) (hk : KTAt w) (w0 : InIts w a0 len0 cap0 L0) :
    CallsIn Fence.wide 10 Tryz.prog 4 #[.slice a0 len0 cap0, .int .i64 stop] w fun e w' => e = .returned (.bool true) ∧ Below w.heap.size w w' := by
  obtain ⟨hlen, hits, hle, hroom, hnil⟩ := w0
  have HK : Hid (KTAt w) := hk
  clear hk
  have HNL : Hid (L0.length = len0) := hlen
  have HI : Hid (ItsAt w a0 L0) := hits
  have HLent : Hid (∀ u, Bw w u → Calls Tryz.prog 8 #[.slice a0 len0 cap0] u fun e w' => ∃ g c M, e = .returned (.slice (some ⟨g, 0, none⟩) len0 c) ∧ Tr.its M = Tr.its L0 ∧ LentAt w' g c M ∧ u.heap.size ≤ g ∧ Bw u w') := fun u hu => by
    have := lent12_any a0 cap0 L0 (by rw [HNL.out]; omega) u (HI.out.keep hu)
    rwa [HNL.out] at this
  obtain ⟨V, vi, er, hR⟩ : ∃ r i er, Hid (Pk.wr (Tr.its L0) = (r, i, er)) := ⟨_, _, _, show Pk.wr (Tr.its L0) = _ from rfl⟩
  have hVl : V.length ≤ 131072 := by have := Pk.wr_len (Tr.its L0); rw [hR.out] at this; exact this
  obtain ⟨l, hl⟩ : ∃ l, Hid (V.length = l) := ⟨_, rfl⟩
  rw [hl.out] at hVl
  have HB : Hid (∀ u g c M, Bw w u → Tr.its M = Tr.its L0 → LentAt u g c M → Calls Tryz.prog 14 #[.slice (some ⟨g, 0, none⟩) len0 c] u fun e w' => (∃ gf lb nb, e = .returned (.func (.func gf) #[] lb) ∧ IterAt w' gf lb V nb) ∧ Bw u w') := fun u g c M hu he hl' => by
    have hml : M.length = len0 := by have := congrArg List.length he; rwa [Tr.its_len, Tr.its_len, HNL.out] at this
    have := blocks_any (some ⟨g, 0, none⟩) c M (by omega) (by have := hl'.room; omega) u hl'.its (HK.out.keep hu)
    rw [hml] at this
    refine this.mono fun e w' ⟨h, h3⟩ => ⟨?_, h3⟩
    unfold BlkEnds at h
    rw [he, hR.out] at h
    exact h
  have HRf : Hid (∀ u, Bw w u → Calls Tryz.prog 11 #[.slice a0 len0 cap0] u fun e w' => (∃ A c', e = .returned (.tuple #[.slice A l c', .int .i64 (vi : Int), .int .i64 er]) ∧ RowAt w' A l (Hd.rowF V) ∧ l ≤ c' ∧ (A = none ∨ ∃ q, A = some ⟨q, 0, none⟩ ∧ q < w'.heap.size)) ∧ Bw u w') := fun u hu => by
    have := rwrite_any a0 cap0 L0 (by rw [HNL.out]; omega) (by rw [HNL.out]; exact hle) u (HI.out.keep hu)
    rw [HNL.out] at this
    refine this.mono fun e w' ⟨⟨v, h1, h2⟩, h3⟩ => ⟨?_, h3⟩
    rw [hR.out] at h1 h2
    dsimp only at h1 h2
    obtain ⟨A, c', rfl, hr, -⟩ := own_rowat12 h2
    rw [hl.out] at h1 hr h2
    refine ⟨A, c', h1, hr, ?_, ?_⟩
    · rcases h2.2 with ⟨e1, _⟩ | ⟨g, cap, cur, e1, _, _, h5, _⟩
      · cases e1; omega
      · cases e1; exact h5
    · rcases h2.2 with ⟨e1, _⟩ | ⟨g, cap, cur, e1, _, h5, _⟩
      · cases e1; exact .inl rfl
      · cases e1; exact .inr ⟨g, rfl, (Array.getElem?_eq_some_iff.1 h5).1⟩
  clear hlen hits hnil
  refine callsIn_of_wp_marks Tryz.func4 rfl trivial ?_ rfl
  simp only [Tryz.ntmps4, List.size_toArray, List.length_cons, List.length_nil, Nat.reduceAdd, Nat.reduceSub, Array.replicate_succ, Array.replicate_zero, List.push_toArray, List.append_toArray, List.nil_append, List.cons_append]
  have hbA : Bw w ((w.alloc (.cells #[.int .i64 stop] 3)).alloc (.cells #[.bool false] 4)) := bw_alloc7 (bw_alloc7 (Bw.refl _) _) _
  gi_wp2_with (first
    | (refine ⟨trivial, ?_⟩; gi_at_call 11; refine (callsIn_wide.2 (HRf.out _ hbA)).mono ?_; rintro e w1 ⟨⟨Aw, cw, rfl, hrow1, hcw, hAw⟩, hw1⟩; have hbB : Bw w1 (w1.alloc (.cells #[.slice Aw l cw] 24)) := bw_alloc7 (Bw.refl _) _)
    | (refine ⟨trivial, ?_⟩; gi_at_call 8; refine (callsIn_wide.2 (HLent.out _ ((hbA.trans hw1).trans hbB))).mono ?_; rintro e w2 ⟨g1, c1, M1, rfl, he1, hl1, -, hw2⟩)
    | (refine ⟨trivial, ?_⟩; gi_at_call 14; refine (callsIn_wide.2 (HB.out _ g1 c1 M1 (((hbA.trans hw1).trans hbB).trans hw2) he1 hl1)).mono ?_; rintro e w3 ⟨⟨gf, lb, nb, rfl, hIt⟩, hw3⟩))
  have z1 : w.heap.size + 2 ≤ w1.heap.size := by have := hw1.size; simp at this; omega
  have z2 : w1.heap.size + 1 ≤ w2.heap.size := by have := hw2.size; simp at this; omega
  have z3 : w1.heap.size + 1 ≤ w3.heap.size := Nat.le_trans z2 hw3.size
  have c0 := new_cell8 w (.int .i64 stop) 3
  have c1' := new_cell8 (w.alloc (.cells #[.int .i64 stop] 3)) (.bool false) 4
  rw [World.size_alloc] at c1'
  have c2 := new_cell8 w1 (.slice Aw l cw) 24
  have c3 := new_cell8 w3 (.int .i64 0) 3
  have hw13 : Bw (w1.alloc (.cells #[.slice Aw l cw] 24)) w3 := hw2.trans hw3
  have HS : Hid (w3.cell? ⟨w.heap.size, 0, none⟩ = some (.int .i64 stop)) := by
    show _ = _
    rw [hw13.cell (p := ⟨w.heap.size, 0, none⟩) (by simp; omega)]
    refine kept_cell8 _ ?_
    rw [hw1.cell (p := ⟨w.heap.size, 0, none⟩) (by simp only [World.size_alloc]; omega)]
    exact kept_cell8 _ c0.1
  have HR : Hid (w3.cell? ⟨w.heap.size + 1, 0, none⟩ = some (.bool false)) := by
    show _ = _
    rw [hw13.cell (p := ⟨w.heap.size + 1, 0, none⟩) (by simp; omega)]
    refine kept_cell8 _ ?_
    rw [hw1.cell (p := ⟨w.heap.size + 1, 0, none⟩) (by simp)]
    exact c1'.1
  have HRF : Hid (w3.frozen? ⟨w.heap.size + 1, 0, none⟩ = false) := by
    show _ = _
    rw [hw13.frozen (p := ⟨w.heap.size + 1, 0, none⟩) (by simp; omega)]
    refine kept_froz8 _ (v := .bool false) ?_ ?_
    · rw [hw1.cell (p := ⟨w.heap.size + 1, 0, none⟩) (by simp)]; exact c1'.1
    · rw [hw1.frozen (p := ⟨w.heap.size + 1, 0, none⟩) (by simp)]; exact c1'.2
  have HW : Hid (w3.cell? ⟨w1.heap.size, 0, none⟩ = some (.slice Aw l cw)) := by
    show _ = _
    rw [hw13.cell (p := ⟨w1.heap.size, 0, none⟩) (by simp)]
    exact c2.1
  have HRow : Hid (RowAt w3 Aw l (Hd.rowF V)) := (hrow1.keep hbB).keep hw13
  have HB0 : Hid (Below w.heap.size w w3) := ((hbA.trans hw1).trans hbB).trans hw13
  have HLen : Hid (l = 512 * nb) := by show _ = _; rw [← hl.out]; exact hIt.len
  have HVl : Hid (V.length = 512 * nb) := hIt.len
  have hnb : nb ≤ 256 := by have := HLen.out; omega
  have HEnt : Hid (∀ args u, (callFunc gf args).run Tryz.prog u = .ok (.enter gf args) u) := hIt.enters
  have HSeq : Hid (∀ W, Below w3.heap.size w3 W → SeqAt Fence.wide 9 Tryz.prog gf lb (fun x : Nat => #[.slice (some ⟨x, 0, none⟩) 512 512]) (fun A B => Below w3.heap.size A B) (PieceAt W.heap.size V nb) (fun xs => xs.length = nb) (fun pre => pre.length ≤ nb) W) := hIt.seq
  have HSa : Hid (∀ (k p x q ca : Nat) (u : World), k < nb → 512 * k = p → BrkAt u x (Pk.pce V k) → RowAt u (some ⟨q, 0, none⟩) l (Hd.rowF V) → Calls Tryz.prog 12 #[.slice (some ⟨x, 0, none⟩) 512 512, .slice (some ⟨q, p, none⟩) 512 ca] u fun e w' => e = .returned (.bool true) ∧ ∃ m, w' = u.drewN m) := fun k p x q ca u hk hp h1 h2 => by
    refine (same12_any (some ⟨x, 0, none⟩) (some ⟨q, p, none⟩) 512 512 512 ca _ _ (by omega) (by omega) u (h1.row (pce_len HVl.out hk)) (row_pce HVl.out hk (by rw [← HLen.out]; exact h2) hp)).mono fun e w' ⟨ht, m, hm⟩ => ⟨?_, m, hm⟩
    obtain ⟨y, rfl, hy⟩ := ht
    rw [hy.2 ⟨rfl, fun _ _ => rfl⟩]
  clear c0 c1' c2 hw1 hw2 hw3 hw13 hIt hrow1 hl1 he1 hbA hbB
  obtain ⟨N, hN⟩ : ∃ N, Hid (w3.heap.size = N) := ⟨_, rfl⟩
  have hNs : (w3.alloc (.cells #[.int .i64 0] 3)).heap.size = N + 1 := by rw [World.size_alloc, hN.out]
  refine' range_at rfl (by omega) (gf := gf) (lb := lb) rfl trivial HEnt.out (HSeq.out (w3.alloc (.cells #[.int .i64 0] 3)) ((Below.refl _ w3).alloc (Nat.le_refl _) _)) belowK_t (belowK_b (by simp)) (Below.refl _ _) (fun _ => rfl) ?hat
    (fun pre W => (W.cell? ⟨w3.heap.size, 0, none⟩ = some (.int .i64 (pre.length : Int)) ∧ W.frozen? ⟨w3.heap.size, 0, none⟩ = false) ∧ Below w3.heap.size w3 W)
    (fun c pre W => c = .exit 0 ∧ (pre.length : Int) = stop ∧ W.cell? ⟨w3.heap.size, 0, none⟩ = some (.int .i64 (pre.length : Int)) ∧ W.frozen? ⟨w3.heap.size, 0, none⟩ = false ∧ Below w3.heap.size w3 W)
    (OwnFrom.and (Own.from (fun s A B row hs hg hr => ⟨cell_kept hs.1 hg hr, (frozen_kept hs.1 hg hr).trans hs.2⟩) _) (ownFrom_below (Nat.le_refl _) (by simp)))
    (fun c s A B row hs hg hr => ⟨hs.1, hs.2.1, cell_kept hs.2.2.1 hg (fun r e => (hr r e).2), (frozen_kept hs.2.2.1 hg (fun r e => (hr r e).2)).trans hs.2.2.2.1, ownFrom_below (Nat.le_refl _) (by simp) s A B row hs.2.2.2.2 hg hr⟩)
    ⟨⟨c3.1, c3.2⟩, (Below.refl _ w3).alloc (Nat.le_refl _) _⟩
    _ ?assign ?body ?done ?stop
  case hat =>
    intro pre x W l o o' hl hlo hoc ⟨h1, h2, h3⟩
    refine ⟨h1, (World.putObj_heap_other (fun e => ?_)).trans h2, h3⟩
    unfold BrkAt at h2
    rw [e, hlo] at h2
    cases h2
    cases hoc
  case assign =>
    intro lp x W K hK
    gi_wp2
    exact hK
  case body =>
    rintro lp pre x W ⟨⟨hc, hf⟩, hB⟩ ⟨hx0, hxB, hlt⟩
    obtain ⟨k, hkl⟩ : ∃ k, Hid (pre.length = k) := ⟨_, rfl⟩
    have hlk : Hid ((pre ++ [x]).length = k + 1) := by show _ = _; rw [List.length_append, hkl.out]; rfl
    rw [hkl.out] at hc hlt hxB
    obtain ⟨p, hp⟩ : ∃ p, Hid (512 * k = p) := ⟨_, rfl⟩
    have hll := HLen.out
    have hpp := hp.out
    have hp1 : 512 * (k : Int) = (p : Int) := by omega
    have k0 : (0 : Int) ≤ (k : Int) := Int.natCast_nonneg _
    have k1 : (k : Int) < 256 := by omega
    have p0 : (0 : Int) ≤ (p : Int) := Int.natCast_nonneg _
    have p1 : (p : Int) + 512 ≤ (cw : Int) := by omega
    have p2 : (p : Int) ≤ 131072 := by omega
    have p3 : decide ((l : Int) < (p : Int) + 512) = false := by rw [decide_eq_false_iff_not]; omega
    have p4 : p + 512 - p = 512 := by omega
    have p5 : ¬ cw = p := by omega
    have hrW : RowAt W Aw l (Hd.rowF V) := HRow.out.keep hB
    obtain ⟨q, rfl⟩ : ∃ q, Aw = some ⟨q, 0, none⟩ := by
      rcases hAw with rfl | ⟨q, h, _⟩
      · rcases hrW.1 with h0 | ⟨b, o, h0, _⟩
        · omega
        · cases h0
      · exact ⟨q, h⟩
    have q1 := HS.out
    have q2 := HR.out
    have q3 := HRF.out
    have q4 := HW.out
    rw [← hB.cell (p := ⟨w.heap.size, 0, none⟩) (show w.heap.size < _ by omega)] at q1
    rw [← hB.cell (p := ⟨w.heap.size + 1, 0, none⟩) (show w.heap.size + 1 < _ by omega)] at q2
    rw [← hB.frozen (p := ⟨w.heap.size + 1, 0, none⟩) (show w.heap.size + 1 < _ by omega)] at q3
    rw [← hB.cell (p := ⟨w1.heap.size, 0, none⟩) (show w1.heap.size < _ by omega)] at q4
    obtain ⟨cx, fx⟩ := hxB.cell (c := 0) (by rw [pce_len HVl.out hlt]; decide)
    obtain ⟨cv, hcv⟩ : ∃ c, Hid (Hd.rowF (Pk.pce V k) 0 = c) := ⟨_, rfl⟩
    rw [hcv.out] at cx
    have hx1 : w3.heap.size + 1 ≤ x := by rw [World.size_alloc] at hx0; exact hx0
    have hxN : x ≠ w3.heap.size := by omega
    have hxS : x ≠ w.heap.size := by omega
    have hxR : x ≠ w.heap.size + 1 := by omega
    have hxW : x ≠ w1.heap.size := by omega
    clear hll hpp
    show Code.wpIn _ _ _ _ _ _ _
    gi_wp2_with (refine ⟨trivial, ?_⟩; gi_at_call 12; refine (CallsIn.inRound lp (callsIn_wide.2 (HSa.out k p x q _ _ hlt hp.out hxB hrW))).mono ?_; rintro e w4 ⟨rfl, m, hw4⟩; have hc4 : w4.cell? ⟨w3.heap.size, 0, none⟩ = some (.int .i64 (k : Int)) := (by rw [hw4, cell_drewN8]; exact hc); have hf4 : w4.frozen? ⟨w3.heap.size, 0, none⟩ = false := (by rw [hw4, frozen_drewN12]; exact hf); have cx4 : w4.cell? ⟨x, 0, none⟩ = some (.int .u8 cv) := (by rw [hw4, cell_drewN8]; exact cx); have fx4 : w4.frozen? ⟨x, 0, none⟩ = false := (by rw [hw4, frozen_drewN12]; exact fx); have q14 : w4.cell? ⟨w.heap.size, 0, none⟩ = some (.int .i64 stop) := (by rw [hw4, cell_drewN8]; exact q1); have hB4 : Below w3.heap.size w3 w4 := (by rw [hw4]; exact hB.trans (below_drewN m)); have hK4 : KeepsOthers W w4 := (by rw [hw4]; exact keeps_drewN8 W m); have hb4 : Below w3.heap.size W w4 := (by rw [hw4]; exact below_drewN m); have HD4 : Hid (∀ (D : Nat) (o : Obj), W.heap[D]? = some o → w4.heap[D]? = some o) := (fun D o h => by rw [hw4]; exact (heap_drewN12 W m D).trans h); clear hw4 hc hf cx fx q1 q2 q3 q4)
    · rename_i hst
      have hce : ∀ vx, ((w4.setCell ⟨x, 0, none⟩ vx).cell? ⟨w3.heap.size, 0, none⟩) = some (.int .i64 (k : Int)) := fun vx => (World.cell?_of_block (heap_setCell_other w4 ⟨x, 0, none⟩ w3.heap.size _ (Ne.symm hxN))).trans hc4
      refine ⟨hK4.trans ((KeepsOthers.setCell _ _ _).trans (KeepsOthers.setCell _ _ _)), rfl, ?_, ?_, ?_, ?_⟩
      · rw [hlk.out]; have := eq_of_beq hst; omega
      · rw [World.cell?_setCell_same' _ _ _ (by rw [hce]; rfl), hlk.out]; rfl
      · rw [World.frozen?_setCell, World.frozen?_setCell]; exact hf4
      · exact (hB4.setCell (p := ⟨x, 0, none⟩) (by show w3.heap.size ≤ x; omega) _).setCell (p := ⟨w3.heap.size, 0, none⟩) (Nat.le_refl _) _
    · rename_i hst
      have hce : ∀ vx, ((w4.setCell ⟨x, 0, none⟩ vx).cell? ⟨w3.heap.size, 0, none⟩) = some (.int .i64 (k : Int)) := fun vx => (World.cell?_of_block (heap_setCell_other w4 ⟨x, 0, none⟩ w3.heap.size _ (Ne.symm hxN))).trans hc4
      refine ⟨hK4.trans ((KeepsOthers.setCell _ _ _).trans (KeepsOthers.setCell _ _ _)), (hb4.setCell (p := ⟨x, 0, none⟩) (by show w3.heap.size ≤ x; omega) _).setCell (p := ⟨w3.heap.size, 0, none⟩) (Nat.le_refl _) _, ⟨?_, ?_⟩, ?_⟩
      · rw [World.cell?_setCell_same' _ _ _ (by rw [hce]; rfl), hlk.out]; rfl
      · rw [World.frozen?_setCell, World.frozen?_setCell]; exact hf4
      · exact (hB4.setCell (p := ⟨x, 0, none⟩) (by show w3.heap.size ≤ x; omega) _).setCell (p := ⟨w3.heap.size, 0, none⟩) (Nat.le_refl _) _
  case done =>
    rintro D ys W hD hys ⟨⟨hc, hf⟩, hB⟩ hK2
    rw [World.size_alloc] at hD
    obtain ⟨m, hm⟩ : ∃ m, ys.length = m := ⟨_, rfl⟩
    rw [hm] at hc hys
    have hmn : m ≤ nb := by omega
    replace hys : Hid (m = nb) := hys
    clear hm
    have q1 := HS.out
    have q2 := HR.out
    have q3 := HRF.out
    have q4 := HW.out
    rw [← hB.cell (p := ⟨w.heap.size, 0, none⟩) (show w.heap.size < _ by omega)] at q1
    rw [← hB.cell (p := ⟨w.heap.size + 1, 0, none⟩) (show w.heap.size + 1 < _ by omega)] at q2
    rw [← hB.frozen (p := ⟨w.heap.size + 1, 0, none⟩) (show w.heap.size + 1 < _ by omega)] at q3
    rw [← hB.cell (p := ⟨w1.heap.size, 0, none⟩) (show w1.heap.size < _ by omega)] at q4
    have m0 : (0 : Int) ≤ (m : Int) := Int.natCast_nonneg _
    have m1 : (m : Int) ≤ 256 := by omega
    obtain ⟨pm, hpm⟩ : ∃ p, Hid (512 * m = p) := ⟨_, rfl⟩
    have hpp := hpm.out
    have hp1 : 512 * (m : Int) = (pm : Int) := by omega
    have hll := HLen.out
    have hys' := hys.out
    have e1 : ((pm : Int) != (l : Int)) = false := by rw [bne_eq_false_iff_eq]; omega
    clear hpp hll hys'
    have hcW : (W.setCell ⟨w3.heap.size, 0, none⟩ (.int .i64 0)).cell? ⟨w3.heap.size, 0, none⟩ = some (.int .i64 0) := World.cell?_setCell_same' _ _ _ (by rw [hc]; rfl)
    have hfW : (W.setCell ⟨w3.heap.size, 0, none⟩ (.int .i64 0)).frozen? ⟨w3.heap.size, 0, none⟩ = false := by rw [World.frozen?_setCell]; exact hf
    have hBW : Below w3.heap.size w3 (W.setCell ⟨w3.heap.size, 0, none⟩ (.int .i64 0)) := hB.setCell (p := ⟨w3.heap.size, 0, none⟩) (Nat.le_refl _) _
    have hDW : (W.setCell ⟨w3.heap.size, 0, none⟩ (.int .i64 0)).heap[D]? = some (.deferred (some [])) := (Below.heap_setCell W ⟨w3.heap.size, 0, none⟩ _ D (by show D ≠ w3.heap.size; omega)).trans hK2
    gi_wp2
    clear q1 q2 q3 q4 hc hf
    obtain ⟨V2, hV2⟩ : ∃ V2, V2 = W.setCell ⟨w3.heap.size, 0, none⟩ (.int .i64 0) := ⟨_, rfl⟩
    rw [← hV2] at hcW hfW hBW hDW ⊢
    have hVB : w3.heap.size < V2.heap.size := block_lt_of_cell hcW
    have hDV : D < V2.heap.size := (Array.getElem?_eq_some_iff.1 hDW).1
    clear hV2 hB hK2
    refine' range_at rfl (by omega) (gf := gf) (lb := lb) rfl trivial HEnt.out (HSeq.out V2 hBW) belowK_t (belowK_b (by omega)) (Below.refl _ _) (fun _ => rfl) ?hat2a
      (fun pre W => ((W.cell? ⟨w3.heap.size, 0, none⟩ = some (.int .i64 (pre.length : Int)) ∧ W.frozen? ⟨w3.heap.size, 0, none⟩ = false) ∧ Below w3.heap.size w3 W) ∧ W.heap[D]? = some (.deferred (some [])))
      (fun c pre W => False)
      (OwnFrom.and (OwnFrom.and (Own.from (fun s A B row hs hg hr => ⟨cell_kept hs.1 hg hr, (frozen_kept hs.1 hg hr).trans hs.2⟩) _) (ownFrom_below (Nat.le_refl _) (by omega))) (own_heap8 (by omega)))
      (fun c s A B row hs hg hr => hs)
      ⟨⟨⟨hcW, hfW⟩, hBW⟩, hDW⟩
      _ ?assign2a ?body2a ?done2a ?stop2a
    case hat2a =>
      intro pre x W l o o' hl hlo hoc ⟨h1, h2, h3⟩
      refine ⟨h1, (World.putObj_heap_other (fun e => ?_)).trans h2, h3⟩
      unfold BrkAt at h2
      rw [e, hlo] at h2
      cases h2
      cases hoc
    case assign2a =>
      intro lp x W K hK
      gi_wp2
      exact hK
    case stop2a =>
      rintro D2 c pre W hD hpre hno
      exact hno.elim
    case done2a =>
      clear hcW hfW hBW hDW
      rintro D2 ys W hDD hys ⟨⟨⟨hc, hf⟩, hB⟩, hD1⟩ hK2
      rw [hys] at hc
      have q2 := HR.out
      have q3 := HRF.out
      have q4 := HW.out
      rw [← hB.cell (p := ⟨w.heap.size + 1, 0, none⟩) (show w.heap.size + 1 < _ by omega)] at q2
      rw [← hB.frozen (p := ⟨w.heap.size + 1, 0, none⟩) (show w.heap.size + 1 < _ by omega)] at q3
      rw [← hB.cell (p := ⟨w1.heap.size, 0, none⟩) (show w1.heap.size < _ by omega)] at q4
      have n0 : (0 : Int) ≤ (nb : Int) := Int.natCast_nonneg _
      have n1 : (nb : Int) ≤ 256 := by omega
      have n2 : 512 * (nb : Int) = (l : Int) := by have := HLen.out; omega
      have hr5 : (W.setCell ⟨w.heap.size + 1, 0, none⟩ (.bool true)).cell? ⟨w.heap.size + 1, 0, none⟩ = some (.bool true) := World.cell?_setCell_same' _ _ _ (by rw [q2]; rfl)
      have hd2 : (W.setCell ⟨w.heap.size + 1, 0, none⟩ (.bool true)).heap[D2]? = some (.deferred (some [])) := (Below.heap_setCell W ⟨w.heap.size + 1, 0, none⟩ _ D2 (by show D2 ≠ w.heap.size + 1; omega)).trans hK2
      have hd1 : (W.setCell ⟨w.heap.size + 1, 0, none⟩ (.bool true)).heap[D]? = some (.deferred (some [])) := (Below.heap_setCell W ⟨w.heap.size + 1, 0, none⟩ _ D (by show D ≠ w.heap.size + 1; omega)).trans hD1
      have hd3 : ((W.setCell ⟨w.heap.size + 1, 0, none⟩ (.bool true)).putObj D2 (.deferred none)).heap[D]? = some (.deferred (some [])) :=
        own_heap8 (β := Unit) (D := D) (B := D + 1) (Nat.lt_succ_self _) () _ _ (some D2) hd1 (grownBy_putObj' _ D2 _) (fun r e => by cases e; exact ⟨by omega, _, hd2, rfl⟩)
      have hr6 := cell_kept hr5 (grownBy_putObj' _ D2 (.deferred none)) (fun r e => by cases e; exact ⟨_, hd2, rfl⟩)
      have hr7 := cell_kept hr6 (grownBy_putObj' _ D (.deferred none)) (fun r e => by cases e; exact ⟨_, hd3, rfl⟩)
      have hB5 : Below w.heap.size w (W.setCell ⟨w.heap.size + 1, 0, none⟩ (.bool true)) := (HB0.out.trans (hB.mono (by omega))).setCell (p := ⟨w.heap.size + 1, 0, none⟩) (by simp) _
      have hB6 := hB5.trans (belowK_b (w := w) (Nat.le_refl _) _ D2 _ (.deferred none) (by omega) hd2 rfl rfl)
      have hB7 := hB6.trans (belowK_b (w := w) (Nat.le_refl _) _ D _ (.deferred none) (by omega) hd3 rfl rfl)
      gi_wp2
      refine ⟨by simp, .inl ⟨_, _, rfl, run_takeDeferred hd2, ?_⟩⟩
      refine ⟨by simp, .inl ⟨_, _, rfl, run_takeDeferred hd3, ?_⟩⟩
      refine ⟨.bool true, ?_, rfl, hB7⟩
      simp [results, Tryz.f4, go_sem, hr7]
    case body2a =>
      clear hcW hfW hBW hDW
      rintro lp pre x W ⟨⟨⟨hc, hf⟩, hB⟩, hD2⟩ ⟨hx0, hxB, hlt⟩
      obtain ⟨k, hkl⟩ : ∃ k, Hid (pre.length = k) := ⟨_, rfl⟩
      have hlk : Hid ((pre ++ [x]).length = k + 1) := by show _ = _; rw [List.length_append, hkl.out]; rfl
      rw [hkl.out] at hc hlt hxB
      obtain ⟨p, hp⟩ : ∃ p, Hid (512 * k = p) := ⟨_, rfl⟩
      have hll := HLen.out
      have hpp := hp.out
      have hp1 : 512 * (k : Int) = (p : Int) := by omega
      have k0 : (0 : Int) ≤ (k : Int) := Int.natCast_nonneg _
      have k1 : (k : Int) < 256 := by omega
      have p0 : (0 : Int) ≤ (p : Int) := Int.natCast_nonneg _
      have p1 : (p : Int) + 512 ≤ (cw : Int) := by omega
      have p2 : (p : Int) ≤ 131072 := by omega
      have p3 : decide ((l : Int) < (p : Int) + 512) = false := by rw [decide_eq_false_iff_not]; omega
      have p4 : p + 512 - p = 512 := by omega
      have p5 : ¬ cw = p := by omega
      have hrW : RowAt W Aw l (Hd.rowF V) := HRow.out.keep hB
      obtain ⟨q, rfl⟩ : ∃ q, Aw = some ⟨q, 0, none⟩ := by
        rcases hAw with rfl | ⟨q, h, _⟩
        · rcases hrW.1 with h0 | ⟨b, o, h0, _⟩
          · omega
          · cases h0
        · exact ⟨q, h⟩
      have q1 := HS.out
      have q2 := HR.out
      have q3 := HRF.out
      have q4 := HW.out
      rw [← hB.cell (p := ⟨w.heap.size, 0, none⟩) (show w.heap.size < _ by omega)] at q1
      rw [← hB.cell (p := ⟨w.heap.size + 1, 0, none⟩) (show w.heap.size + 1 < _ by omega)] at q2
      rw [← hB.frozen (p := ⟨w.heap.size + 1, 0, none⟩) (show w.heap.size + 1 < _ by omega)] at q3
      rw [← hB.cell (p := ⟨w1.heap.size, 0, none⟩) (show w1.heap.size < _ by omega)] at q4
      obtain ⟨cx, fx⟩ := hxB.cell (c := 0) (by rw [pce_len HVl.out hlt]; decide)
      obtain ⟨cv, hcv⟩ : ∃ c, Hid (Hd.rowF (Pk.pce V k) 0 = c) := ⟨_, rfl⟩
      rw [hcv.out] at cx
      have hx1 : w3.heap.size + 1 ≤ x := by omega
      have hxN : x ≠ w3.heap.size := by omega
      have hxS : x ≠ w.heap.size := by omega
      have hxR : x ≠ w.heap.size + 1 := by omega
      have hxW : x ≠ w1.heap.size := by omega
      clear hll hpp
      show Code.wpIn _ _ _ _ _ _ _
      gi_wp2_with (refine ⟨trivial, ?_⟩; gi_at_call 12; refine (CallsIn.inRound lp (callsIn_wide.2 (HSa.out k p x q _ _ hlt hp.out hxB hrW))).mono ?_; rintro e w4 ⟨rfl, m, hw4⟩; have hc4 : w4.cell? ⟨w3.heap.size, 0, none⟩ = some (.int .i64 (k : Int)) := (by rw [hw4, cell_drewN8]; exact hc); have hf4 : w4.frozen? ⟨w3.heap.size, 0, none⟩ = false := (by rw [hw4, frozen_drewN12]; exact hf); have cx4 : w4.cell? ⟨x, 0, none⟩ = some (.int .u8 cv) := (by rw [hw4, cell_drewN8]; exact cx); have fx4 : w4.frozen? ⟨x, 0, none⟩ = false := (by rw [hw4, frozen_drewN12]; exact fx); have q14 : w4.cell? ⟨w.heap.size, 0, none⟩ = some (.int .i64 stop) := (by rw [hw4, cell_drewN8]; exact q1); have hB4 : Below w3.heap.size w3 w4 := (by rw [hw4]; exact hB.trans (below_drewN m)); have hK4 : KeepsOthers W w4 := (by rw [hw4]; exact keeps_drewN8 W m); have hb4 : Below w3.heap.size W w4 := (by rw [hw4]; exact below_drewN m); have HD4 : Hid (∀ (D : Nat) (o : Obj), W.heap[D]? = some o → w4.heap[D]? = some o) := (fun D o h => by rw [hw4]; exact (heap_drewN12 W m D).trans h); clear hw4 hc hf cx fx q1 q2 q3 q4)
      refine ⟨hK4.trans (KeepsOthers.setCell _ _ _), hb4.setCell (p := ⟨w3.heap.size, 0, none⟩) (Nat.le_refl _) _, ⟨⟨?_, ?_⟩, hB4.setCell (p := ⟨w3.heap.size, 0, none⟩) (Nat.le_refl _) _⟩, (Below.heap_setCell w4 ⟨w3.heap.size, 0, none⟩ _ D (by show D ≠ w3.heap.size; omega)).trans (HD4.out D _ hD2)⟩
      · rw [World.cell?_setCell_same' _ _ _ (by rw [hc4]; rfl), hlk.out]; rfl
      · rw [World.frozen?_setCell]; exact hf4
  case stop =>
    rintro D c pre W hD hpre ⟨rfl, hst, hc, hf, hB⟩ hK2
    rw [World.size_alloc] at hD
    obtain ⟨m, hm⟩ : ∃ m, pre.length = m := ⟨_, rfl⟩
    rw [hm] at hc hst hpre
    have hmn : m ≤ nb := hpre
    replace hst : Hid ((m : Int) = stop) := hst
    clear hm
    by_cases hys : m = nb
    · replace hys : Hid (m = nb) := hys
      have q1 := HS.out
      have q2 := HR.out
      have q3 := HRF.out
      have q4 := HW.out
      rw [← hB.cell (p := ⟨w.heap.size, 0, none⟩) (show w.heap.size < _ by omega)] at q1
      rw [← hB.cell (p := ⟨w.heap.size + 1, 0, none⟩) (show w.heap.size + 1 < _ by omega)] at q2
      rw [← hB.frozen (p := ⟨w.heap.size + 1, 0, none⟩) (show w.heap.size + 1 < _ by omega)] at q3
      rw [← hB.cell (p := ⟨w1.heap.size, 0, none⟩) (show w1.heap.size < _ by omega)] at q4
      have m0 : (0 : Int) ≤ (m : Int) := Int.natCast_nonneg _
      have m1 : (m : Int) ≤ 256 := by omega
      obtain ⟨pm, hpm⟩ : ∃ p, Hid (512 * m = p) := ⟨_, rfl⟩
      have hpp := hpm.out
      have hp1 : 512 * (m : Int) = (pm : Int) := by omega
      have hll := HLen.out
      have hys' := hys.out
      have e1 : ((pm : Int) != (l : Int)) = false := by rw [bne_eq_false_iff_eq]; omega
      clear hpp hll hys'
      have hcW : (W.setCell ⟨w3.heap.size, 0, none⟩ (.int .i64 0)).cell? ⟨w3.heap.size, 0, none⟩ = some (.int .i64 0) := World.cell?_setCell_same' _ _ _ (by rw [hc]; rfl)
      have hfW : (W.setCell ⟨w3.heap.size, 0, none⟩ (.int .i64 0)).frozen? ⟨w3.heap.size, 0, none⟩ = false := by rw [World.frozen?_setCell]; exact hf
      have hBW : Below w3.heap.size w3 (W.setCell ⟨w3.heap.size, 0, none⟩ (.int .i64 0)) := hB.setCell (p := ⟨w3.heap.size, 0, none⟩) (Nat.le_refl _) _
      have hDW : (W.setCell ⟨w3.heap.size, 0, none⟩ (.int .i64 0)).heap[D]? = some (.deferred (some [])) := (Below.heap_setCell W ⟨w3.heap.size, 0, none⟩ _ D (by show D ≠ w3.heap.size; omega)).trans hK2
      gi_wp2
      clear q1 q2 q3 q4 hc hf
      obtain ⟨V2, hV2⟩ : ∃ V2, V2 = W.setCell ⟨w3.heap.size, 0, none⟩ (.int .i64 0) := ⟨_, rfl⟩
      rw [← hV2] at hcW hfW hBW hDW ⊢
      have hVB : w3.heap.size < V2.heap.size := block_lt_of_cell hcW
      have hDV : D < V2.heap.size := (Array.getElem?_eq_some_iff.1 hDW).1
      clear hV2 hB hK2
      refine' range_at rfl (by omega) (gf := gf) (lb := lb) rfl trivial HEnt.out (HSeq.out V2 hBW) belowK_t (belowK_b (by omega)) (Below.refl _ _) (fun _ => rfl) ?hat2b
        (fun pre W => ((W.cell? ⟨w3.heap.size, 0, none⟩ = some (.int .i64 (pre.length : Int)) ∧ W.frozen? ⟨w3.heap.size, 0, none⟩ = false) ∧ Below w3.heap.size w3 W) ∧ W.heap[D]? = some (.deferred (some [])))
        (fun c pre W => False)
        (OwnFrom.and (OwnFrom.and (Own.from (fun s A B row hs hg hr => ⟨cell_kept hs.1 hg hr, (frozen_kept hs.1 hg hr).trans hs.2⟩) _) (ownFrom_below (Nat.le_refl _) (by omega))) (own_heap8 (by omega)))
        (fun c s A B row hs hg hr => hs)
        ⟨⟨⟨hcW, hfW⟩, hBW⟩, hDW⟩
        _ ?assign2b ?body2b ?done2b ?stop2b
      case hat2b =>
        intro pre x W l o o' hl hlo hoc ⟨h1, h2, h3⟩
        refine ⟨h1, (World.putObj_heap_other (fun e => ?_)).trans h2, h3⟩
        unfold BrkAt at h2
        rw [e, hlo] at h2
        cases h2
        cases hoc
      case assign2b =>
        intro lp x W K hK
        gi_wp2
        exact hK
      case stop2b =>
        rintro D2 c pre W hD hpre hno
        exact hno.elim
      case done2b =>
        clear hcW hfW hBW hDW
        rintro D2 ys W hDD hys ⟨⟨⟨hc, hf⟩, hB⟩, hD1⟩ hK2
        rw [hys] at hc
        have q2 := HR.out
        have q3 := HRF.out
        have q4 := HW.out
        rw [← hB.cell (p := ⟨w.heap.size + 1, 0, none⟩) (show w.heap.size + 1 < _ by omega)] at q2
        rw [← hB.frozen (p := ⟨w.heap.size + 1, 0, none⟩) (show w.heap.size + 1 < _ by omega)] at q3
        rw [← hB.cell (p := ⟨w1.heap.size, 0, none⟩) (show w1.heap.size < _ by omega)] at q4
        have n0 : (0 : Int) ≤ (nb : Int) := Int.natCast_nonneg _
        have n1 : (nb : Int) ≤ 256 := by omega
        have n2 : 512 * (nb : Int) = (l : Int) := by have := HLen.out; omega
        have hr5 : (W.setCell ⟨w.heap.size + 1, 0, none⟩ (.bool true)).cell? ⟨w.heap.size + 1, 0, none⟩ = some (.bool true) := World.cell?_setCell_same' _ _ _ (by rw [q2]; rfl)
        have hd2 : (W.setCell ⟨w.heap.size + 1, 0, none⟩ (.bool true)).heap[D2]? = some (.deferred (some [])) := (Below.heap_setCell W ⟨w.heap.size + 1, 0, none⟩ _ D2 (by show D2 ≠ w.heap.size + 1; omega)).trans hK2
        have hd1 : (W.setCell ⟨w.heap.size + 1, 0, none⟩ (.bool true)).heap[D]? = some (.deferred (some [])) := (Below.heap_setCell W ⟨w.heap.size + 1, 0, none⟩ _ D (by show D ≠ w.heap.size + 1; omega)).trans hD1
        have hd3 : ((W.setCell ⟨w.heap.size + 1, 0, none⟩ (.bool true)).putObj D2 (.deferred none)).heap[D]? = some (.deferred (some [])) :=
          own_heap8 (β := Unit) (D := D) (B := D + 1) (Nat.lt_succ_self _) () _ _ (some D2) hd1 (grownBy_putObj' _ D2 _) (fun r e => by cases e; exact ⟨by omega, _, hd2, rfl⟩)
        have hr6 := cell_kept hr5 (grownBy_putObj' _ D2 (.deferred none)) (fun r e => by cases e; exact ⟨_, hd2, rfl⟩)
        have hr7 := cell_kept hr6 (grownBy_putObj' _ D (.deferred none)) (fun r e => by cases e; exact ⟨_, hd3, rfl⟩)
        have hB5 : Below w.heap.size w (W.setCell ⟨w.heap.size + 1, 0, none⟩ (.bool true)) := (HB0.out.trans (hB.mono (by omega))).setCell (p := ⟨w.heap.size + 1, 0, none⟩) (by simp) _
        have hB6 := hB5.trans (belowK_b (w := w) (Nat.le_refl _) _ D2 _ (.deferred none) (by omega) hd2 rfl rfl)
        have hB7 := hB6.trans (belowK_b (w := w) (Nat.le_refl _) _ D _ (.deferred none) (by omega) hd3 rfl rfl)
        gi_wp2
        refine ⟨by simp, .inl ⟨_, _, rfl, run_takeDeferred hd2, ?_⟩⟩
        refine ⟨by simp, .inl ⟨_, _, rfl, run_takeDeferred hd3, ?_⟩⟩
        refine ⟨.bool true, ?_, rfl, hB7⟩
        simp [results, Tryz.f4, go_sem, hr7]
      case body2b =>
        clear hcW hfW hBW hDW
        rintro lp pre x W ⟨⟨⟨hc, hf⟩, hB⟩, hD2⟩ ⟨hx0, hxB, hlt⟩
        obtain ⟨k, hkl⟩ : ∃ k, Hid (pre.length = k) := ⟨_, rfl⟩
        have hlk : Hid ((pre ++ [x]).length = k + 1) := by show _ = _; rw [List.length_append, hkl.out]; rfl
        rw [hkl.out] at hc hlt hxB
        obtain ⟨p, hp⟩ : ∃ p, Hid (512 * k = p) := ⟨_, rfl⟩
        have hll := HLen.out
        have hpp := hp.out
        have hp1 : 512 * (k : Int) = (p : Int) := by omega
        have k0 : (0 : Int) ≤ (k : Int) := Int.natCast_nonneg _
        have k1 : (k : Int) < 256 := by omega
        have p0 : (0 : Int) ≤ (p : Int) := Int.natCast_nonneg _
        have p1 : (p : Int) + 512 ≤ (cw : Int) := by omega
        have p2 : (p : Int) ≤ 131072 := by omega
        have p3 : decide ((l : Int) < (p : Int) + 512) = false := by rw [decide_eq_false_iff_not]; omega
        have p4 : p + 512 - p = 512 := by omega
        have p5 : ¬ cw = p := by omega
        have hrW : RowAt W Aw l (Hd.rowF V) := HRow.out.keep hB
        obtain ⟨q, rfl⟩ : ∃ q, Aw = some ⟨q, 0, none⟩ := by
          rcases hAw with rfl | ⟨q, h, _⟩
          · rcases hrW.1 with h0 | ⟨b, o, h0, _⟩
            · omega
            · cases h0
          · exact ⟨q, h⟩
        have q1 := HS.out
        have q2 := HR.out
        have q3 := HRF.out
        have q4 := HW.out
        rw [← hB.cell (p := ⟨w.heap.size, 0, none⟩) (show w.heap.size < _ by omega)] at q1
        rw [← hB.cell (p := ⟨w.heap.size + 1, 0, none⟩) (show w.heap.size + 1 < _ by omega)] at q2
        rw [← hB.frozen (p := ⟨w.heap.size + 1, 0, none⟩) (show w.heap.size + 1 < _ by omega)] at q3
        rw [← hB.cell (p := ⟨w1.heap.size, 0, none⟩) (show w1.heap.size < _ by omega)] at q4
        obtain ⟨cx, fx⟩ := hxB.cell (c := 0) (by rw [pce_len HVl.out hlt]; decide)
        obtain ⟨cv, hcv⟩ : ∃ c, Hid (Hd.rowF (Pk.pce V k) 0 = c) := ⟨_, rfl⟩
        rw [hcv.out] at cx
        have hx1 : w3.heap.size + 1 ≤ x := by omega
        have hxN : x ≠ w3.heap.size := by omega
        have hxS : x ≠ w.heap.size := by omega
        have hxR : x ≠ w.heap.size + 1 := by omega
        have hxW : x ≠ w1.heap.size := by omega
        clear hll hpp
        show Code.wpIn _ _ _ _ _ _ _
        gi_wp2_with (refine ⟨trivial, ?_⟩; gi_at_call 12; refine (CallsIn.inRound lp (callsIn_wide.2 (HSa.out k p x q _ _ hlt hp.out hxB hrW))).mono ?_; rintro e w4 ⟨rfl, m, hw4⟩; have hc4 : w4.cell? ⟨w3.heap.size, 0, none⟩ = some (.int .i64 (k : Int)) := (by rw [hw4, cell_drewN8]; exact hc); have hf4 : w4.frozen? ⟨w3.heap.size, 0, none⟩ = false := (by rw [hw4, frozen_drewN12]; exact hf); have cx4 : w4.cell? ⟨x, 0, none⟩ = some (.int .u8 cv) := (by rw [hw4, cell_drewN8]; exact cx); have fx4 : w4.frozen? ⟨x, 0, none⟩ = false := (by rw [hw4, frozen_drewN12]; exact fx); have q14 : w4.cell? ⟨w.heap.size, 0, none⟩ = some (.int .i64 stop) := (by rw [hw4, cell_drewN8]; exact q1); have hB4 : Below w3.heap.size w3 w4 := (by rw [hw4]; exact hB.trans (below_drewN m)); have hK4 : KeepsOthers W w4 := (by rw [hw4]; exact keeps_drewN8 W m); have hb4 : Below w3.heap.size W w4 := (by rw [hw4]; exact below_drewN m); have HD4 : Hid (∀ (D : Nat) (o : Obj), W.heap[D]? = some o → w4.heap[D]? = some o) := (fun D o h => by rw [hw4]; exact (heap_drewN12 W m D).trans h); clear hw4 hc hf cx fx q1 q2 q3 q4)
        refine ⟨hK4.trans (KeepsOthers.setCell _ _ _), hb4.setCell (p := ⟨w3.heap.size, 0, none⟩) (Nat.le_refl _) _, ⟨⟨?_, ?_⟩, hB4.setCell (p := ⟨w3.heap.size, 0, none⟩) (Nat.le_refl _) _⟩, (Below.heap_setCell w4 ⟨w3.heap.size, 0, none⟩ _ D (by show D ≠ w3.heap.size; omega)).trans (HD4.out D _ hD2)⟩
        · rw [World.cell?_setCell_same' _ _ _ (by rw [hc4]; rfl), hlk.out]; rfl
        · rw [World.frozen?_setCell]; exact hf4
    · replace hys : Hid (m ≠ nb) := hys
      have q1 := HS.out
      have q2 := HR.out
      have q3 := HRF.out
      have q4 := HW.out
      rw [← hB.cell (p := ⟨w.heap.size, 0, none⟩) (show w.heap.size < _ by omega)] at q1
      rw [← hB.cell (p := ⟨w.heap.size + 1, 0, none⟩) (show w.heap.size + 1 < _ by omega)] at q2
      rw [← hB.frozen (p := ⟨w.heap.size + 1, 0, none⟩) (show w.heap.size + 1 < _ by omega)] at q3
      rw [← hB.cell (p := ⟨w1.heap.size, 0, none⟩) (show w1.heap.size < _ by omega)] at q4
      have m0 : (0 : Int) ≤ (m : Int) := Int.natCast_nonneg _
      have m1 : (m : Int) ≤ 256 := by omega
      obtain ⟨pm, hpm⟩ : ∃ p, Hid (512 * m = p) := ⟨_, rfl⟩
      have hpp := hpm.out
      have hp1 : 512 * (m : Int) = (pm : Int) := by omega
      have hll := HLen.out
      have hys' := hys.out
      have e1 : ((pm : Int) != (l : Int)) = true := by rw [bne_iff_ne]; omega
      have e2 : ((m : Int) != stop) = false := by rw [bne_eq_false_iff_eq]; exact hst.out
      clear hpp hll hys'
      have hcW : (W.setCell ⟨w3.heap.size, 0, none⟩ (.int .i64 0)).cell? ⟨w3.heap.size, 0, none⟩ = some (.int .i64 0) := World.cell?_setCell_same' _ _ _ (by rw [hc]; rfl)
      have hfW : (W.setCell ⟨w3.heap.size, 0, none⟩ (.int .i64 0)).frozen? ⟨w3.heap.size, 0, none⟩ = false := by rw [World.frozen?_setCell]; exact hf
      have hBW : Below w3.heap.size w3 (W.setCell ⟨w3.heap.size, 0, none⟩ (.int .i64 0)) := hB.setCell (p := ⟨w3.heap.size, 0, none⟩) (Nat.le_refl _) _
      have hDW : (W.setCell ⟨w3.heap.size, 0, none⟩ (.int .i64 0)).heap[D]? = some (.deferred (some [])) := (Below.heap_setCell W ⟨w3.heap.size, 0, none⟩ _ D (by show D ≠ w3.heap.size; omega)).trans hK2
      gi_wp2
      clear q1 q2 q3 q4 hc hf
      obtain ⟨V2, hV2⟩ : ∃ V2, V2 = W.setCell ⟨w3.heap.size, 0, none⟩ (.int .i64 0) := ⟨_, rfl⟩
      rw [← hV2] at hcW hfW hBW hDW ⊢
      have hVB : w3.heap.size < V2.heap.size := block_lt_of_cell hcW
      have hDV : D < V2.heap.size := (Array.getElem?_eq_some_iff.1 hDW).1
      clear hV2 hB hK2
      refine' range_at rfl (by omega) (gf := gf) (lb := lb) rfl trivial HEnt.out (HSeq.out V2 hBW) belowK_t (belowK_b (by omega)) (Below.refl _ _) (fun _ => rfl) ?hat2c
        (fun pre W => ((W.cell? ⟨w3.heap.size, 0, none⟩ = some (.int .i64 (pre.length : Int)) ∧ W.frozen? ⟨w3.heap.size, 0, none⟩ = false) ∧ Below w3.heap.size w3 W) ∧ W.heap[D]? = some (.deferred (some [])))
        (fun c pre W => False)
        (OwnFrom.and (OwnFrom.and (Own.from (fun s A B row hs hg hr => ⟨cell_kept hs.1 hg hr, (frozen_kept hs.1 hg hr).trans hs.2⟩) _) (ownFrom_below (Nat.le_refl _) (by omega))) (own_heap8 (by omega)))
        (fun c s A B row hs hg hr => hs)
        ⟨⟨⟨hcW, hfW⟩, hBW⟩, hDW⟩
        _ ?assign2c ?body2c ?done2c ?stop2c
      case hat2c =>
        intro pre x W l o o' hl hlo hoc ⟨h1, h2, h3⟩
        refine ⟨h1, (World.putObj_heap_other (fun e => ?_)).trans h2, h3⟩
        unfold BrkAt at h2
        rw [e, hlo] at h2
        cases h2
        cases hoc
      case assign2c =>
        intro lp x W K hK
        gi_wp2
        exact hK
      case stop2c =>
        rintro D2 c pre W hD hpre hno
        exact hno.elim
      case done2c =>
        clear hcW hfW hBW hDW
        rintro D2 ys W hDD hys ⟨⟨⟨hc, hf⟩, hB⟩, hD1⟩ hK2
        rw [hys] at hc
        have q2 := HR.out
        have q3 := HRF.out
        have q4 := HW.out
        rw [← hB.cell (p := ⟨w.heap.size + 1, 0, none⟩) (show w.heap.size + 1 < _ by omega)] at q2
        rw [← hB.frozen (p := ⟨w.heap.size + 1, 0, none⟩) (show w.heap.size + 1 < _ by omega)] at q3
        rw [← hB.cell (p := ⟨w1.heap.size, 0, none⟩) (show w1.heap.size < _ by omega)] at q4
        have n0 : (0 : Int) ≤ (nb : Int) := Int.natCast_nonneg _
        have n1 : (nb : Int) ≤ 256 := by omega
        have n2 : 512 * (nb : Int) = (l : Int) := by have := HLen.out; omega
        have hr5 : (W.setCell ⟨w.heap.size + 1, 0, none⟩ (.bool true)).cell? ⟨w.heap.size + 1, 0, none⟩ = some (.bool true) := World.cell?_setCell_same' _ _ _ (by rw [q2]; rfl)
        have hd2 : (W.setCell ⟨w.heap.size + 1, 0, none⟩ (.bool true)).heap[D2]? = some (.deferred (some [])) := (Below.heap_setCell W ⟨w.heap.size + 1, 0, none⟩ _ D2 (by show D2 ≠ w.heap.size + 1; omega)).trans hK2
        have hd1 : (W.setCell ⟨w.heap.size + 1, 0, none⟩ (.bool true)).heap[D]? = some (.deferred (some [])) := (Below.heap_setCell W ⟨w.heap.size + 1, 0, none⟩ _ D (by show D ≠ w.heap.size + 1; omega)).trans hD1
        have hd3 : ((W.setCell ⟨w.heap.size + 1, 0, none⟩ (.bool true)).putObj D2 (.deferred none)).heap[D]? = some (.deferred (some [])) :=
          own_heap8 (β := Unit) (D := D) (B := D + 1) (Nat.lt_succ_self _) () _ _ (some D2) hd1 (grownBy_putObj' _ D2 _) (fun r e => by cases e; exact ⟨by omega, _, hd2, rfl⟩)
        have hr6 := cell_kept hr5 (grownBy_putObj' _ D2 (.deferred none)) (fun r e => by cases e; exact ⟨_, hd2, rfl⟩)
        have hr7 := cell_kept hr6 (grownBy_putObj' _ D (.deferred none)) (fun r e => by cases e; exact ⟨_, hd3, rfl⟩)
        have hB5 : Below w.heap.size w (W.setCell ⟨w.heap.size + 1, 0, none⟩ (.bool true)) := (HB0.out.trans (hB.mono (by omega))).setCell (p := ⟨w.heap.size + 1, 0, none⟩) (by simp) _
        have hB6 := hB5.trans (belowK_b (w := w) (Nat.le_refl _) _ D2 _ (.deferred none) (by omega) hd2 rfl rfl)
        have hB7 := hB6.trans (belowK_b (w := w) (Nat.le_refl _) _ D _ (.deferred none) (by omega) hd3 rfl rfl)
        gi_wp2
        refine ⟨by simp, .inl ⟨_, _, rfl, run_takeDeferred hd2, ?_⟩⟩
        refine ⟨by simp, .inl ⟨_, _, rfl, run_takeDeferred hd3, ?_⟩⟩
        refine ⟨.bool true, ?_, rfl, hB7⟩
        simp [results, Tryz.f4, go_sem, hr7]
      case body2c =>
        clear hcW hfW hBW hDW
        rintro lp pre x W ⟨⟨⟨hc, hf⟩, hB⟩, hD2⟩ ⟨hx0, hxB, hlt⟩
        obtain ⟨k, hkl⟩ : ∃ k, Hid (pre.length = k) := ⟨_, rfl⟩
        have hlk : Hid ((pre ++ [x]).length = k + 1) := by show _ = _; rw [List.length_append, hkl.out]; rfl
        rw [hkl.out] at hc hlt hxB
        obtain ⟨p, hp⟩ : ∃ p, Hid (512 * k = p) := ⟨_, rfl⟩
        have hll := HLen.out
        have hpp := hp.out
        have hp1 : 512 * (k : Int) = (p : Int) := by omega
        have k0 : (0 : Int) ≤ (k : Int) := Int.natCast_nonneg _
        have k1 : (k : Int) < 256 := by omega
        have p0 : (0 : Int) ≤ (p : Int) := Int.natCast_nonneg _
        have p1 : (p : Int) + 512 ≤ (cw : Int) := by omega
        have p2 : (p : Int) ≤ 131072 := by omega
        have p3 : decide ((l : Int) < (p : Int) + 512) = false := by rw [decide_eq_false_iff_not]; omega
        have p4 : p + 512 - p = 512 := by omega
        have p5 : ¬ cw = p := by omega
        have hrW : RowAt W Aw l (Hd.rowF V) := HRow.out.keep hB
        obtain ⟨q, rfl⟩ : ∃ q, Aw = some ⟨q, 0, none⟩ := by
          rcases hAw with rfl | ⟨q, h, _⟩
          · rcases hrW.1 with h0 | ⟨b, o, h0, _⟩
            · omega
            · cases h0
          · exact ⟨q, h⟩
        have q1 := HS.out
        have q2 := HR.out
        have q3 := HRF.out
        have q4 := HW.out
        rw [← hB.cell (p := ⟨w.heap.size, 0, none⟩) (show w.heap.size < _ by omega)] at q1
        rw [← hB.cell (p := ⟨w.heap.size + 1, 0, none⟩) (show w.heap.size + 1 < _ by omega)] at q2
        rw [← hB.frozen (p := ⟨w.heap.size + 1, 0, none⟩) (show w.heap.size + 1 < _ by omega)] at q3
        rw [← hB.cell (p := ⟨w1.heap.size, 0, none⟩) (show w1.heap.size < _ by omega)] at q4
        obtain ⟨cx, fx⟩ := hxB.cell (c := 0) (by rw [pce_len HVl.out hlt]; decide)
        obtain ⟨cv, hcv⟩ : ∃ c, Hid (Hd.rowF (Pk.pce V k) 0 = c) := ⟨_, rfl⟩
        rw [hcv.out] at cx
        have hx1 : w3.heap.size + 1 ≤ x := by omega
        have hxN : x ≠ w3.heap.size := by omega
        have hxS : x ≠ w.heap.size := by omega
        have hxR : x ≠ w.heap.size + 1 := by omega
        have hxW : x ≠ w1.heap.size := by omega
        clear hll hpp
        show Code.wpIn _ _ _ _ _ _ _
        gi_wp2_with (refine ⟨trivial, ?_⟩; gi_at_call 12; refine (CallsIn.inRound lp (callsIn_wide.2 (HSa.out k p x q _ _ hlt hp.out hxB hrW))).mono ?_; rintro e w4 ⟨rfl, m, hw4⟩; have hc4 : w4.cell? ⟨w3.heap.size, 0, none⟩ = some (.int .i64 (k : Int)) := (by rw [hw4, cell_drewN8]; exact hc); have hf4 : w4.frozen? ⟨w3.heap.size, 0, none⟩ = false := (by rw [hw4, frozen_drewN12]; exact hf); have cx4 : w4.cell? ⟨x, 0, none⟩ = some (.int .u8 cv) := (by rw [hw4, cell_drewN8]; exact cx); have fx4 : w4.frozen? ⟨x, 0, none⟩ = false := (by rw [hw4, frozen_drewN12]; exact fx); have q14 : w4.cell? ⟨w.heap.size, 0, none⟩ = some (.int .i64 stop) := (by rw [hw4, cell_drewN8]; exact q1); have hB4 : Below w3.heap.size w3 w4 := (by rw [hw4]; exact hB.trans (below_drewN m)); have hK4 : KeepsOthers W w4 := (by rw [hw4]; exact keeps_drewN8 W m); have hb4 : Below w3.heap.size W w4 := (by rw [hw4]; exact below_drewN m); have HD4 : Hid (∀ (D : Nat) (o : Obj), W.heap[D]? = some o → w4.heap[D]? = some o) := (fun D o h => by rw [hw4]; exact (heap_drewN12 W m D).trans h); clear hw4 hc hf cx fx q1 q2 q3 q4)
        refine ⟨hK4.trans (KeepsOthers.setCell _ _ _), hb4.setCell (p := ⟨w3.heap.size, 0, none⟩) (Nat.le_refl _) _, ⟨⟨?_, ?_⟩, hB4.setCell (p := ⟨w3.heap.size, 0, none⟩) (Nat.le_refl _) _⟩, (Below.heap_setCell w4 ⟨w3.heap.size, 0, none⟩ _ D (by show D ≠ w3.heap.size; omega)).trans (HD4.out D _ hD2)⟩
        · rw [World.cell?_setCell_same' _ _ _ (by rw [hc4]; rfl), hlk.out]; rfl
        · rw [World.frozen?_setCell]; exact hf4
set_option maxRecDepth 100000 in
set_option maxHeartbeats 4000000 in
theorem walk (a0 : Option Addr) (len0 cap0 : Nat) (L0 : List Tr.Iv) (a1 : Int) (w : World) (hk : KTAt w) (w0 : InIts w a0 len0 cap0 L0) (w1 : (Lit.int .i64 a1).wf = true) :
    Calls Tryz.prog 4 #[.slice a0 len0 cap0, .int .i64 a1] w fun e w' => e = .returned (.bool true) ∧ Below w.heap.size w w' := by
  exact callsIn_wide.1 (blocks_law a0 len0 cap0 L0 a1 w hk w0)

set_option maxRecDepth 100000 in
theorem lifted (os : Os) (started : os.Started) (H : Type) (enc : TypeId × Value → H) :
    ReturnsInHanded {} Tryz.checked os 4 .any (fun w args => (Rows.packBlocksSpec.pre enc Tryz.prog Tryz.f4 [] false w args ∧ laidMetH Tryz.prog laidKT w) ∧ sizedMet enc Tryz.prog Tryz.f4 (OpenSpec.ofChange Rows.packBlocksSpec) false w args)
      (Rows.packBlocksSpec.post enc Tryz.prog Tryz.f4 false true false false) := by
  refine returnsInHanded_of_change_and (C := Tryz.checked) (X := fun w _ => laidMetH Tryz.prog laidKT w) (fun _ _ _ hh h => h.of_heap hh) own started (by kernel_rfl) Tryz.func4
    (ChangeSpec.witness_shaped (enc := enc) (C := Tryz.checked) (os := os) (X := fun w _ => laidMetH Tryz.prog laidKT w) false (World.doorLaid Tryz.prog 400 os) #[.slice none 0 0, .int .i64 0] 8 rfl (World.shaped_of_RefB (by kernel_rfl) (by kernel_rfl)) (by kernel_rfl) (by kernel_rfl) (by kernel_rfl) (door_metKT os _)) ?_
  intro W base args ds gs before hval0 hW hcnd hsz0 hL _
  have hval : ∀ (j : Nat) t v, Tryz.f4.params[j]? = some t → args[j]? = some v → Value.okWide Tryz.prog W .any base t v := hval0
  have hW' := hW
  obtain ⟨p, q, hA0, hV, rfl, hfz, hnd⟩ := hW
  have hA : DataW.TrodAll enc Tryz.prog W 0 (fun _ => true) true Tryz.f4.params.toList args.toList ds p := hA0
  have hsz : (DataW.weightsEach Tryz.prog (Tryz.f4.params.toList ++ Rows.packBlocksSpec.plain.varTypes Tryz.prog) (ds ++ gs)).all (· ≤ reachBytes) = true := hsz0
  have hkat := ktat_of_laid hL
  rw [Tryz.params4] at hA hval hsz
  obtain ⟨v0, vs0, d0, ds0, p0, q0, hargs, rfl, rfl, h0, r0⟩ := trodAll_cons hA
  obtain ⟨v1, vs1, d1, ds1, p1, q1, rfl, rfl, rfl, h1, r1⟩ := trodAll_cons r0
  obtain ⟨rfl, rfl, rfl⟩ := trodAll_nil r1
  obtain rfl : args = #[v0, v1] := by cases args; simp_all
  obtain ⟨rfl, rfl⟩ := trodVars_none hV
  obtain ⟨a0, len0, cap0, rfl⟩ := okWide_slice Tryz.underlying22 (hval 0 22 v0 rfl rfl)
  have k0 := h0
  have lt0 : ∀ x ∈ p0, x.block < W.heap.size := by obtain ⟨m, hm⟩ := k0; exact DataW.trod_lt m _ _ _ hm
  obtain ⟨L0, w0⟩ := open_its h0 (fun x hx => by simpa using List.all_eq_true.1 hsz x (DataW.weights_mem_each (j := 0) (t := 22) rfl rfl x hx))
  obtain ⟨a1, rfl, rfl, rfl, w1⟩ := open_int Tryz.underlying3 (hval 1 3 v1 rfl rfl) h1
  clear hA0 hval0
  refine (walk a0 len0 cap0 L0 a1 W hkat w0 w1).mono fun e W' ⟨he, bel⟩ => ?_
  subst he
  exact ⟨_, rfl, _, _, _, [], _, [], hW', trodAll_mk1 (shut_bool Tryz.underlying4 _), (trodAll_cons_mk (Below.trod laidOut (by kernel_rfl) (of_decide_eq_true (by kernel_rfl)) k0 bel lt0) (trodAll_cons_mk (shut_int Tryz.underlying3 w1) trodAll_mk0)), rfl, bel.frame _, fun h => by cases h⟩

theorem over : Rows.packBlocksRow.holds Tryz.pinned (OpenSpec.ofChange Rows.packBlocksSpec) :=
  OpenClaim.holds_of_wide 4 Tryz.f4 rfl rfl rfl rfl rfl rfl rfl ⟨rfl, rfl, rfl, rfl, rfl⟩ rfl rfl rfl rfl rfl (by kernel_rfl) Tryz.func4 (by kernel_rfl)
    (of_decide_eq_true (by kernel_rfl)) (by unfold Func.isWrapper; first | (rw [if_pos (by decide +kernel)]; kernel_rfl) | (rw [if_neg (by decide +kernel)]; exact ⟨rfl, rfl⟩))
    (fun os started H enc _ => lifted os started H enc)

theorem proved : Rows.PackBlocksCardSaid :=
  Claim7.holds_tied_plain_at .later [] [.data, .data, .data, .data] true (true, "5492f5e41247cc02cc49d51610b3a1000faf02ce834e575e36ea9376324993ab") true
    over (fun _ h => by cases h) (by kernel_rfl) (fun _ h => by cases h) packBlocks_row_tie rfl ⟨rfl, rfl⟩ (by kernel_rfl) rfl
    (fun f fn hf hfn => by
      obtain rfl : f = 4 := Option.some.inj ((show Tryz.prog.funcNamed "tabulary/tabularylaw12.PackBlocks" = some 4 by kernel_rfl).symm.trans hf) |>.symm
      obtain rfl : fn = Tryz.f4 := (Option.some.inj (Tryz.func4.symm.trans hfn)).symm
      exact ⟨by kernel_rfl, fun j t ht => by
        rw [Tryz.params4] at ht
        have hm : t ∈ [22, 3] := by simpa using Array.mem_of_getElem? ht
        have hall : ([22, 3].all fun u => !Tryz.prog.wantsStandIn u) = true := by kernel_rfl
        exact (show Tryz.prog.wantsStandIn t = false by simpa using List.all_eq_true.1 hall t hm)⟩)
    (by kernel_rfl)
#print axioms proved
end Go.Proofs.YtldkhbkgmiicbaaGreatDoor.packBlocks
