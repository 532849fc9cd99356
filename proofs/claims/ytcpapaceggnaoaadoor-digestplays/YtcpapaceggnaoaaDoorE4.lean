/- Contract of the program's own mixed. -/
import Derived.Test.YtcpapaceggnaoaaDoorE1
namespace Go.Proofs.YtcpapaceggnaoaaDoor
open Go.RowKit Go.Deep
attribute [local go_sem] List.getElem?_cons_zero Option.getD_some

set_option maxRecDepth 100000 in
set_option maxHeartbeats 8000000 in
theorem mixed_any (b s : Nat → Nat) (hb : ∀ i, b i < 256) (hs : ∀ i, s i < 4294967296) (w : World) (hk : KAt w) :
    Calls Tryd.prog 26 #[.agg (cells8 s), .agg (cw 64 (Sha.wd b))] w fun e w' => e = .returned (.agg (cells8 (Sha.rounds b s 64))) ∧ Bw w w' := by
  have hz8 := zero8
  have hi8 := info8
  have hwl := Sha.wd_lt hb
  obtain ⟨x, hx⟩ : ∃ x, Hid (x = Sha.wd b) := ⟨_, rfl⟩
  rw [← hx.out] at hwl ⊢
  obtain ⟨RF, hR0, hR1, hRl, hRe⟩ : ∃ RF : Nat → Nat → Nat, Hid (RF 0 = s) ∧ Hid (∀ t, RF (t + 1) = Sha.rd (RF t) (Sha.kn t) (x t)) ∧ (∀ t i, RF t i < 4294967296) ∧ Hid (RF = Sha.rounds b s) := by
    refine ⟨Sha.rounds b s, ?_, ?_, Sha.rounds_lt hs, ?_⟩
    · show Sha.rounds b s 0 = s
      rfl
    · show ∀ t, _ = _
      intro t
      rw [hx.out]; rfl
    · show _ = _
      rfl
  obtain ⟨W0, hW0⟩ : ∃ W0, W0 = ((w.alloc (.cells (cells8 s) 43)).alloc (.cells (cw 64 x) 50)).alloc (.cells zeros8 43) := ⟨_, rfl⟩
  have hal : ∀ (W : World) (o : Obj), Bw W (W.alloc o) := fun W o => (Below.refl _ _).alloc (Nat.le_refl _) _
  have hbw0 : Bw w W0 := by rw [hW0]; exact ((hal _ _).trans (hal _ _)).trans (hal _ _)
  have hS0 : EightAt W0 w.heap.size s := by rw [hW0]; exact EightAt.keep (heap_alloc2_old _ _ _) (hal _ _)
  have hX0 : WAt W0 (w.heap.size + 1) 50 64 x := by rw [hW0]; exact WAt.keep (heap_alloc2_new _ _ _) (hal _ _)
  have hZ0 : W0.heap[w.heap.size + 1 + 1]? = some (.cells zeros8 43 (0, 0)) := by
    rw [hW0]
    have := heap_alloc_new ((w.alloc (.cells (cells8 s) 43)).alloc (.cells (cw 64 x) 50)) (.cells zeros8 43)
    rwa [size_alloc, size_alloc] at this
  have hk0 := hk.keep hbw0
  have c0 := (hS0.cell 0 (by omega)).1
  have c1 := (hS0.cell 1 (by omega)).1
  have c2 := (hS0.cell 2 (by omega)).1
  have c3 := (hS0.cell 3 (by omega)).1
  have c4 := (hS0.cell 4 (by omega)).1
  have c5 := (hS0.cell 5 (by omega)).1
  have c6 := (hS0.cell 6 (by omega)).1
  have c7 := (hS0.cell 7 (by omega)).1
  rw [hW0] at c0 c1 c2 c3 c4 c5 c6 c7
  go_enter Tryd.func26, Tryd.ntmps26
  go_wp2
  go_quiet (fail)
  rw [← hW0]
  obtain ⟨W1, hW1⟩ : ∃ W1, W1 = W0.drewN nq := ⟨_, rfl⟩
  rw [← hW1]
  have hb1 : Bw W0 W1 := by rw [hW1]; exact Bw.drewN W0 nq
  have hX1 := hX0.keep hb1
  have hZ1 : W1.heap[w.heap.size + 1 + 1]? = some (.cells zeros8 43 (0, 0)) := (hb1.block _ (Array.getElem?_eq_some_iff.1 hZ0).1).trans hZ0
  have hk1 := hk0.keep hb1
  have hbw1 := hbw0.trans hb1
  clear c0 c1 c2 c3 c4 c5 c6 c7 hW1 hW0 hS0 hX0 hZ0 hk0 hbw0 hb1 hk hz8
  go_wp2
  go_loopw [5, 6, 7, 8, 9, 10, 11, 12, 34] (fun a0 a1 a2 a3 a4 a5 a6 a7 i wr => ∃ t : Nat, t ≤ 64 ∧ i = .int .i64 t ∧ a0 = .int .u32 ((RF t 0 : Nat) : Int) ∧ a1 = .int .u32 ((RF t 1 : Nat) : Int) ∧ a2 = .int .u32 ((RF t 2 : Nat) : Int) ∧ a3 = .int .u32 ((RF t 3 : Nat) : Int) ∧ a4 = .int .u32 ((RF t 4 : Nat) : Int) ∧ a5 = .int .u32 ((RF t 5 : Nat) : Int) ∧ a6 = .int .u32 ((RF t 6 : Nat) : Int) ∧ a7 = .int .u32 ((RF t 7 : Nat) : Int) ∧ Bw W1 wr) (fun _ _ _ _ _ _ _ _ i _ => 64 - (intOf i).toNat)
  case atStart => exact ⟨0, Nat.zero_le _, rfl, by rw [hR0.out], by rw [hR0.out], by rw [hR0.out], by rw [hR0.out], by rw [hR0.out], by rw [hR0.out], by rw [hR0.out], by rw [hR0.out], Below.refl _ _⟩
  case round =>
    obtain ⟨t, ht, rfl, rfl, rfl, rfl, rfl, rfl, rfl, rfl, rfl, hw⟩ := hrel
    by_cases hlt : t < 64
    · obtain ⟨r, hr⟩ : ∃ r, Hid (r = RF t) := ⟨_, rfl⟩
      rw [← hr.out]
      have hrl : ∀ i, r i < 4294967296 := by rw [hr.out]; exact hRl t
      obtain ⟨kk, hkk⟩ : ∃ k, Hid (k = Sha.kn t) := ⟨_, rfl⟩
      obtain ⟨ww, hww⟩ : ∃ k, Hid (k = x t) := ⟨_, rfl⟩
      have hrd : Hid (∀ i, RF (t + 1) i = Sha.rd r kk ww i) := fun i => by rw [hR1.out, hr.out, hkk.out, hww.out]
      have hu : Hid (Sha.uu r kk ww = Sha.add (Sha.add (Sha.add (Sha.add (r 7) (Sha.SG1 (r 4))) (Sha.ch (r 4) (r 5) (r 6))) kk) ww) := rfl
      have hv : Hid (Sha.vv r = Sha.add (Sha.SG0 (r 0)) (Sha.maj (r 0) (r 1) (r 2))) := rfl
      have l0 := hrl 0
      have l1 := hrl 1
      have l2 := hrl 2
      have l3 := hrl 3
      have l4 := hrl 4
      have l5 := hrl 5
      have l6 := hrl 6
      have l7 := hrl 7
      have lw : ww < 4294967296 := by rw [hww.out]; exact hwl t
      have lk : kk < 4294967296 := by rw [hkk.out]; exact Sha.kn_lt t
      obtain ⟨wb, hwb⟩ : ∃ wb, wb = (wr.alloc (.cells #[.int .u32 ((r 0 : Nat) : Int)] 42)).alloc (.cells #[.int .u32 ((r 4 : Nat) : Int)] 42) := ⟨_, rfl⟩
      have cA : wb.cell? ⟨wr.heap.size, 0, none⟩ = some (.int .u32 ((r 0 : Nat) : Int)) := by rw [hwb]; exact cell_of_row _ _ 0 _ _ _ (heap_alloc2_old _ _ _)
      have cE : wb.cell? ⟨wr.heap.size + 1, 0, none⟩ = some (.int .u32 ((r 4 : Nat) : Int)) := by rw [hwb]; exact cell_of_row _ _ 0 _ _ _ (heap_alloc2_new _ _ _)
      have hbb : Bw wr wb := by rw [hwb]; exact (hal _ _).trans (hal _ _)
      have hbb1 := hw.trans hbb
      have ck : wb.cell? ⟨0, t, none⟩ = some (.int .u32 (kk : Int)) := by rw [hkk.out]; exact (hk1.keep hbb1) t hlt
      have cx : wb.cell? ⟨w.heap.size + 1, t, none⟩ = some (.int .u32 (ww : Int)) := by rw [hww.out]; exact ((hX1.keep hbb1).cell hlt).1
      have t0 : (0 : Int) ≤ (t : Int) := Int.natCast_nonneg _
      have t1 : (t : Int) < 64 := by omega
      have e1 := u32_xor_nat _ _ (Sha.rot_lt 6 l4) (Sha.rot_lt 11 l4)
      have e2 : bits .xor .u32 ((Sha.rot 6 (r 4) ^^^ Sha.rot 11 (r 4) : Nat) : Int) ((Sha.rot 25 (r 4) : Nat) : Int) = ((Sha.SG1 (r 4) : Nat) : Int) := u32_xor_nat _ _ (Sha.xor_lt (Sha.rot_lt 6 l4) (Sha.rot_lt 11 l4)) (Sha.rot_lt 25 l4)
      have e3 := add_val (r 7) (Sha.SG1 (r 4))
      have e4 := u32_and_nat _ _ l4 l5
      have e5 : bits .xor .u32 (if IntKind.u32.signed = true then -1 else IntKind.u32.max) ((r 4 : Nat) : Int) = ((r 4 ^^^ Sha.ones : Nat) : Int) := not_val l4
      have e5' : bits .xor .u32 IntKind.u32.max ((r 4 : Nat) : Int) = ((r 4 ^^^ Sha.ones : Nat) : Int) := not_val l4
      have e6 := u32_and_nat _ _ (Sha.xor_lt l4 (show Sha.ones < 4294967296 by decide)) l6
      have e7 : bits .xor .u32 ((r 4 &&& r 5 : Nat) : Int) (((r 4 ^^^ Sha.ones) &&& r 6 : Nat) : Int) = ((Sha.ch (r 4) (r 5) (r 6) : Nat) : Int) := u32_xor_nat _ _ (Sha.and_lt _ l4) (Sha.and_lt _ (Sha.xor_lt l4 (by decide)))
      have e8 := add_val (Sha.add (r 7) (Sha.SG1 (r 4))) (Sha.ch (r 4) (r 5) (r 6))
      have e9 := add_val (Sha.add (Sha.add (r 7) (Sha.SG1 (r 4))) (Sha.ch (r 4) (r 5) (r 6))) kk
      have e10 := add_val (Sha.add (Sha.add (Sha.add (r 7) (Sha.SG1 (r 4))) (Sha.ch (r 4) (r 5) (r 6))) kk) ww
      clear hR0 hR1 hRl hwl
      go_wp2_with (first
        | (go_at_call 29; refine (turning_any _ _).mono ?_; rintro e w' ⟨rfl, hw'⟩; subst w'; try rw [size_alloc]))
      rw [← hwb]
      clear hwb
      go_region_held3 (fun w' => w'.cell? ⟨wr.heap.size + 1, 0, none⟩ = some (.int .u32 ((r 4 : Nat) : Int)) ∧ w'.cell? ⟨0, t, none⟩ = some (.int .u32 (kk : Int)) ∧ w'.cell? ⟨w.heap.size + 1, t, none⟩ = some (.int .u32 (ww : Int)))
        (first | go_keep) (first | (go_at_call 30; refine (turn_at _ _ _ _ (by assumption) (by assumption) (by omega) (by omega)).mono ?_; rintro e w' ⟨rfl, hw'⟩; subst w'))
      rw [← hu.out]
      obtain ⟨wc, hwc⟩ : ∃ wc, wc = wb.drew := ⟨_, rfl⟩
      rw [← hwc]
      have hbc : Bw wb wc := by rw [hwc]; exact (Below.refl _ _).drew
      have cA' : wc.cell? ⟨wr.heap.size, 0, none⟩ = some (.int .u32 ((r 0 : Nat) : Int)) := (hbc.cell (p := ⟨wr.heap.size, 0, none⟩) (block_lt_of_cell cA)).trans cA
      have hbw2 := hbb1.trans hbc
      clear hwc hbc hbb1 hbb cA cE ck cx e1 e2 e3 e4 e5 e5' e6 e7 e8 e9 e10
      have e1 := u32_xor_nat _ _ (Sha.rot_lt 2 l0) (Sha.rot_lt 13 l0)
      have e2 : bits .xor .u32 ((Sha.rot 2 (r 0) ^^^ Sha.rot 13 (r 0) : Nat) : Int) ((Sha.rot 22 (r 0) : Nat) : Int) = ((Sha.SG0 (r 0) : Nat) : Int) := u32_xor_nat _ _ (Sha.xor_lt (Sha.rot_lt 2 l0) (Sha.rot_lt 13 l0)) (Sha.rot_lt 22 l0)
      have e3 := u32_and_nat _ _ l0 l1
      have e4 := u32_and_nat _ _ l0 l2
      have e5 := u32_and_nat _ _ l1 l2
      have e6 := u32_xor_nat _ _ (Sha.and_lt (r 1) l0) (Sha.and_lt (r 2) l0)
      have e7 : bits .xor .u32 (((r 0 &&& r 1) ^^^ (r 0 &&& r 2) : Nat) : Int) ((r 1 &&& r 2 : Nat) : Int) = ((Sha.maj (r 0) (r 1) (r 2) : Nat) : Int) := u32_xor_nat _ _ (Sha.xor_lt (Sha.and_lt (r 1) l0) (Sha.and_lt (r 2) l0)) (Sha.and_lt (r 2) l1)
      have e8 : (((Sha.SG0 (r 0) : Nat) : Int) + ((Sha.maj (r 0) (r 1) (r 2) : Nat) : Int)) % 4294967296 = ((Sha.vv r : Nat) : Int) := by have := add_val (Sha.SG0 (r 0)) (Sha.maj (r 0) (r 1) (r 2)); rw [IntKind.wrap_u32', ← hv.out] at this; exact this
      have e9 := add_val (Sha.uu r kk ww) (Sha.vv r)
      have e10 := add_val (r 3) (Sha.uu r kk ww)
      rw [IntKind.wrap_u32'] at e9 e10
      go_wp2_with (first | (go_at_call 30; refine (turn_at _ _ _ _ (by assumption) (by assumption) (by omega) (by omega)).mono ?_; rintro e w' ⟨rfl, hw'⟩; subst w'))
      go_roundw
      case rel => exact ⟨t + 1, by omega, by go_num, by rw [hrd.out]; rfl, by rw [hrd.out]; rfl, by rw [hrd.out]; rfl, by rw [hrd.out]; rfl, by rw [hrd.out]; rfl, by rw [hrd.out]; rfl, by rw [hrd.out]; rfl, by rw [hrd.out]; rfl, hbw2⟩
      case measure => simp [intOf]; omega
    · have e8 : t = 64 := by omega
      subst e8
      obtain ⟨r, hr⟩ : ∃ r, Hid (r = RF 64) := ⟨_, rfl⟩
      rw [← hr.out]
      have hZr : wr.heap[w.heap.size + 1 + 1]? = some (.cells zeros8 43 (0, 0)) := (hw.block _ (Array.getElem?_eq_some_iff.1 hZ1).1).trans hZ1
      clear hR0 hR1 hRl hwl
      go_wp2_with (first
        | refine wpList_built rfl 43 _ rfl (cells8 r) (by kernel_rfl) ?_
        | refine wpList_store_row rfl 43 _ _ rfl (w.heap.size + 1 + 1) (cells8 r) rfl rfl 43 zeros8 hZr (hi8 _) rfl (cells8_all _) ?_)
      exact bodyPost_ret (results_cell_row Tryd.results26 _ _ (w.heap.size + 1 + 1) 43 (cells8 r) (0, 0) _ rfl (setRow_heap wr (w.heap.size + 1 + 1) _ _ _ _ hZr) Tryd.underlying43 rfl (hi8 r)) rfl ⟨by rw [hr.out, hRe.out], setRow_bw (hbw1.trans hw) (by omega) _⟩
end Go.Proofs.YtcpapaceggnaoaaDoor
