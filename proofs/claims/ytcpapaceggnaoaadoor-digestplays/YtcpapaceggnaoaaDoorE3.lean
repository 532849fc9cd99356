/- Contract of the program's own spread. -/
import Derived.Test.YtcpapaceggnaoaaDoorE2
namespace Go.Proofs.YtcpapaceggnaoaaDoor
open Go.RowKit Go.Deep

theorem u32_one : (Tryd.prog.info? 42).map (·.size) = some 1 := by kernel_rfl
theorem cw_list (n : Nat) (m : Nat → Nat) : (cw n m).toList = (List.range n).map fun i => Value.int .u32 ((m i : Nat) : Int) := rfl
theorem copyw (g1 g3 : Nat) (ty : TypeId) (m z : Nat → Nat) (w : World) (h3 : WAt w g3 50 64 z) (h1 : WAt w g1 56 16 m) :
    ∃ w', (Builtin.copy_ #[60, 60] ty #[.slice (some ⟨g3, 0, none⟩) 64 64, .slice (some ⟨g1, 0, none⟩) 16 16]).run Tryd.prog w = .ok (goInt 16) w' ∧ WAt w' g3 50 64 (fun i => if i < 16 then m i else z i) ∧ Bx (· = g3) w w' := by
  have hl : (cw 16 m).toList.length = 16 := by rw [Array.length_toList, cw_size]
  have hrun := run_copy_row Tryd.prog w 60 60 ty 42 g3 0 64 64 ⟨g1, 0, none⟩ 16 16 (cw 64 z) 50 (cw 16 m).toList Tryd.underlying60 u32_one h3 (by rw [hl]; rfl) (fun j v hv => by
    rw [Addr.add_lit, Nat.zero_add, cell_of_row w g1 j _ _ _ h1, ← Array.getElem?_toList]; exact hv) (by rw [hl, cw_size]; omega) (fun v hv => by rw [cw_list] at hv; simp only [List.mem_map] at hv; obtain ⟨i, _, rfl⟩ := hv; rfl)
  rw [hl] at hrun
  refine ⟨_, hrun, ?_, setRow_bx w g3 _⟩
  have h4 := setRow_heap w g3 (cw 64 z) ((cw 64 z).toList.take 0 ++ (cw 16 m).toList ++ (cw 64 z).toList.drop (0 + 16)).toArray _ _ h3
  unfold WAt
  rw [h4]
  refine congrArg some (congrArg (fun c => Obj.cells c _ (0, 0)) (cw_of ?_ ?_))
  · simp [cw_size]
  · intro i hi
    rw [List.getElem?_toArray, List.take_zero, List.nil_append]
    by_cases e : i < 16
    · rw [List.getElem?_append_left (by rw [hl]; exact e), Array.getElem?_toList, cw_at m e, if_pos e]
    · rw [List.getElem?_append_right (by rw [hl]; omega), List.getElem?_drop, hl, show 0 + 16 + (i - 16) = i by omega, Array.getElem?_toList, cw_at z hi, if_neg e]

theorem cell_put_drew {w : World} {a b : Addr} {v : Value} (h : a ≠ b) : (w.setCell a v).drew.cell? b = w.cell? b := (cell_other' h : (w.setCell a v).cell? b = w.cell? b)
/-- the words up to t -/
def wsofar (b : Nat → Nat) (t i : Nat) : Nat := if i < t then Sha.wd b i else 0

set_option maxRecDepth 100000 in
set_option maxHeartbeats 4000000 in
theorem spread_any (b : Nat → Nat) (hb : ∀ i, b i < 256) (w : World) :
    Calls Tryd.prog 27 #[.agg (cw 16 (Sha.word b))] w fun e w' => e = .returned (.agg (cw 64 (Sha.wd b))) ∧ Bw w w' := by
  have hz := zero64'
  have hi64 := cw_info64
  have hwl := Sha.wd_lt hb
  obtain ⟨m, hm⟩ : ∃ m, Hid (m = Sha.word b) := ⟨_, rfl⟩
  rw [← hm.out]
  obtain ⟨W0, hW0⟩ : ∃ W0, W0 = ((w.alloc (.cells (cw 16 m) 56)).alloc (.cells (cw 64 (fun _ => 0)) 50)).alloc (.cells (cw 64 (fun _ => 0)) 50) := ⟨_, rfl⟩
  have hal : ∀ (W : World) (o : Obj), Bw W (W.alloc o) := fun W o => (Below.refl _ _).alloc (Nat.le_refl _) _
  have hbw0 : Bw w W0 := by rw [hW0]; exact ((hal _ _).trans (hal _ _)).trans (hal _ _)
  have hM0 : WAt W0 w.heap.size 56 16 m := by rw [hW0]; exact WAt.keep (heap_alloc2_old _ _ _) (hal _ _)
  have hZ0 : WAt W0 (w.heap.size + 1) 50 64 (fun _ => 0) := by rw [hW0]; exact WAt.keep (heap_alloc2_new _ _ _) (hal _ _)
  have hX0 : WAt W0 (w.heap.size + 1 + 1) 50 64 (fun _ => 0) := by
    rw [hW0]
    have := heap_alloc_new ((w.alloc (.cells (cw 16 m) 56)).alloc (.cells (cw 64 (fun _ => 0)) 50)) (.cells (cw 64 (fun _ => 0)) 50)
    rwa [size_alloc, size_alloc] at this
  obtain ⟨W2, hcp, hX2, hx2⟩ := copyw w.heap.size (w.heap.size + 1 + 1) 3 m (fun _ => 0) W0.drew hX0 hM0
  have hZ2 : WAt W2 (w.heap.size + 1) 50 64 (fun _ => 0) := WAt.keepx (w := W0.drew) hZ0 hx2 (by omega)
  have hb2 : Bw w W2 := Below.trans (Below.drew hbw0) (hx2.below hbw0.size (fun b e => by omega))
  have hX2' : WAt W2 (w.heap.size + 1 + 1) 50 64 (wsofar b 16) := hX2.congr (fun i hi => by
    unfold wsofar
    by_cases e : i < 16
    · rw [if_pos e, if_pos e, hm.out, Sha.wd_lo _ e]
    · rw [if_neg e, if_neg e])
  rw [hW0] at hcp
  clear hX2 hx2 hX0 hM0 hZ0
  go_enter Tryd.func27, Tryd.ntmps27
  go_wp2
  go_region
  clear hcp hW0 hbw0
  go_wp2
  go_loopw [4] (fun i wr => ∃ t : Nat, 16 ≤ t ∧ t ≤ 64 ∧ i = .int .i64 t ∧ WAt wr (w.heap.size + 1) 50 64 (fun _ => 0) ∧ WAt wr (w.heap.size + 1 + 1) 50 64 (wsofar b t) ∧ Bw w wr) (fun i _ => 64 - (intOf i).toNat)
  case atStart => exact ⟨16, Nat.le_refl _, by omega, rfl, hZ2, hX2', hb2⟩
  case round =>
    clear hZ2 hX2' hb2
    obtain ⟨t, ht16, ht, rfl, hZ, hW, hw⟩ := hrel
    by_cases hlt : t < 64
    · have c15 := (hW.cell (i := t - 15) (by omega)).1
      have c2 := (hW.cell (i := t - 2) (by omega)).1
      have i15 : (t : Int) - 15 < 64 := by omega
      have i2 : (t : Int) - 2 < 64 := by omega
      have j15 : (0 : Int) ≤ (t : Int) - 15 := by omega
      have j2 : (0 : Int) ≤ (t : Int) - 2 := by omega
      have g15 : ((t : Int) - 15).toNat = t - 15 := by omega
      have g2 : ((t : Int) - 2).toNat = t - 2 := by omega
      have so : ∀ i, i < t → wsofar b t i = Sha.wd b i := fun i hi => by unfold wsofar; rw [if_pos hi]
      rw [so _ (by omega)] at c15 c2
      have hW' : Hid (WAt wr (w.heap.size + 1 + 1) 50 64 (wsofar b t)) := hW
      have u16 : Hid (Sha.wd b t = Sha.add (Sha.add (Sha.add (Sha.wd b (t - 16)) (Sha.sg0 (Sha.wd b (t - 15)))) (Sha.wd b (t - 7))) (Sha.sg1 (Sha.wd b (t - 2)))) := Sha.wd_hi _ (by omega)
      have l15 := hwl (t - 15)
      have l2 := hwl (t - 2)
      obtain ⟨x15, e15⟩ : ∃ x, Hid (x = Sha.wd b (t - 15)) := ⟨_, rfl⟩
      obtain ⟨x2, e2⟩ : ∃ x, Hid (x = Sha.wd b (t - 2)) := ⟨_, rfl⟩
      rw [← e15.out] at c15 l15
      rw [← e2.out] at c2 l2
      clear hW hz
      have s0 := u32_xor_nat _ _ (Sha.rot_lt 7 l15) (Sha.rot_lt 18 l15)
      have s0' : bits .xor .u32 ((Sha.rot 7 x15 ^^^ Sha.rot 18 x15 : Nat) : Int) ((x15 : Int) / 8) = ((Sha.sg0 x15 : Nat) : Int) := u32_xor_nat _ (x15 / 8) (Sha.xor_lt (Sha.rot_lt 7 l15) (Sha.rot_lt 18 l15)) (by omega)
      have s1 := u32_xor_nat _ _ (Sha.rot_lt 17 l2) (Sha.rot_lt 19 l2)
      have s1' : bits .xor .u32 ((Sha.rot 17 x2 ^^^ Sha.rot 19 x2 : Nat) : Int) ((x2 : Int) / 1024) = ((Sha.sg1 x2 : Nat) : Int) := u32_xor_nat _ (x2 / 1024) (Sha.xor_lt (Sha.rot_lt 17 l2) (Sha.rot_lt 19 l2)) (by omega)
      go_wp2
      go_quiet (fail)
      obtain ⟨wa, hwa⟩ : ∃ wa, wa = wr.drewN nq := ⟨_, rfl⟩
      rw [← hwa]
      have hba : Bw wr wa := by rw [hwa]; exact Bw.drewN wr nq
      obtain ⟨wb, hwb⟩ : ∃ wb, wb = (wa.alloc (.cells #[.int .u32 (x15 : Int)] 42)).alloc (.cells #[.int .u32 (x2 : Int)] 42) := ⟨_, rfl⟩
      have cx : wb.cell? ⟨wa.heap.size, 0, none⟩ = some (.int .u32 (x15 : Int)) := by rw [hwb]; exact cell_of_row _ _ 0 _ _ _ (heap_alloc2_old _ _ _)
      have cy : wb.cell? ⟨wa.heap.size + 1, 0, none⟩ = some (.int .u32 (x2 : Int)) := by rw [hwb]; exact cell_of_row _ _ 0 _ _ _ (heap_alloc2_new _ _ _)
      have hbb : Bw wr wb := hba.trans (by rw [hwb]; exact (hal _ _).trans (hal _ _))
      clear c15 c2 hba hwa
      rw [hwb] at cx cy
      go_wp2_with (first
        | (go_at_call 29; refine (turning_any _ _).mono ?_; rintro e w' ⟨rfl, hw'⟩; subst w'; try rw [size_alloc])
        | (go_at_call 30; refine (turn_at _ _ _ _ (by assumption) (by assumption) (by omega) (by omega)).mono ?_; rintro e w' ⟨rfl, hw'⟩; subst w'))
      rw [← hwb]
      have hWb := hW'.out.keep hbb
      have hZb := hZ.keep hbb
      have hwb' := hw.trans hbb
      have c16 := (hWb.cell (i := t - 16) (by omega)).1
      have c7 := (hWb.cell (i := t - 7) (by omega)).1
      obtain ⟨ct, ft⟩ := hWb.cell (i := t) hlt
      rw [so _ (by omega)] at c16 c7
      have l16 := hwl (t - 16)
      have l7 := hwl (t - 7)
      obtain ⟨x16, e16⟩ : ∃ x, Hid (x = Sha.wd b (t - 16)) := ⟨_, rfl⟩
      obtain ⟨x7, e7⟩ : ∃ x, Hid (x = Sha.wd b (t - 7)) := ⟨_, rfl⟩
      rw [← e16.out] at c16 l16
      rw [← e7.out] at c7 l7
      have hWb' : Hid (WAt wb (w.heap.size + 1 + 1) 50 64 (wsofar b t)) := hWb
      have so' : Hid (∀ i, i < t → wsofar b t i = Sha.wd b i) := so
      have i16 : (t : Int) - 16 < 64 := by omega
      have i7 : (t : Int) - 7 < 64 := by omega
      have it : (t : Int) < 64 := by omega
      have j0 : (0 : Int) ≤ (t : Int) := by omega
      have j16 : (0 : Int) ≤ (t : Int) - 16 := by omega
      have j7 : (0 : Int) ≤ (t : Int) - 7 := by omega
      have g16 : ((t : Int) - 16).toNat = t - 16 := by omega
      have g7 : ((t : Int) - 7).toNat = t - 7 := by omega
      have y16 : IntKind.i64.wrap ((t : Int) - 16) = (t : Int) - 16 := by rw [IntKind.wrap_i64]; omega
      have y7 : IntKind.i64.wrap ((t : Int) - 7) = (t : Int) - 7 := by rw [IntKind.wrap_i64]; omega
      have a1 := add_val x16 (Sha.sg0 x15)
      have a2 := add_val (Sha.add x16 (Sha.sg0 x15)) x7
      have a3 := add_val (Sha.add (Sha.add x16 (Sha.sg0 x15)) x7) (Sha.sg1 x2)
      have r16 : (16 : Int) ≤ (t : Int) := by omega
      have r7 : (7 : Int) ≤ (t : Int) := by omega
      have r71 : (t : Int) < 71 := by omega
      have r80 : (t : Int) < 80 := by omega
      have t16 : ¬ t - 16 = t := by omega
      have t7 : ¬ t - 7 = t := by omega
      have t16' : ¬ t = t - 16 := by omega
      have t7' : ¬ t = t - 7 := by omega
      clear so hWb cx cy hwb hbb s0 s0' s1 s1'
      go_region_held3 (fun w' => w'.cell? ⟨w.heap.size + 1 + 1, t - 16, none⟩ = some (.int .u32 (x16 : Int)) ∧ w'.cell? ⟨w.heap.size + 1 + 1, t - 7, none⟩ = some (.int .u32 (x7 : Int)))
        (first | exact ⟨(cell_put_drew (fun e => by simp only [Addr.mk.injEq] at e; omega)).trans c16, (cell_put_drew (fun e => by simp only [Addr.mk.injEq] at e; omega)).trans c7⟩ | go_keep) (fail)
      go_wp2
      go_roundw
      case rel =>
        refine ⟨t + 1, by omega, by omega, by go_num, (hZb.other (by simp only; omega)), hWb'.out.set hlt ?_ (fun i _ hi => ?_), (Bw.put hwb' (by omega) _ _).drew⟩
        · unfold wsofar; rw [if_pos (by omega), u16.out, e15.out, e2.out, e16.out, e7.out]
        · unfold wsofar
          by_cases e : i < t
          · rw [if_pos e, if_pos (by omega)]
          · rw [if_neg e, if_neg (by omega)]
      case measure => simp [intOf]; omega
    · have et : t = 64 := by omega
      subst et
      have hW' : WAt wr (w.heap.size + 1 + 1) 50 64 (Sha.wd b) := hW.congr (fun i hi => by unfold wsofar; rw [if_pos hi])
      obtain ⟨x, hx⟩ : ∃ x, Hid (x = Sha.wd b) := ⟨_, rfl⟩
      rw [← hx.out] at hW'
      clear hW hwl hz
      unfold WAt at hW' hZ
      go_wp2_with (first
        | refine wpList_load_row rfl 50 _ rfl (w.heap.size + 1 + 1) rfl 50 (cw 64 x) (0, 0) _ hW' Tryd.underlying50 rfl (hi64 x) ?_
        | refine wpList_store_row rfl 50 _ _ rfl (w.heap.size + 1) (cw 64 x) rfl rfl 50 (cw 64 (fun _ => 0)) hZ (hi64 x) (by rw [cw_size, cw_size]) (cw_all _ _) ?_)
      exact bodyPost_ret (results_cell_row Tryd.results27 _ _ (w.heap.size + 1) 50 (cw 64 x) (0, 0) _ rfl (setRow_heap wr (w.heap.size + 1) _ _ _ _ hZ) Tryd.underlying50 rfl (hi64 x)) rfl ⟨by rw [hx.out], setRow_bw hw (by omega) _⟩
end Go.Proofs.YtcpapaceggnaoaaDoor
