/- The library's Grow and Concat at items, of layer 11. -/
import Derived.Test.YtjifdoneejofiaaYA
namespace Go.Proofs.Ytjifdoneejofiaa
open Go.RowKit Go.Deep
set_option linter.unusedVariables false
set_option linter.unusedSimpArgs false

theorem zero_size11 (n : Nat) : (Builtin.zeroCells Tr.zeros.cells n).size = n * 6 := by
  unfold Builtin.zeroCells
  rw [Array.size_map, Array.size_range]
  rfl
def GrowEnds (base : Nat) (e : Ending) (w' : World) : Prop := ∃ cap, e = .returned (.slice (some ⟨base, 0, none⟩) 0 cap) ∧ w'.ownsRow base 26 6 (.slice (some ⟨base, 0, none⟩) 0 cap) 0 []
set_option maxRecDepth 100000 in
set_option maxHeartbeats 1000000 in
theorem grow_any (n : Nat) (h0 : 0 < n) (hn : n ≤ 1000) (w : World) :
    Calls Try.prog 78 #[.slice none 0 0, .int .i64 (n : Int)] w fun e w' => GrowEnds w.heap.size e w' ∧ Bw w w' := by
  obtain ⟨j0, hj0, hy0, hy1, hy2⟩ := info_parts info_item
  have hrun := Lib.run_append_nil_zeros (P := Try.prog) w 22 3 22 26 j0 _ .i64 .i64 Try.underlying22 Try.underlying3 hj0 hy0 n h0 (by rw [hy1]; omega) (by omega) (by rw [hy2]; omega)
  obtain ⟨C, hC⟩ : ∃ C, Hid (grownCap w n 0 26 = C) := ⟨_, rfl⟩
  have h1 := grownCap_ge w n 0 26
  have h2 := grownCap_le_maxLen w n 0 26 (by unfold maxLen; omega)
  rw [hC.out] at hrun h1 h2
  obtain ⟨Z, hZ⟩ : ∃ Z, Hid (Builtin.zeroCells Tr.zeros.cells n ++ Builtin.zeroCells Tr.zeros.cells (C - n) = Z) := ⟨_, rfl⟩
  have hzs : Z.size = C * 6 := by
    rw [← hZ.out, Array.size_append, zero_size11, zero_size11]
    omega
  rw [hZ.out] at hrun
  have HM : Hid ((w.drew.alloc (.cells Z 26)).ownsRow w.heap.size 26 6 (.slice (some ⟨w.heap.size, 0, none⟩) 0 C) 0 []) := World.ownsRow_made w.drew Z C (Nat.le_refl _) h2 hzs
  have HB : Hid (Bw w (w.drew.alloc (.cells Z 26))) := bw_alloc11 (Below.drew (Bw.refl _)) _
  obtain ⟨W, hW⟩ : ∃ W, Hid (w.drew.alloc (.cells Z 26) = W) := ⟨_, rfl⟩
  rw [hW.out] at HM HB hrun
  have c1 : (0 : Int) ≤ (C : Int) := Int.natCast_nonneg _
  have c2 : (0 : Int) < (n : Int) := by omega
  have HRun : Hid _ := hrun
  clear hrun hzs
  go_enter Try.func78, Try.ntmps78
  go_wp2_with (at_builtin; refine Lib.wpList_append_run _ rfl (.tmp 20) (.tmp 21) _ _ rfl _ _ rfl rfl _ _ HRun.out ?_)
  go_ret
  exact ⟨⟨C, rfl, HM.out⟩, HB.out⟩
def ConcatEnds (base : Nat) (L : List Tr.Iv) (e : Ending) (w' : World) : Prop := ∃ v, e = .returned v ∧ w'.ownsRow base 26 6 v L.length (Tr.cellsI L)
set_option maxRecDepth 100000 in
set_option maxHeartbeats 4000000 in
theorem concat3_any (k : Nat) (A1 A2 A3 : Option Addr) (c1 c2 c3 : Nat) (L1 L2 L3 : List Tr.Iv) (h0 : 0 < L1.length + L2.length + L3.length) (hN : L1.length + L2.length + L3.length ≤ 1000) (w : World)
    (d1 : w.cell? ⟨k, 0, none⟩ = some (.slice A1 L1.length c1)) (d2 : w.cell? ⟨k, 1, none⟩ = some (.slice A2 L2.length c2)) (d3 : w.cell? ⟨k, 2, none⟩ = some (.slice A3 L3.length c3))
    (I1 : ItsAt w A1 L1) (I2 : ItsAt w A2 L2) (I3 : ItsAt w A3 L3) (e1 : A1 = none → L1.length = 0 ∧ c1 = 0) (e2 : A2 = none → L2.length = 0 ∧ c2 = 0) (e3 : A3 = none → L3.length = 0 ∧ c3 = 0) :
    Calls Try.prog 56 #[.slice (some ⟨k, 0, none⟩) 3 3] w fun e w' => ConcatEnds w.heap.size (L1 ++ L2 ++ L3) e w' ∧ Bw w w' := by
  obtain ⟨n1, hn1⟩ : ∃ n, Hid (L1.length = n) := ⟨_, rfl⟩
  obtain ⟨n2, hn2⟩ : ∃ n, Hid (L2.length = n) := ⟨_, rfl⟩
  obtain ⟨n3, hn3⟩ : ∃ n, Hid (L3.length = n) := ⟨_, rfl⟩
  rw [hn1.out, hn2.out, hn3.out] at h0 hN
  rw [hn1.out] at d1 e1
  rw [hn2.out] at d2 e2
  rw [hn3.out] at d3 e3
  have HD : Hid (∀ u, Bw w u → u.cell? ⟨k, 0, none⟩ = some (.slice A1 n1 c1) ∧ u.cell? ⟨k, 1, none⟩ = some (.slice A2 n2 c2) ∧ u.cell? ⟨k, 2, none⟩ = some (.slice A3 n3 c3)) := fun u hu => ⟨keep_cell11 d1 hu, keep_cell11 d2 hu, keep_cell11 d3 hu⟩
  have HI : Hid (ItsAt w A1 L1 ∧ ItsAt w A2 L2 ∧ ItsAt w A3 L3) := ⟨I1, I2, I3⟩
  have HE : Hid ((A1 = none → n1 = 0 ∧ c1 = 0) ∧ (A2 = none → n2 = 0 ∧ c2 = 0) ∧ (A3 = none → n3 = 0 ∧ c3 = 0)) := ⟨e1, e2, e3⟩
  obtain ⟨j0, hj0, hy0, hy1, hy2⟩ := info_parts info_item
  obtain ⟨H, hH⟩ : ∃ H, Hid (w.heap.size = H) := ⟨_, rfl⟩
  have HG : Hid (∀ u, Calls Try.prog 78 #[.slice none 0 0, .int .i64 ((n1 : Int) + (n2 : Int) + (n3 : Int))] u fun e w' => GrowEnds u.heap.size e w' ∧ Bw u w') := fun u => by
    have := grow_any (n1 + n2 + n3) h0 hN u
    rwa [show ((n1 + n2 + n3 : Nat) : Int) = (n1 : Int) + (n2 : Int) + (n3 : Int) by omega] at this
  rw [hH.out]
  clear d1 d2 d3 I1 I2 I3 e1 e2 e3
  go_enter Try.func56, Try.ntmps56
  go_wp2
  go_loop [3, 11] (fun sz ix => (sz = .int .i64 0 ∧ ix = .int .i64 0) ∨ (sz = .int .i64 (n1 : Int) ∧ ix = .int .i64 1) ∨ (sz = .int .i64 ((n1 : Int) + (n2 : Int)) ∧ ix = .int .i64 2) ∨ (sz = .int .i64 ((n1 : Int) + (n2 : Int) + (n3 : Int)) ∧ ix = .int .i64 3)) (fun _ ix => 3 - (intOf ix).toNat)
  case atStart => exact .inl ⟨rfl, rfl⟩
  case round =>
    obtain ⟨x1, x2, x3⟩ := HD.out w (Bw.refl _)
    have q1 : (0 : Int) ≤ (n1 : Int) := Int.natCast_nonneg _
    have q2 : (0 : Int) ≤ (n1 : Int) + (n2 : Int) := by omega
    have q3 : (0 : Int) ≤ (n1 : Int) + (n2 : Int) + (n3 : Int) := by omega
    rcases hrel with ⟨rfl, rfl⟩ | ⟨rfl, rfl⟩ | ⟨rfl, rfl⟩ | ⟨rfl, rfl⟩
    · go_wp2
      go_round
      case rel => exact .inr (.inl ⟨by go_num, rfl⟩)
      case measure => simp [intOf]
    · go_wp2
      go_round
      case rel => exact .inr (.inr (.inl ⟨by go_num, rfl⟩))
      case measure => simp [intOf]
    · go_wp2
      go_round
      case rel => exact .inr (.inr (.inr ⟨by go_num, rfl⟩))
      case measure => simp [intOf]
    · clear x1 x2 x3
      go_wp2_with (go_at_call 78; refine (HG.out _).mono ?_; rintro e w1 ⟨⟨cap1, rfl, hown1⟩, hw1⟩; rw [hH.out] at hown1)
      rw [hH.out]
      have HO1 : Hid (w1.ownsRow H 26 6 (.slice (some ⟨H, 0, none⟩) 0 cap1) 0 []) := hown1
      have HW1 : Hid (Bw w w1) := hw1
      clear hown1
      go_loopw [6, 27] (fun v ix wr => ((ix = .int .i64 0 ∧ Hid (wr.ownsRow H 26 6 v 0 [])) ∨ (ix = .int .i64 1 ∧ Hid (wr.ownsRow H 26 6 v n1 (Tr.cellsI L1))) ∨ (ix = .int .i64 2 ∧ Hid (wr.ownsRow H 26 6 v (n1 + n2) (Tr.cellsI L1 ++ Tr.cellsI L2))) ∨ (ix = .int .i64 3 ∧ Hid (wr.ownsRow H 26 6 v (n1 + n2 + n3) (Tr.cellsI L1 ++ Tr.cellsI L2 ++ Tr.cellsI L3)))) ∧ Bw w wr) (fun _ ix _ => 3 - (intOf ix).toNat)
      case atStart => exact ⟨.inl ⟨rfl, HO1.out⟩, HW1.out⟩
      case round =>
        clear HO1 HW1 hw1
        obtain ⟨hcs, hbw⟩ := hrel
        obtain ⟨x1, x2, x3⟩ := HD.out wr hbw
        have hHw : H ≤ wr.heap.size := by rw [← hH.out]; exact hbw.size
        rcases hcs with ⟨rfl, ho⟩ | ⟨rfl, ho⟩ | ⟨rfl, ho⟩ | ⟨rfl, ho⟩
        · go_wp2_with (at_builtin; refine wpList_append_its _ (by rfl) (.tmp 31) (.tmp 32) _ (by rfl) H 26 j0 _ 80 Try.underlying22 hj0 hy0 hy1 hy2 rfl _ _ _ (by rfl) ho.out A1 c1 L1 n1 hn1.out (by rfl) (HI.out.1.keep hbw) HE.out.1 (by unfold maxLen; omega) (by omega) hHw ?_; intro v6 w6 hown6 hgrow6; simp only [Nat.zero_add, List.nil_append] at hown6)
          go_roundw
          case rel => exact ⟨.inr (.inl ⟨rfl, hown6⟩), by
            have := bw_grow hgrow6 (base := H) (by rw [← hH.out]; exact hbw) hHw ho.out
            rw [← hH.out] at this; exact this⟩
          case measure => simp [intOf]
        · go_wp2_with (at_builtin; refine wpList_append_its _ (by rfl) (.tmp 31) (.tmp 32) _ (by rfl) H 26 j0 _ 80 Try.underlying22 hj0 hy0 hy1 hy2 rfl _ _ _ (by rfl) ho.out A2 c2 L2 n2 hn2.out (by rfl) (HI.out.2.1.keep hbw) HE.out.2.1 (by unfold maxLen; omega) (by omega) hHw ?_; intro v6 w6 hown6 hgrow6)
          go_roundw
          case rel => exact ⟨.inr (.inr (.inl ⟨rfl, hown6⟩)), by
            have := bw_grow hgrow6 (base := H) (by rw [← hH.out]; exact hbw) hHw ho.out
            rw [← hH.out] at this; exact this⟩
          case measure => simp [intOf]
        · go_wp2_with (at_builtin; refine wpList_append_its _ (by rfl) (.tmp 31) (.tmp 32) _ (by rfl) H 26 j0 _ 80 Try.underlying22 hj0 hy0 hy1 hy2 rfl _ _ _ (by rfl) ho.out A3 c3 L3 n3 hn3.out (by rfl) (HI.out.2.2.keep hbw) HE.out.2.2 (by unfold maxLen; omega) (by omega) hHw ?_; intro v6 w6 hown6 hgrow6)
          go_roundw
          case rel => exact ⟨.inr (.inr (.inr ⟨rfl, hown6⟩)), by
            have := bw_grow hgrow6 (base := H) (by rw [← hH.out]; exact hbw) hHw ho.out
            rw [← hH.out] at this; exact this⟩
          case measure => simp [intOf]
        · have HF : Hid (wr.ownsRow H 26 6 u6 (L1 ++ L2 ++ L3).length (Tr.cellsI (L1 ++ L2 ++ L3))) := by
            rw [Tr.cellsI_append, Tr.cellsI_append, List.length_append, List.length_append, hn1.out, hn2.out, hn3.out]
            exact ho.out
          clear x1 x2 x3
          go_wp2
          go_ret
          exact ⟨⟨_, rfl, HF.out⟩, hbw⟩
end Go.Proofs.Ytjifdoneejofiaa
