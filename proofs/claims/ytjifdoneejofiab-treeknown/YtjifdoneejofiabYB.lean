/- The library's Grow and Concat at items, of layer 11. -/
import Derived.Test.YtjifdoneejofiabY6
import Derived.Deep.LoopGhost
import Derived.Lib.AppendZeros
namespace Go.Proofs.Ytjifdoneejofiab
open Go.RowKit Go.Deep
set_option linter.unusedVariables false
set_option linter.unusedSimpArgs false

set_option maxRecDepth 100000 in
theorem with1_any (y : Tr.Iv) (p : Tr.B) (hp : p.length ≤ 4611686018427387904) (hf : Tr.Fit y.it) (w : World) : Calls Try.prog 27 #[.agg y.arr, .string (Nm.S p)] w fun e w' => e = .returned (.int .i64 (Nm.cmp y.it.path p)) ∧ Bw w w' := by
  obtain ⟨W, hW⟩ : ∃ W, W = w.alloc (.cells y.arr 26) := ⟨_, rfl⟩
  have hbw : Bw w W := by rw [hW]; exact bw_alloc11 (Bw.refl _) _
  have hX : BoxAt W w.heap.size y := by rw [hW]; exact BoxAt.new _ _
  obtain ⟨x0, -, -, -, -, -⟩ := hX.cells
  have HF : Hid (∀ u, Calls Try.prog 28 #[.string (Nm.S y.it.path), .string (Nm.S p)] u fun e w' => e = .returned (.int .i64 (Nm.cmp y.it.path p)) ∧ Bw u w') := fun u => ncompareL y.it.path p (by have := hf.path; omega) hp u
  clear hX
  go_enter Try.func27, Try.ntmps27
  go_upto_region 1 with fail
  rw [← hW]
  clear hW
  go_wp2_with (go_at_call 28; refine (HF.out _).mono ?_; rintro e w1 ⟨rfl, hw1⟩)
  go_ret
  exact ⟨rfl, hbw.trans hw1⟩
namespace Tr
/-- a place in a tree for a path -/
structure Place (t : List It) (p : B) (c : Nat) (b : Bool) : Prop where
  le : c ≤ t.length
  low : ∀ (j : Nat) (x : It), j < c → t[j]? = some x → Nm.cmp x.path p = -1
  high : ∀ (j : Nat) (x : It), c ≤ j → t[j]? = some x → Nm.cmp x.path p ≠ -1
  there : b = true ↔ ∃ x, t[c]? = some x ∧ x.path = p
theorem cmp_mono {t : List It} (hs : Srt t) {p : B} {j k : Nat} {x y : It} (hjk : j ≤ k) (hx : t[j]? = some x) (hy : t[k]? = some y) (h : Nm.cmp y.path p = -1) : Nm.cmp x.path p = -1 := by
  rcases Nat.lt_or_ge j k with g | g
  · have h1 := hs j k x y g hx hy
    have f := Nm.cmp_facts x.path y.path p
    have r := (Nm.cmp_facts x.path p p).1
    have := f.2.2.2.2 (by omega) (by omega)
    omega
  · obtain rfl : j = k := by omega
    rw [hx] at hy; obtain rfl := Option.some.inj hy; exact h
end Tr
set_option maxRecDepth 100000 in
set_option maxHeartbeats 4000000 in
theorem bsearch_any (A : Option Addr) (cap : Nat) (L : List Tr.Iv) (p : Tr.B) (hn : L.length ≤ 1000000) (hp : p.length ≤ 4611686018427387904) (hs : Tr.Srt (Tr.its L)) (w : World) (ha : ItsAt w A L) :
    Calls Try.prog 26 #[.slice A L.length cap, .string (Nm.S p), .func (.func 27) #[] #[]] w fun e w' => ∃ c b, e = .returned (.tuple #[.int .i64 ((c : Nat) : Int), .bool b]) ∧ Tr.Place (Tr.its L) p c b ∧ Bw w w' := by
  obtain ⟨n, hnn⟩ : ∃ n, Hid (L.length = n) := ⟨_, rfl⟩
  rw [hnn.out] at hn ⊢
  have HA : Hid (ItsAt w A L) := ha
  have HS : Hid (Tr.Srt (Tr.its L)) := hs
  have HTL : Hid ((Tr.its L).length = n) := by show _ = _; rw [Tr.its_len, hnn.out]
  clear ha hs
  go_enter Try.func26, Try.ntmps26
  go_wp2
  go_loopw [9, 10] (fun s9 s10 wr => ∃ lo hi : Nat, s9 = .int .i64 (lo : Int) ∧ s10 = .int .i64 (hi : Int) ∧ lo ≤ hi ∧ hi ≤ n ∧ Hid (∀ (j : Nat) (x : Tr.It), j < lo → (Tr.its L)[j]? = some x → Nm.cmp x.path p = -1) ∧ Hid (∀ (j : Nat) (x : Tr.It), hi ≤ j → (Tr.its L)[j]? = some x → Nm.cmp x.path p ≠ -1) ∧ Bw w wr) (fun s9 s10 _ => (intOf s10).toNat - (intOf s9).toNat)
  case atStart => exact ⟨0, n, rfl, rfl, Nat.zero_le _, Nat.le_refl _, (fun j x hj => absurd hj (Nat.not_lt_zero _)), (fun j x hj hx => by have := (List.getElem?_eq_some_iff.1 hx).1; rw [HTL.out] at this; omega), Bw.refl _⟩
  case round =>
    obtain ⟨lo, hi, rfl, rfl, hlh, hin, hlow, hhigh, hbw⟩ := hrel
    by_cases hlt : lo < hi
    · obtain ⟨y, hy⟩ : ∃ y, Hid (L[(lo + hi) / 2]? = some y) := ⟨_, List.getElem?_eq_getElem (by rw [hnn.out]; omega)⟩
      obtain ⟨b, off, rfl, hY, hB⟩ := (HA.out.keep hbw).at hy.out
      have HY : Hid (ItAt wr b (off + (lo + hi) / 2 * 6) y) := hY
      have HTy : Hid ((Tr.its L)[(lo + hi) / 2]? = some y.it) := Tr.its_at hy.out
      obtain ⟨cv, hcv⟩ : ∃ r, Hid (Nm.cmp y.it.path p = r) := ⟨_, rfl⟩
      have hcr := (Nm.cmp_facts y.it.path p p).1
      rw [hcv.out] at hcr
      have HF : Hid (∀ u, Calls Try.prog 27 #[.agg y.arr, .string (Nm.S p)] u fun e w' => e = .returned (.int .i64 cv) ∧ Bw u w') := fun u => by
        rw [← hcv.out]; exact with1_any y p hp hB.fit u
      clear hY hB
      by_cases hc : cv < 0
      · have HLo : Hid (∀ (j : Nat) (x : Tr.It), j < (lo + hi) / 2 + 1 → (Tr.its L)[j]? = some x → Nm.cmp x.path p = -1) := fun j x hj hx =>
          Tr.cmp_mono HS.out (show j ≤ (lo + hi) / 2 by omega) hx HTy.out (by rw [hcv.out]; omega)
        go_wp2_with (first
          | refine wpList_load_it (by rfl) (.tmp 27) rfl b (off + (lo + hi) / 2 * 6) rfl y HY.out ?_
          | (go_at_call 27; refine (HF.out _).mono ?_; rintro e w1 ⟨rfl, hw1⟩))
        go_roundw
        case rel => exact ⟨(lo + hi) / 2 + 1, hi, by rw [show ((lo : Int) + (hi : Int)) / 2 + 1 = (((lo + hi) / 2 + 1 : Nat) : Int) by omega], rfl, by omega, hin, HLo.out, hhigh.out, hbw.trans hw1⟩
        case measure => simp [intOf]; omega
      · have HHi : Hid (∀ (j : Nat) (x : Tr.It), (lo + hi) / 2 ≤ j → (Tr.its L)[j]? = some x → Nm.cmp x.path p ≠ -1) := fun j x hj hx e => by
          have := Tr.cmp_mono HS.out hj HTy.out hx e
          rw [hcv.out] at this
          omega
        go_wp2_with (first
          | refine wpList_load_it (by rfl) (.tmp 27) rfl b (off + (lo + hi) / 2 * 6) rfl y HY.out ?_
          | (go_at_call 27; refine (HF.out _).mono ?_; rintro e w1 ⟨rfl, hw1⟩))
        go_roundw
        case rel => exact ⟨lo, (lo + hi) / 2, rfl, by rw [show ((lo : Int) + (hi : Int)) / 2 = (((lo + hi) / 2 : Nat) : Int) by omega], by omega, by omega, hlow.out, HHi.out, hbw.trans hw1⟩
        case measure => simp [intOf]; omega
    · obtain rfl : hi = lo := by omega
      by_cases hlt2 : hi < n
      · obtain ⟨y, hy⟩ : ∃ y, Hid (L[hi]? = some y) := ⟨_, List.getElem?_eq_getElem (by rw [hnn.out]; omega)⟩
        obtain ⟨b, off, rfl, hY, hB⟩ := (HA.out.keep hbw).at hy.out
        have HY : Hid (ItAt wr b (off + hi * 6) y) := hY
        have HTy : Hid ((Tr.its L)[hi]? = some y.it) := Tr.its_at hy.out
        obtain ⟨cv, hcv⟩ : ∃ r, Hid (Nm.cmp y.it.path p = r) := ⟨_, rfl⟩
        have HF : Hid (∀ u, Calls Try.prog 27 #[.agg y.arr, .string (Nm.S p)] u fun e w' => e = .returned (.int .i64 cv) ∧ Bw u w') := fun u => by
          rw [← hcv.out]; exact with1_any y p hp hB.fit u
        have i0 : (0 : Int) ≤ (hi : Int) := Int.natCast_nonneg _
        have i1 : (hi : Int) < (n : Int) := by omega
        have hz := (Nm.cmp_facts y.it.path p p).2.2.1
        rw [hcv.out] at hz
        have HP : Hid (∀ b : Bool, (b = true ↔ cv = 0) → Tr.Place (Tr.its L) p hi b) := fun b hb => ⟨by rw [HTL.out]; omega, hlow.out, hhigh.out, by
          rw [hb, hz]
          constructor
          · intro e; exact ⟨y.it, HTy.out, e⟩
          · rintro ⟨x, hx, e⟩
            rw [HTy.out] at hx; obtain rfl := Option.some.inj hx; exact e⟩
        clear hY hB hz
        obtain ⟨bb, hbb⟩ : ∃ b : Bool, (cv == 0) = b := ⟨_, rfl⟩
        have HBB : Hid (bb = true ↔ cv = 0) := by rw [← hbb]; exact beq_iff_eq
        go_wp2_with (first
          | refine wpList_load_it (by rfl) (.tmp 43) rfl b (off + hi * 6) rfl y HY.out ?_
          | (go_at_call 27; refine (HF.out _).mono ?_; rintro e w1 ⟨rfl, hw1⟩))
        go_ret2
        exact ⟨hi, bb, rfl, HP.out bb HBB.out, hbw.trans hw1⟩
      · obtain rfl : hi = n := by omega
        have HP : Hid (Tr.Place (Tr.its L) p hi false) := ⟨by rw [HTL.out]; omega, hlow.out, hhigh.out, ⟨(fun e => by cases e), by
          rintro ⟨x, hx, -⟩
          have := (List.getElem?_eq_some_iff.1 hx).1
          rw [HTL.out] at this
          omega⟩⟩
        go_wp2
        go_ret2
        exact ⟨hi, false, rfl, HP.out, hbw⟩
end Go.Proofs.Ytjifdoneejofiab
namespace Go.Proofs.Ytjifdoneejofiab
open Go.RowKit Go.Deep
set_option linter.unusedVariables false
set_option linter.unusedSimpArgs false

theorem zero_size11 (n : Nat) : (Builtin.zeroCells Tr.zeros.cells n).size = n * 6 := by
  unfold Builtin.zeroCells
  rw [Array.size_map, Array.size_range]
  rfl
def GrowEnds (base : Nat) (e : Ending) (w' : World) : Prop := ∃ cap, e = .returned (.slice (some ⟨base, 0, none⟩) 0 cap) ∧ w'.ownsRow base 26 6 (.slice (some ⟨base, 0, none⟩) 0 cap) 0 []
set_option maxRecDepth 100000 in
set_option maxHeartbeats 1000000 in
theorem grow_any (n : Nat) (h0 : 0 < n) (hn : n ≤ 1000) (w : World) :
    Calls Try.prog 51 #[.slice none 0 0, .int .i64 (n : Int)] w fun e w' => GrowEnds w.heap.size e w' ∧ Bw w w' := by
  obtain ⟨j0, hj0, hy0, hy1, hy2⟩ := info_parts info_item
  have hrun := Lib.run_append_nil_zeros (P := Try.prog) w 22 3 22 26 j0 _ .i64 .i64 Try.underlying22 Try.underlying3 hj0 hy0 n h0 (by rw [hy1]; omega) (by omega) (by rw [hy2]; omega)
  obtain ⟨C, hC⟩ : ∃ C, Hid (grownCap w n 0 26 = C) := ⟨_, rfl⟩
  have h1 := grownCap_ge w n 0 26
  have h2 := grownCap_le_maxLen w n 0 26 (by unfold maxLen; omega)
  rw [hC.out] at hrun h1 h2
  obtain ⟨Z, hZ⟩ : ∃ Z, Hid (Builtin.zeroCells Tr.zeros.cells n ++ Builtin.zeroCells Tr.zeros.cells (C - n) = Z) := ⟨_, rfl⟩
  have hzs : Z.size = C * 6 := by
    rw [← hZ.out, Array.size_append, zero_size11, zero_size11]
    omega
  rw [hZ.out] at hrun
  have HM : Hid ((w.drew.alloc (.cells Z 26)).ownsRow w.heap.size 26 6 (.slice (some ⟨w.heap.size, 0, none⟩) 0 C) 0 []) := World.ownsRow_made w.drew Z C (Nat.le_refl _) h2 hzs
  have HB : Hid (Bw w (w.drew.alloc (.cells Z 26))) := bw_alloc11 (Below.drew (Bw.refl _)) _
  obtain ⟨W, hW⟩ : ∃ W, Hid (w.drew.alloc (.cells Z 26) = W) := ⟨_, rfl⟩
  rw [hW.out] at HM HB hrun
  have c1 : (0 : Int) ≤ (C : Int) := Int.natCast_nonneg _
  have c2 : (0 : Int) < (n : Int) := by omega
  have HRun : Hid _ := hrun
  clear hrun hzs
  go_enter Try.func51, Try.ntmps51
  go_wp2_with (at_builtin; refine Lib.wpList_append_run _ rfl (.tmp 20) (.tmp 21) _ _ rfl _ _ rfl rfl _ _ HRun.out ?_)
  go_ret
  exact ⟨⟨C, rfl, HM.out⟩, HB.out⟩
def ConcatEnds (base : Nat) (L : List Tr.Iv) (e : Ending) (w' : World) : Prop := ∃ v, e = .returned v ∧ w'.ownsRow base 26 6 v L.length (Tr.cellsI L)
set_option maxRecDepth 100000 in
set_option maxHeartbeats 4000000 in
theorem concat3_any (k : Nat) (A1 A2 A3 : Option Addr) (c1 c2 c3 : Nat) (L1 L2 L3 : List Tr.Iv) (h0 : 0 < L1.length + L2.length + L3.length) (hN : L1.length + L2.length + L3.length ≤ 1000) (w : World)
    (d1 : w.cell? ⟨k, 0, none⟩ = some (.slice A1 L1.length c1)) (d2 : w.cell? ⟨k, 1, none⟩ = some (.slice A2 L2.length c2)) (d3 : w.cell? ⟨k, 2, none⟩ = some (.slice A3 L3.length c3))
    (I1 : ItsAt w A1 L1) (I2 : ItsAt w A2 L2) (I3 : ItsAt w A3 L3) (e1 : A1 = none → L1.length = 0 ∧ c1 = 0) (e2 : A2 = none → L2.length = 0 ∧ c2 = 0) (e3 : A3 = none → L3.length = 0 ∧ c3 = 0) :
    Calls Try.prog 30 #[.slice (some ⟨k, 0, none⟩) 3 3] w fun e w' => ConcatEnds w.heap.size (L1 ++ L2 ++ L3) e w' ∧ Bw w w' := by
  obtain ⟨n1, hn1⟩ : ∃ n, Hid (L1.length = n) := ⟨_, rfl⟩
  obtain ⟨n2, hn2⟩ : ∃ n, Hid (L2.length = n) := ⟨_, rfl⟩
  obtain ⟨n3, hn3⟩ : ∃ n, Hid (L3.length = n) := ⟨_, rfl⟩
  rw [hn1.out, hn2.out, hn3.out] at h0 hN
  rw [hn1.out] at d1 e1
  rw [hn2.out] at d2 e2
  rw [hn3.out] at d3 e3
  have HD : Hid (∀ u, Bw w u → u.cell? ⟨k, 0, none⟩ = some (.slice A1 n1 c1) ∧ u.cell? ⟨k, 1, none⟩ = some (.slice A2 n2 c2) ∧ u.cell? ⟨k, 2, none⟩ = some (.slice A3 n3 c3)) := fun u hu => ⟨keep_cell11 d1 hu, keep_cell11 d2 hu, keep_cell11 d3 hu⟩
  have HI : Hid (ItsAt w A1 L1 ∧ ItsAt w A2 L2 ∧ ItsAt w A3 L3) := ⟨I1, I2, I3⟩
  have HE : Hid ((A1 = none → n1 = 0 ∧ c1 = 0) ∧ (A2 = none → n2 = 0 ∧ c2 = 0) ∧ (A3 = none → n3 = 0 ∧ c3 = 0)) := ⟨e1, e2, e3⟩
  obtain ⟨j0, hj0, hy0, hy1, hy2⟩ := info_parts info_item
  obtain ⟨H, hH⟩ : ∃ H, Hid (w.heap.size = H) := ⟨_, rfl⟩
  have HG : Hid (∀ u, Calls Try.prog 51 #[.slice none 0 0, .int .i64 ((n1 : Int) + (n2 : Int) + (n3 : Int))] u fun e w' => GrowEnds u.heap.size e w' ∧ Bw u w') := fun u => by
    have := grow_any (n1 + n2 + n3) h0 hN u
    rwa [show ((n1 + n2 + n3 : Nat) : Int) = (n1 : Int) + (n2 : Int) + (n3 : Int) by omega] at this
  rw [hH.out]
  clear d1 d2 d3 I1 I2 I3 e1 e2 e3
  go_enter Try.func30, Try.ntmps30
  go_wp2
  go_loop [3, 11] (fun sz ix => (sz = .int .i64 0 ∧ ix = .int .i64 0) ∨ (sz = .int .i64 (n1 : Int) ∧ ix = .int .i64 1) ∨ (sz = .int .i64 ((n1 : Int) + (n2 : Int)) ∧ ix = .int .i64 2) ∨ (sz = .int .i64 ((n1 : Int) + (n2 : Int) + (n3 : Int)) ∧ ix = .int .i64 3)) (fun _ ix => 3 - (intOf ix).toNat)
  case atStart => exact .inl ⟨rfl, rfl⟩
  case round =>
    obtain ⟨x1, x2, x3⟩ := HD.out w (Bw.refl _)
    have q1 : (0 : Int) ≤ (n1 : Int) := Int.natCast_nonneg _
    have q2 : (0 : Int) ≤ (n1 : Int) + (n2 : Int) := by omega
    have q3 : (0 : Int) ≤ (n1 : Int) + (n2 : Int) + (n3 : Int) := by omega
    rcases hrel with ⟨rfl, rfl⟩ | ⟨rfl, rfl⟩ | ⟨rfl, rfl⟩ | ⟨rfl, rfl⟩
    · go_wp2
      go_round
      case rel => exact .inr (.inl ⟨by go_num, rfl⟩)
      case measure => simp [intOf]
    · go_wp2
      go_round
      case rel => exact .inr (.inr (.inl ⟨by go_num, rfl⟩))
      case measure => simp [intOf]
    · go_wp2
      go_round
      case rel => exact .inr (.inr (.inr ⟨by go_num, rfl⟩))
      case measure => simp [intOf]
    · clear x1 x2 x3
      go_wp2_with (go_at_call 51; refine (HG.out _).mono ?_; rintro e w1 ⟨⟨cap1, rfl, hown1⟩, hw1⟩; rw [hH.out] at hown1)
      rw [hH.out]
      have HO1 : Hid (w1.ownsRow H 26 6 (.slice (some ⟨H, 0, none⟩) 0 cap1) 0 []) := hown1
      have HW1 : Hid (Bw w w1) := hw1
      clear hown1
      go_loopw [6, 27] (fun v ix wr => ((ix = .int .i64 0 ∧ Hid (wr.ownsRow H 26 6 v 0 [])) ∨ (ix = .int .i64 1 ∧ Hid (wr.ownsRow H 26 6 v n1 (Tr.cellsI L1))) ∨ (ix = .int .i64 2 ∧ Hid (wr.ownsRow H 26 6 v (n1 + n2) (Tr.cellsI L1 ++ Tr.cellsI L2))) ∨ (ix = .int .i64 3 ∧ Hid (wr.ownsRow H 26 6 v (n1 + n2 + n3) (Tr.cellsI L1 ++ Tr.cellsI L2 ++ Tr.cellsI L3)))) ∧ Bw w wr) (fun _ ix _ => 3 - (intOf ix).toNat)
      case atStart => exact ⟨.inl ⟨rfl, HO1.out⟩, HW1.out⟩
      case round =>
        clear HO1 HW1 hw1
        obtain ⟨hcs, hbw⟩ := hrel
        obtain ⟨x1, x2, x3⟩ := HD.out wr hbw
        have hHw : H ≤ wr.heap.size := by rw [← hH.out]; exact hbw.size
        rcases hcs with ⟨rfl, ho⟩ | ⟨rfl, ho⟩ | ⟨rfl, ho⟩ | ⟨rfl, ho⟩
        · go_wp2_with (at_builtin; refine wpList_append_its _ (by rfl) (.tmp 31) (.tmp 32) _ (by rfl) H 26 j0 _ 80 Try.underlying22 hj0 hy0 hy1 hy2 rfl _ _ _ (by rfl) ho.out A1 c1 L1 n1 hn1.out (by rfl) (HI.out.1.keep hbw) HE.out.1 (by unfold maxLen; omega) (by omega) hHw ?_; intro v6 w6 hown6 hgrow6; simp only [Nat.zero_add, List.nil_append] at hown6)
          go_roundw
          case rel => exact ⟨.inr (.inl ⟨rfl, hown6⟩), by
            have := bw_grow hgrow6 (base := H) (by rw [← hH.out]; exact hbw) hHw ho.out
            rw [← hH.out] at this; exact this⟩
          case measure => simp [intOf]
        · go_wp2_with (at_builtin; refine wpList_append_its _ (by rfl) (.tmp 31) (.tmp 32) _ (by rfl) H 26 j0 _ 80 Try.underlying22 hj0 hy0 hy1 hy2 rfl _ _ _ (by rfl) ho.out A2 c2 L2 n2 hn2.out (by rfl) (HI.out.2.1.keep hbw) HE.out.2.1 (by unfold maxLen; omega) (by omega) hHw ?_; intro v6 w6 hown6 hgrow6)
          go_roundw
          case rel => exact ⟨.inr (.inr (.inl ⟨rfl, hown6⟩)), by
            have := bw_grow hgrow6 (base := H) (by rw [← hH.out]; exact hbw) hHw ho.out
            rw [← hH.out] at this; exact this⟩
          case measure => simp [intOf]
        · go_wp2_with (at_builtin; refine wpList_append_its _ (by rfl) (.tmp 31) (.tmp 32) _ (by rfl) H 26 j0 _ 80 Try.underlying22 hj0 hy0 hy1 hy2 rfl _ _ _ (by rfl) ho.out A3 c3 L3 n3 hn3.out (by rfl) (HI.out.2.2.keep hbw) HE.out.2.2 (by unfold maxLen; omega) (by omega) hHw ?_; intro v6 w6 hown6 hgrow6)
          go_roundw
          case rel => exact ⟨.inr (.inr (.inr ⟨rfl, hown6⟩)), by
            have := bw_grow hgrow6 (base := H) (by rw [← hH.out]; exact hbw) hHw ho.out
            rw [← hH.out] at this; exact this⟩
          case measure => simp [intOf]
        · have HF : Hid (wr.ownsRow H 26 6 u6 (L1 ++ L2 ++ L3).length (Tr.cellsI (L1 ++ L2 ++ L3))) := by
            rw [Tr.cellsI_append, Tr.cellsI_append, List.length_append, List.length_append, hn1.out, hn2.out, hn3.out]
            exact ho.out
          clear x1 x2 x3
          go_wp2
          go_ret
          exact ⟨⟨_, rfl, HF.out⟩, hbw⟩
end Go.Proofs.Ytjifdoneejofiab
