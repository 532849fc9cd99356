/- Texts of mine, put together. -/
import Derived.Test.YtldkhbkgmiicbabGreatDoorBu30
import Derived.Test.YtldkhbkgmiicbabGreatDoorBu31
import Derived.Test.YtldkhbkgmiicbabGreatDoorBu12

/- Layer 12: the program's own volume and bytes where the roll stands at the head of a Writer (written by mkzn.py out of Z8 and Z9). -/
namespace Go.Proofs.YtldkhbkgmiicbabGreatDoor
open Go.RowKit Go.Deep Go.Shelf
set_option linter.unusedVariables false
set_option linter.unusedSimpArgs false
attribute [local go_sem] Oper.semAt_some

structure VolW (I : Value) (cl : Bool) (W : World) (gb g base : Nat) (v : Value) (R : Pk.B) : Prop where
  box : W.heap[gb]? = some (.cells #[.pointer (some ⟨g, 0, none⟩)] 63 (0, 0))
  roll : WrAt I cl W g v R
  own : RollOwn W base v R
theorem VolW.keep3 {I : Value} {cl : Bool} {W W' : World} {gb g base : Nat} {v : Value} {R : Pk.B} (h : VolW I cl W gb g base v R) (k : Keep3 gb g v W W') : VolW I cl W' gb g base v R := by
  refine ⟨k.2.1.trans h.box, k.2.2.1.trans h.roll, h.own.1, h.own.2.1, ?_⟩
  rcases h.own.2.2 with e | ⟨q, cap, cur, rfl, h1, h2, h3⟩
  · exact .inl e
  · exact .inr ⟨q, cap, cur, rfl, h1, (k.2.2.2 q rfl).trans h2, h3⟩
theorem VolW.keep {I : Value} {cl : Bool} {W W' : World} {gb g base : Nat} {v : Value} {R : Pk.B} (h : VolW I cl W gb g base v R) (k : Bw W W') : VolW I cl W' gb g base v R :=
  ⟨(k.block gb (Array.getElem?_eq_some_iff.1 h.box).1).trans h.box, h.roll.keep k, h.own.1, own_keep h.own.2 k⟩
set_option maxRecDepth 100000 in
set_option maxHeartbeats 4000000 in
theorem vol1_inW {I : Value} {cl : Bool} (n : Nat) (hn : 3 ≤ n) (l gb g base n0 : Nat) (v : Value) (R : Pk.B) (hR : R.length ≤ 131072) (J Jx : List Nat → World → Prop)
    (hJa : ∀ pre W W', J pre W → W.grownBy W' none → J pre W')
    (hY : ∀ (pre : List Nat) (x : Nat) W1, J pre W1 → (n0 ≤ x ∧ BrkAt W1 x (Pk.vblk R pre.length) ∧ pre.length < R.length / 512 + 2) → YieldAt Fence.wide (n - 1) Tryz.prog l #[.slice (some ⟨x, 0, none⟩) 512 512] W1 fun e W' =>
      (e = .returned (.bool true) ∧ J (pre ++ [x]) W' ∧ Keep3 gb g v W1 W') ∨ (e = .returned (.bool false) ∧ Jx (pre ++ [x]) W'))
    (W : World) (hn0 : n0 ≤ W.heap.size) (hV : VolW I cl W gb g base v R) (h0 : J [] W) :
    CallsIn Fence.wide n Tryz.prog 39 #[.func (.yield l) #[] #[], .pointer (some ⟨gb, 0, none⟩)] W fun e W' => (∃ v, e = .returned v) ∧
      ((∃ xs : List Nat, xs.length = R.length / 512 + 2 ∧ J xs W') ∨ (∃ pre : List Nat, pre.length ≤ R.length / 512 + 2 ∧ Jx pre W')) := by
  have h1 : 1 ≤ n := by omega
  have hz := zero_brk
  obtain ⟨Z, hZ⟩ : ∃ Z, Hid (Z = Hd.arr Hd.zeros) := ⟨_, rfl⟩
  rw [← hZ.out] at hz
  have HZs : Hid (Z.size = 512) := by rw [hZ.out, Hd.arr_size]; exact zeros_len
  have HM : Hid (R.length % 512 = 0) := hV.own.1
  obtain ⟨nb, hnb⟩ : ∃ nb, Hid (R.length / 512 = nb) := ⟨_, rfl⟩
  have hnbl : nb ≤ 256 := by rw [← hnb.out]; omega
  rw [hnb.out] at hY ⊢
  obtain ⟨Av, cv, hve⟩ := own_slice hV.own.2
  rw [hnb.out] at hve
  subst hve
  have cb := cell_of_row W gb 0 _ _ _ hV.box
  have cr := hV.roll.c0
  refine callsIn_of_wp Tryz.func39 rfl trivial ?_ rfl
  simp only [Tryz.ntmps39, List.size_toArray, List.length_cons, List.length_nil, Nat.reduceAdd, Nat.reduceSub, Array.replicate_succ, Array.replicate_zero, List.push_toArray, List.append_toArray, List.nil_append, List.cons_append]
  gi_wp2
  gi_loopw [11] (fun i wr => ∃ (k : Nat) (pre : List Nat), k ≤ nb ∧ i = .int .i64 (k : Int) ∧ Hid (pre.length = k) ∧ VolW I cl wr gb g base (.slice Av nb cv) R ∧ n0 ≤ wr.heap.size ∧ J pre wr) (fun i _ => nb - (intOf i).toNat)
  case atStart => exact ⟨0, [], Nat.zero_le _, rfl, rfl, hV, hn0, h0⟩
  case round =>
    obtain ⟨k, pre, hk, rfl, hpre, hVr, hn0r, hJ⟩ := hrel
    have k0 : (0 : Int) ≤ (k : Int) := Int.natCast_nonneg _
    have cb := cell_of_row wr gb 0 _ _ _ hVr.box
    have cr := hVr.roll.c0
    by_cases hlt : k < nb
    · have i1 : (k : Int) < (nb : Int) := by omega
      obtain ⟨q, rfl⟩ : ∃ q, Av = some ⟨q, 0, none⟩ := by
        rcases hVr.own.2.2 with ⟨e, _⟩ | ⟨q, cap, cur, e, _⟩
        · cases e; omega
        · cases e; exact ⟨q, rfl⟩
      have hrg := own_range hVr.own (k := k) (by rw [hnb.out]; exact hlt)
      obtain ⟨B, hB⟩ : ∃ B, Hid (Pk.vblk R k = B) := ⟨_, rfl⟩
      have HBl : Hid (B.length = 512) := by rw [← hB.out]; exact Pk.vblk_len HM.out (by rw [hnb.out]; omega)
      rw [hB.out] at hrg
      gi_wp2_with (first
        | (refine wpListIn_load_brk rfl _ rfl q (k * 512) rfl B HBl.out hrg ?_)
        | (refine wpListIn_store_brk rfl _ _ rfl Z HZs.out B HBl.out rfl rfl ?_; obtain ⟨w2, hw2⟩ : ∃ V, V = wr.alloc (.cells (Hd.arr B) 89) := ⟨_, rfl⟩; have hb2 : Bw wr w2 := (by rw [hw2]; exact bw_alloc7 (Bw.refl _) _); have hA2 : BrkAt w2 wr.heap.size B := (by rw [hw2]; exact brk_new _ _); have hJ2 : J pre w2 := (by rw [hw2]; exact hJa _ _ _ hJ (grown_alloc12 _ _)); rw [← hw2]; clear hw2; obtain ⟨fn, tmps, assign, body, hy, hRd⟩ := hY pre wr.heap.size w2 hJ2 ⟨hn0r, by rw [hpre.out, hB.out]; exact hA2, by rw [hpre.out]; omega⟩)
        | gi_in)
      refine hRd.mono ?_
      rintro e W3 (⟨rfl, hJ3, hk3⟩ | ⟨rfl, hJx3⟩)
      · have hV3 := (hVr.keep hb2).keep3 hk3
        have hn3 : n0 ≤ W3.heap.size := Nat.le_trans hn0r (Nat.le_trans hb2.size hk3.1)
        gi_wp2
        go_roundw
        case rel => exact ⟨k + 1, pre ++ [wr.heap.size], by omega, by go_num, by show _ = _; rw [List.length_append, hpre.out]; rfl, hV3, hn3, hJ3⟩
        case measure => simp [intOf]; omega
      · gi_wp2
        refine bodyPost_ret (results_none rfl _ _ _) rfl ?_
        exact ⟨⟨_, rfl⟩, .inr ⟨_, by rw [List.length_append, hpre.out]; show k + 1 ≤ _; omega, hJx3⟩⟩
    · have i1 : ¬ (k : Int) < (nb : Int) := by omega
      obtain rfl : k = nb := by omega
      rename World => wo
      gi_wp2
      gi_loopw [26] (fun i wr => ∃ (j : Nat) (pre : List Nat), j ≤ 2 ∧ i = .int .i64 (j : Int) ∧ Hid (pre.length = k + j) ∧ VolW I cl wr gb g base (.slice Av k cv) R ∧ n0 ≤ wr.heap.size ∧ J pre wr) (fun i _ => 2 - (intOf i).toNat)
      case atStart => exact ⟨0, pre, Nat.zero_le _, rfl, hpre, hVr, hn0r, hJ⟩
      case round =>
        obtain ⟨j, pre2, hj, rfl, hpre2, hVr2, hn0r2, hJ2⟩ := hrel
        have j0 : (0 : Int) ≤ (j : Int) := Int.natCast_nonneg _
        by_cases hlt2 : j < 2
        · have i2 : (j : Int) < 2 := by omega
          have hA2 : BrkAt (wr.alloc (.cells Z 89)) wr.heap.size (Pk.vblk R pre2.length) := by rw [hpre2.out, ← hnb.out, Pk.vblk_high HM.out hlt2, hZ.out]; exact brk_new _ _
          have hb2 : Bw wr (wr.alloc (.cells Z 89)) := bw_alloc7 (Bw.refl _) _
          obtain ⟨fn, tmps, assign, body, hy, hRd⟩ := hY pre2 wr.heap.size (wr.alloc (.cells Z 89)) (hJa _ _ _ hJ2 (grown_alloc12 _ _)) ⟨hn0r2, hA2, by rw [hpre2.out]; omega⟩
          gi_wp2
          refine hRd.mono ?_
          rintro e W3 (⟨rfl, hJ3, hk3⟩ | ⟨rfl, hJx3⟩)
          · have hV3 := (hVr2.keep hb2).keep3 hk3
            have hn3 : n0 ≤ W3.heap.size := Nat.le_trans hn0r2 (Nat.le_trans hb2.size hk3.1)
            gi_wp2
            go_roundw
            case rel => exact ⟨j + 1, pre2 ++ [wr.heap.size], by omega, by go_num, by show _ = _; rw [List.length_append, hpre2.out]; rfl, hV3, hn3, hJ3⟩
            case measure => simp [intOf]; omega
          · gi_wp2
            refine bodyPost_ret (results_none rfl _ _ _) rfl ?_
            exact ⟨⟨_, rfl⟩, .inr ⟨_, by rw [List.length_append, hpre2.out]; show k + j + 1 ≤ _; omega, hJx3⟩⟩
        · have i2 : ¬ (j : Int) < 2 := by omega
          obtain rfl : j = 2 := by omega
          gi_wp2
          go_end0
          exact ⟨⟨_, rfl⟩, .inl ⟨pre2, hpre2.out, hJ2⟩⟩
/-- the iterator in the form of the range law -/
theorem vol_seqW {I : Value} {cl : Bool} (n : Nat) (hn : 3 ≤ n) (gb g base : Nat) (v : Value) (R : Pk.B) (hR : R.length ≤ 131072) (w : World) (hV : VolW I cl w gb g base v R) :
    SeqAt Fence.wide n Tryz.prog 39 #[.pointer (some ⟨gb, 0, none⟩)] (fun x : Nat => #[.slice (some ⟨x, 0, none⟩) 512 512]) (Keep3 gb g v) (fun (pre : List Nat) (x : Nat) W => w.heap.size ≤ x ∧ BrkAt W x (Pk.vblk R pre.length) ∧ pre.length < R.length / 512 + 2)
      (fun xs => xs.length = R.length / 512 + 2) (fun pre => pre.length ≤ R.length / 512 + 2) w :=
  fun l J Jx W hW hJ hJx hY h0 => vol1_inW n hn l gb g base w.heap.size v R hR J Jx (fun pre A B h k => hJ pre A B none h k (fun r e => by cases e)) hY W hW.size (hV.keep hW) h0
set_option maxRecDepth 100000 in
set_option maxHeartbeats 4000000 in
theorem bytes_inW {I : Value} {cl : Bool} (g : Nat) (v : Value) (R : Pk.B) (hR : R.length + 1024 ≤ 131072) (w : World) (ha : WrAt I cl w g v R) (base0 : Nat) (ho : RollOwn w base0 v R) :
    CallsIn Fence.wide 10 Tryz.prog 20 #[.pointer (some ⟨g, 0, none⟩)] w fun e w' => (∃ u, e = .returned u ∧ w'.ownsRow w.heap.size 5 1 u (R.length + 1024) (Lib.byteCells (R ++ List.replicate 1024 0))) ∧ Bw w w' := by
  obtain ⟨nR, hnR⟩ : ∃ n, Hid (R.length = n) := ⟨_, rfl⟩
  have HM : Hid (R.length % 512 = 0) := ho.1
  rw [hnR.out] at hR ⊢
  obtain ⟨V, hVe⟩ : ∃ V : Pk.B, Hid (R ++ List.replicate 1024 0 = V) := ⟨_, show R ++ List.replicate 1024 0 = _ from rfl⟩
  rw [hVe.out]
  obtain ⟨M, hMs, hmk⟩ := made_none (nR + 1024) (by omega)
  have hmk' : ∀ w, (Instr.makeSlice 24 (.int .i64 0) (.int .i64 ((nR : Int) + 1024))).run Tryz.prog w = .ok (.slice (some ⟨w.heap.size, 0, none⟩) 0 (nR + 1024)) (w.alloc (.cells M 5)) := fun w => by have := hmk w; rw [show (((nR + 1024 : Nat)) : Int) = (nR : Int) + 1024 by omega] at this; exact this
  have c1 := ha.c1
  rw [hnR.out] at c1
  have hgl := ha.lt
  have hvl : ∀ k, v.ownBlock = some k → k < w.heap.size := fun k hk => (World.ownsRow.lt ho.2 k hk).2
  refine callsIn_of_wp_marks Tryz.func20 rfl trivial ?_ rfl
  simp only [Tryz.ntmps20, List.size_toArray, List.length_cons, List.length_nil, Nat.reduceAdd, Nat.reduceSub, Array.replicate_succ, Array.replicate_zero, List.push_toArray, List.append_toArray, List.nil_append, List.cons_append]
  gi_wp2_with (first
    | (refine ⟨trivial, ?_⟩; gi_at_call 28; refine (callsIn_wide.2 (volume_any g _)).mono ?_; rintro e w2 ⟨rfl, hw2⟩; have HW2 : Hid (w2 = _) := hw2; clear hw2))
  have hw2 := HW2.out
  have s2 : w2.heap.size = w.heap.size + 3 := by rw [hw2]; simp
  have hb2 : Bw w w2 := by rw [hw2]; exact bw_alloc7 (bw_alloc7 (bw_alloc7 (Bw.refl _) _) _) _
  have hB2 : Boxed w2 (w.heap.size + 1) 24 (.slice (some ⟨w.heap.size, 0, none⟩) 0 (nR + 1024)) := by
    have := (Boxed.new (w.alloc (.cells M 5)) 24 (.slice (some ⟨w.heap.size, 0, none⟩) 0 (nR + 1024))).alloc (.cells #[.pointer (some ⟨g, 0, none⟩)] 63)
    rw [alloc_size9] at this
    rw [hw2]; exact this
  have hO2 : w2.ownsRow w.heap.size 5 1 (.slice (some ⟨w.heap.size, 0, none⟩) 0 (nR + 1024)) 0 [] := by
    rw [hw2]; exact ((World.ownsRow_made w M (nR + 1024) (Nat.le_refl _) (by unfold maxLen; omega) hMs).alloc _).alloc _
  have hG2 : Boxed w2 (w.heap.size + 2) 63 (.pointer (some ⟨g, 0, none⟩)) := by
    have := Boxed.new ((w.alloc (.cells M 5)).alloc (.cells #[.slice (some ⟨w.heap.size, 0, none⟩) 0 (nR + 1024)] 24)) 63 (.pointer (some ⟨g, 0, none⟩))
    rw [alloc_size9, alloc_size9] at this
    rw [hw2]; exact this
  have hV2 : VolW I cl w2 (w.heap.size + 2) g base0 v R := ⟨hG2, ha.keep hb2, ho.1, own_keep ho.2 hb2⟩
  have hgs : Hid (w.heap[g]? = w2.heap[g]?) := (hb2.block g hgl).symm
  clear hw2 HW2
  obtain ⟨i0, hi0, hz0, hz1, hz2⟩ := info_parts info_u8
  have HVl : Hid (V.length = nR + 1024) := by show _ = _; rw [← hVe.out, List.length_append, List.length_replicate, hnR.out]
  have HVT : Hid (∀ k, k < R.length / 512 + 2 → V.take (512 * k) ++ Pk.vblk R k = V.take (512 * (k + 1))) := fun k hk => by rw [← hVe.out]; exact Pk.vol_take HM.out hk
  have HBl : Hid (∀ k, k < R.length / 512 + 2 → (Pk.vblk R k).length = 512) := fun k hk => Pk.vblk_len HM.out hk
  clear hmk hmk' hMs ha ho
  refine' range_at rfl (by omega) (gf := 39) (lb := #[.pointer (some ⟨w.heap.size + 2, 0, none⟩)]) (by simp [Act.eval, alloc_size9]) trivial (enters_of Tryz.func39 (by kernel_rfl) rfl)
    (vol_seqW 9 (by omega) (w.heap.size + 2) g base0 v R (by rw [hnR.out]; omega) w2 hV2) (fun h k => h.trans k) ?kb (Below.refl _ _) (fun _ => rfl) ?hat
    (fun (pre : List Nat) W => ((∃ u, Boxed W (w.heap.size + 1) 24 u ∧ W.ownsRow w.heap.size 5 1 u (512 * pre.length) (Lib.byteCells (V.take (512 * pre.length))) ∧ True) ∧ Below w.heap.size w W) ∧ Boxed W (w.heap.size + 2) 63 (.pointer (some ⟨g, 0, none⟩)))
    (fun c pre W => False)
    (OwnFrom.and (OwnFrom.and (Own.from (holdsRow_own w.heap.size (w.heap.size + 1) 24 5 1 (fun pre : List Nat => 512 * pre.length) (fun pre : List Nat => Lib.byteCells (V.take (512 * pre.length))) (fun _ _ => True)) _) (ownFrom_below (Nat.le_refl _) (by omega))) (boxed_from _ _ _ _))
    (fun c => fun _ _ _ _ h _ _ => h)
    ⟨⟨⟨_, hB2, hO2, trivial⟩, hb2⟩, hG2⟩
    _ ?assign ?body ?done ?stop
  case kb =>
    intro W l o o' hl hlo _ _
    have hsz : (W.putObj l o').heap.size = W.heap.size := by simp [World.putObj]
    exact ⟨by omega, World.putObj_heap_other (by omega), World.putObj_heap_other (by omega), fun k hk => World.putObj_heap_other (by have := hvl k hk; omega)⟩
  case hat =>
    intro pre x W l o o' hl hlo hoc ⟨h1, h2, h3⟩
    refine ⟨h1, (World.putObj_heap_other (fun e => ?_)).trans h2, h3⟩
    unfold BrkAt at h2
    rw [e, hlo] at h2
    cases h2
    cases hoc
  case assign =>
    intro l x W K hK
    gi_wp2
    exact hK
  case body =>
    rintro l pre x W ⟨⟨⟨u, hBu, hou, -⟩, hbw⟩, hG⟩ ⟨hx0, hxB, hlt⟩
    have hc := hBu.cell
    have hf := hBu.frozen
    have hsz := hbw.size
    have hpl : 512 * pre.length ≤ 131072 := by rw [hnR.out] at hlt; omega
    have hbl := HBl.out _ hlt
    have hvt := HVT.out _ hlt
    obtain ⟨p, hp⟩ : ∃ p, Hid (512 * pre.length = p) := ⟨_, rfl⟩
    rw [hp.out] at hpl hou hvt
    show Code.wpIn _ _ _ _ _ _ _
    gi_wp2_with (first
      | (gi_at_builtin; refine wpListIn_append_own W (by rfl) _ _ 24 (by rfl) w.heap.size 5 i0 _ 1 1 Tryz.underlying24 hi0 hz0 hz1 hz2 rfl (by decide) u p _ (by rfl) hou ⟨x, 0, none⟩ 512 512 (Lib.byteCells (Pk.vblk R pre.length)) (by rfl) (by rw [Lib.byteCells_length, hbl]) (brk_news hxB) (Lib.byteCells_one _) (by unfold maxLen; omega) (by omega) hsz ?_; intro v5 w3 ho3 hg3 _
         obtain ⟨A5, c5, rfl⟩ := own_slice ho3
         obtain ⟨hB3, hB4, ho4, hko, hbl4⟩ := box_put hBu (by decide) hou hsz (Nat.le_succ _) ho3 hg3
         have hG3 : Boxed w3 (w.heap.size + 2) 63 (.pointer (some ⟨g, 0, none⟩)) := hG.kept hg3 (hG.not_row (by decide) hou)
         have hG4 : Boxed (w3.setCell ⟨w.heap.size + 1, 0, none⟩ (.slice A5 (p + 512) c5)) (w.heap.size + 2) 63 (.pointer (some ⟨g, 0, none⟩)) := hG3.kept (grownBy_setCell' _ _ _) (by simp)
         have hc3 := hB3.cell
         have hf3 := hB3.frozen
         clear hc hf
         refine Hid.out ?_)
      | gi_in)
    refine Lib.hid ?_
    gi_wp2
    have hbw4 := hbw.trans hbl4
    refine ⟨hko, ⟨hko.size, hG4.trans hG.symm, (hbw4.block g hgl).trans (hbw.block g hgl).symm, fun k hk => (hbw4.block k (hvl k hk)).trans (hbw.block k (hvl k hk)).symm⟩, ⟨⟨_, hB4, ?_, trivial⟩, hbw4⟩, hG4⟩
    rw [List.length_append, List.length_singleton, ← hvt, show 512 * (pre.length + 1) = p + 512 by rw [← hp.out]; omega, show Lib.byteCells (V.take p ++ Pk.vblk R pre.length) = Lib.byteCells (V.take p) ++ Lib.byteCells (Pk.vblk R pre.length) by simp [Lib.byteCells]]
    exact ho4
  case done =>
    rintro D xs W hD hS ⟨⟨⟨u, hBu, hou, -⟩, hbw⟩, -⟩ hK
    have hc := hBu.cell
    rw [hS] at hou
    have e1 : 512 * (R.length / 512 + 2) = nR + 1024 := by have := HM.out; rw [hnR.out] at this ⊢; omega
    rw [e1, List.take_of_length_le (by rw [HVl.out]; exact Nat.le_refl _)] at hou
    gi_wp2
    refine ⟨by simp, .inl ⟨_, _, rfl, run_takeDeferred hK, ?_⟩⟩
    refine ⟨u, ?_, ⟨u, rfl, ownsRow_putObj hou _ hK rfl⟩, hbw.trans (belowK_b (w := w) (Nat.le_refl _) _ D _ (.deferred none) (by omega) hK rfl rfl)⟩
    simp [results, Tryz.f20, go_sem]
  case stop =>
    rintro D c pre W hD _ h
    exact h.elim
theorem bytes_anyW {I : Value} {cl : Bool} (g : Nat) (v : Value) (R : Pk.B) (hR : R.length + 1024 ≤ 131072) (w : World) (ha : WrAt I cl w g v R) (base0 : Nat) (ho : RollOwn w base0 v R) :
    Calls Tryz.prog 20 #[.pointer (some ⟨g, 0, none⟩)] w fun e w' => (∃ u, e = .returned u ∧ w'.ownsRow w.heap.size 5 1 u (R.length + 1024) (Lib.byteCells (R ++ List.replicate 1024 0))) ∧ Bw w w' :=
  callsIn_wide.1 (bytes_inW g v R hR w ha base0 ho)
end Go.Proofs.YtldkhbkgmiicbabGreatDoor

/- Layer 12: the program's own Writer: New, Len, Close, mayWrite. -/
namespace Go.Proofs.YtldkhbkgmiicbabGreatDoor
open Go.RowKit Go.Deep Go.Shelf
set_option linter.unusedVariables false
set_option linter.unusedSimpArgs false

theorem built_writer0 : Tryz.prog.built 59 [] = some #[.slice none 0 0, .int .i64 0, .slice none 0 0, .bool false] := by kernel_rfl
theorem maywr_any {I : Value} {cl : Bool} {w : World} {g : Nat} {v : Value} {R : Pk.B} (h : WrAt I cl w g v R) : Calls Tryz.prog 21 #[.pointer (some ⟨g, 0, none⟩)] w fun e w' => e = .returned (.int .i64 (if cl = true then 7 else 0)) ∧ w' = w := by
  have c3 := h.c3
  clear h
  cases cl
  · go_enter Tryz.func21, Tryz.ntmps21
    go_wp2
    go_ret
    exact ⟨rfl, rfl⟩
  · go_enter Tryz.func21, Tryz.ntmps21
    go_wp2
    go_ret
    exact ⟨rfl, rfl⟩
theorem wnew_any (w : World) : Calls Tryz.prog 8 #[] w fun e w' => e = .returned (.pointer (some ⟨w.heap.size, 0, none⟩)) ∧ w' = w.alloc (.cells #[.slice none 0 0, .int .i64 0, .slice none 0 0, .bool false] 59) := by
  have hb := built_writer0
  go_enter Tryz.func8, Tryz.ntmps8
  go_wp2
  go_ret
  exact ⟨rfl, rfl⟩
theorem built_roll1 (n : Int) : Tryz.prog.built 54 [(1, .int .i64 n)] = some #[.slice none 0 0, .int .i64 n] := by kernel_rfl
theorem built_writer1 (n : Int) : Tryz.prog.built 59 [(0, .agg #[.slice none 0 0, .int .i64 n]), (2, .bool true)] = some #[.slice none 0 0, .int .i64 n, .slice none 0 0, .bool true] := by kernel_rfl
/-- how an open writer closes -/
def CloseEnds (g : Nat) (R : Pk.B) (w : World) (e : Ending) (w' : World) : Prop := ∃ u, e = .returned (.tuple #[u, .int .i64 0]) ∧ w'.ownsRow w.heap.size 5 1 u (R.length + 1024) (Lib.byteCells (R ++ List.replicate 1024 0)) ∧ WrAt (.slice none 0 0) true w' g (.slice none 0 0) R ∧ Bx (fun b => b = g) w w'
theorem info_writer (a b c d : Value) : (Tryz.prog.info? 59).map (·.size) = some (#[a, b, c, d] : Array Value).size := by kernel_rfl
set_option maxRecDepth 100000 in
theorem wclose_open {I : Value} {w : World} {base g : Nat} {v : Value} {R : Pk.B} (h : WrAt I false w g v R) (ho : RollOwn w base v R) (hR : R.length + 1024 ≤ 131072) : Calls Tryz.prog 10 #[.pointer (some ⟨g, 0, none⟩)] w fun e w' => CloseEnds g R w e w' := by
  have HM := maywr_any h
  rw [if_neg (by decide)] at HM
  have HB := bytes_anyW g v R hR w h base ho
  have HW : Hid (WrAt I false w g v R) := h
  have hgl := h.lt
  clear h ho
  go_enter Tryz.func10, Tryz.ntmps10
  have hb1 := built_roll1 (R.length : Int)
  have hb2 := built_writer1 (R.length : Int)
  go_wp2_with (first
    | (go_at_call 21; refine HM.mono ?_; rintro e w1 ⟨rfl, hw⟩; obtain rfl := hw.symm; clear HM)
    | (go_at_call 20; refine HB.mono ?_; rintro e w1 ⟨⟨u, rfl, hu⟩, hbw⟩; clear HB; have HW1 : Hid (WrAt I false w1 g v R) := HW.out.keep hbw; have c1 := HW1.out.c1)
    | (refine wpList_store_row rfl 59 _ _ rfl g #[.slice none 0 0, .int .i64 (R.length : Int), .slice none 0 0, .bool true] rfl rfl 59 _ HW1.out (info_writer _ _ _ _) rfl (by simp [Value.oneCell']) ?_))
  go_ret2
  have bx : Bx (fun b => b = g) w1 (w1.setRow g #[.slice none 0 0, .int .i64 (R.length : Int), .slice none 0 0, .bool true]) := bx_set _ _ _ rfl
  refine ⟨u, rfl, own_bx hu bx (fun x hx e => ?_), setRow_heap w1 g _ _ _ _ HW1.out, (Bx.of_bw hbw).trans bx⟩
  have := World.ownsRow.lt hu x hx
  omega
end Go.Proofs.YtldkhbkgmiicbabGreatDoor

/- Layer 12: the library's Concat of two lists of items. -/
namespace Go.Proofs.YtldkhbkgmiicbabGreatDoor
open Go.RowKit Go.Deep
set_option linter.unusedVariables false
set_option linter.unusedSimpArgs false

set_option maxRecDepth 100000 in
set_option maxHeartbeats 4000000 in
theorem concat2_any (k : Nat) (A1 A2 : Option Addr) (c1 c2 : Nat) (L1 L2 : List Tr.Iv) (h0 : 0 < L1.length + L2.length) (hN : L1.length + L2.length ≤ 1000) (w : World)
    (d1 : w.cell? ⟨k, 0, none⟩ = some (.slice A1 L1.length c1)) (d2 : w.cell? ⟨k, 1, none⟩ = some (.slice A2 L2.length c2))
    (I1 : ItsAt w A1 L1) (I2 : ItsAt w A2 L2) (e1 : A1 = none → L1.length = 0 ∧ c1 = 0) (e2 : A2 = none → L2.length = 0 ∧ c2 = 0) :
    Calls Tryz.prog 23 #[.slice (some ⟨k, 0, none⟩) 2 2] w fun e w' => ConcatEnds w.heap.size (L1 ++ L2) e w' ∧ Bw w w' := by
  obtain ⟨n1, hn1⟩ : ∃ n, Hid (L1.length = n) := ⟨_, rfl⟩
  obtain ⟨n2, hn2⟩ : ∃ n, Hid (L2.length = n) := ⟨_, rfl⟩
  rw [hn1.out, hn2.out] at h0 hN
  rw [hn1.out] at d1 e1
  rw [hn2.out] at d2 e2
  have HD : Hid (∀ u, Bw w u → u.cell? ⟨k, 0, none⟩ = some (.slice A1 n1 c1) ∧ u.cell? ⟨k, 1, none⟩ = some (.slice A2 n2 c2)) := fun u hu => ⟨keep_cell11 d1 hu, keep_cell11 d2 hu⟩
  have HI : Hid (ItsAt w A1 L1 ∧ ItsAt w A2 L2) := ⟨I1, I2⟩
  have HE : Hid ((A1 = none → n1 = 0 ∧ c1 = 0) ∧ (A2 = none → n2 = 0 ∧ c2 = 0)) := ⟨e1, e2⟩
  obtain ⟨j0, hj0, hy0, hy1, hy2⟩ := info_parts info_item
  obtain ⟨H, hH⟩ : ∃ H, Hid (w.heap.size = H) := ⟨_, rfl⟩
  have HG : Hid (∀ u, Calls Tryz.prog 30 #[.slice none 0 0, .int .i64 ((n1 : Int) + (n2 : Int))] u fun e w' => GrowEnds u.heap.size e w' ∧ Bw u w') := fun u => by
    have := grow_any (n1 + n2) h0 hN u
    rwa [show ((n1 + n2 : Nat) : Int) = (n1 : Int) + (n2 : Int) by omega] at this
  rw [hH.out]
  clear d1 d2 I1 I2 e1 e2
  go_enter Tryz.func23, Tryz.ntmps23
  go_wp2
  go_loop [3, 11] (fun sz ix => (sz = .int .i64 0 ∧ ix = .int .i64 0) ∨ (sz = .int .i64 (n1 : Int) ∧ ix = .int .i64 1) ∨ (sz = .int .i64 ((n1 : Int) + (n2 : Int)) ∧ ix = .int .i64 2)) (fun _ ix => 2 - (intOf ix).toNat)
  case atStart => exact .inl ⟨rfl, rfl⟩
  case round =>
    obtain ⟨x1, x2⟩ := HD.out w (Bw.refl _)
    have q1 : (0 : Int) ≤ (n1 : Int) := Int.natCast_nonneg _
    have q2 : (0 : Int) ≤ (n1 : Int) + (n2 : Int) := by omega
    rcases hrel with ⟨rfl, rfl⟩ | ⟨rfl, rfl⟩ | ⟨rfl, rfl⟩
    · go_wp2
      go_round
      case rel => exact .inr (.inl ⟨by go_num, rfl⟩)
      case measure => simp [intOf]
    · go_wp2
      go_round
      case rel => exact .inr (.inr ⟨by go_num, rfl⟩)
      case measure => simp [intOf]
    · clear x1 x2
      go_wp2_with (go_at_call 30; refine (HG.out _).mono ?_; rintro e w1 ⟨⟨cap1, rfl, hown1⟩, hw1⟩; rw [hH.out] at hown1)
      rw [hH.out]
      have HO1 : Hid (w1.ownsRow H 26 6 (.slice (some ⟨H, 0, none⟩) 0 cap1) 0 []) := hown1
      have HW1 : Hid (Bw w w1) := hw1
      clear hown1
      go_loopw [6, 27] (fun v ix wr => ((ix = .int .i64 0 ∧ Hid (wr.ownsRow H 26 6 v 0 [])) ∨ (ix = .int .i64 1 ∧ Hid (wr.ownsRow H 26 6 v n1 (Tr.cellsI L1))) ∨ (ix = .int .i64 2 ∧ Hid (wr.ownsRow H 26 6 v (n1 + n2) (Tr.cellsI L1 ++ Tr.cellsI L2)))) ∧ Bw w wr) (fun _ ix _ => 2 - (intOf ix).toNat)
      case atStart => exact ⟨.inl ⟨rfl, HO1.out⟩, HW1.out⟩
      case round =>
        clear HO1 HW1 hw1
        obtain ⟨hcs, hbw⟩ := hrel
        obtain ⟨x1, x2⟩ := HD.out wr hbw
        have hHw : H ≤ wr.heap.size := by rw [← hH.out]; exact hbw.size
        rcases hcs with ⟨rfl, ho⟩ | ⟨rfl, ho⟩ | ⟨rfl, ho⟩
        · go_wp2_with (at_builtin; refine wpList_append_its _ (by rfl) (.tmp 31) (.tmp 32) _ (by rfl) H 26 j0 _ 80 Tryz.underlying22 hj0 hy0 hy1 hy2 rfl _ _ _ (by rfl) ho.out A1 c1 L1 n1 hn1.out (by rfl) (HI.out.1.keep hbw) HE.out.1 (by unfold maxLen; omega) (by omega) hHw ?_; intro v6 w6 hown6 hgrow6; simp only [Nat.zero_add, List.nil_append] at hown6)
          go_roundw
          case rel => exact ⟨.inr (.inl ⟨rfl, hown6⟩), by
            have := bw_grow hgrow6 (base := H) (by rw [← hH.out]; exact hbw) hHw ho.out
            rw [← hH.out] at this; exact this⟩
          case measure => simp [intOf]
        · go_wp2_with (at_builtin; refine wpList_append_its _ (by rfl) (.tmp 31) (.tmp 32) _ (by rfl) H 26 j0 _ 80 Tryz.underlying22 hj0 hy0 hy1 hy2 rfl _ _ _ (by rfl) ho.out A2 c2 L2 n2 hn2.out (by rfl) (HI.out.2.keep hbw) HE.out.2 (by unfold maxLen; omega) (by omega) hHw ?_; intro v6 w6 hown6 hgrow6)
          go_roundw
          case rel => exact ⟨.inr (.inr ⟨rfl, hown6⟩), by
            have := bw_grow hgrow6 (base := H) (by rw [← hH.out]; exact hbw) hHw ho.out
            rw [← hH.out] at this; exact this⟩
          case measure => simp [intOf]
        · have HF : Hid (wr.ownsRow H 26 6 u6 (L1 ++ L2).length (Tr.cellsI (L1 ++ L2))) := by
            rw [Tr.cellsI_append, List.length_append, hn1.out, hn2.out]
            exact ho.out
          clear x1 x2
          go_wp2
          go_ret
          exact ⟨⟨_, rfl, HF.out⟩, hbw⟩
end Go.Proofs.YtldkhbkgmiicbabGreatDoor

/- Layer 12, code-free: what a writer's Add answers, its items kept without their bytes. -/
namespace Go.Proofs.YtldkhbkgmiicbabGreatDoor
open Go.RowKit Go.Deep
set_option linter.unusedVariables false
set_option linter.unusedSimpArgs false

namespace Tr
/-- an item without its bytes -/
def bare (x : It) : It := { x with body := [] }
theorem may_bare {x : It} (h : mayE x = 0) : mayE (bare x) = 0 := by
  unfold mayE at h ⊢
  unfold bare
  dsimp only
  by_cases h1 : (Nm.check x.path).2 ≠ 0
  · rw [if_pos h1] at h; exact absurd h h1
  rw [if_neg h1] at h ⊢
  by_cases h2 : x.kind < 1 ∨ 4 < x.kind
  · rw [if_pos h2] at h; cases h
  rw [if_neg h2] at h ⊢
  by_cases h3 : x.time < 0 ∨ 1099511627776 < x.time ∨ (x.kind = 3 ∧ x.time ≠ 0)
  · rw [if_pos h3] at h; cases h
  rw [if_neg h3] at h ⊢
  by_cases h4 : x.mode < 0 ∨ 4095 < x.mode ∨ ((x.kind = 3 ∨ x.kind = 4) ∧ x.mode ≠ 0)
  · rw [if_pos h4] at h; cases h
  rw [if_neg h4] at h ⊢
  by_cases h5 : (0 < x.body.length ∧ x.kind ≠ 1) ∨ (x.to ≠ [] ∧ ¬ (x.kind = 3 ∨ x.kind = 4))
  · rw [if_pos h5] at h; cases h
  rw [if_neg h5] at h
  rw [if_neg (fun e => h5 (e.elim (fun e => absurd e.1 (Nat.not_lt_zero _)) .inr))]
  by_cases h6 : 65536 < x.body.length
  · rw [if_pos h6] at h; cases h
  rw [if_neg h6] at h
  rw [if_neg (by show ¬ 65536 < 0; decide)]
  exact h
theorem hasB_bare (t : List It) (p : B) (k : Nat) : hasB (t.map bare) p k = hasB t p k := by
  unfold hasB
  rw [List.any_map]
  rfl
theorem behind_bare (t : List It) (x : It) : behind (t.map bare) x = behind t x := by
  unfold behind
  rw [List.getLast?_map]
  cases t.getLast? <;> rfl
theorem step_bare (t : List It) (x : It) : stepE (t.map bare) x = stepE t x := by
  unfold stepE
  rw [behind_bare, hasB_bare, hasB_bare]
theorem step_bare0 {t : List It} {x : It} (h : stepE t x = 0) : stepE (t.map bare) (bare x) = 0 := by
  rw [step_bare]
  unfold stepE at h ⊢
  by_cases h1 : mayE x ≠ 0
  · rw [if_pos h1] at h; exact absurd h h1
  rw [if_neg h1] at h
  rw [if_neg (fun e => e (may_bare (Decidable.not_not.1 h1)))]
  exact h
theorem ok_bare {t : List It} (h : Ok t) : Ok (t.map bare) := fun i x hx => by
  rw [List.getElem?_map] at hx
  cases hy : t[i]? with
  | none => rw [hy] at hx; cases hx
  | some y =>
    rw [hy] at hx
    obtain rfl := Option.some.inj hx
    rw [← List.map_take]
    exact step_bare0 (h i y hy)
theorem chkF_over : ∀ (r pre : List It) (x : It), (∀ (i : Nat) (y : It), r[i]? = some y → stepE (pre ++ r.take i) y = 0) → chkF pre (r ++ [x]) = chkF (pre ++ r) [x]
  | [], pre, x, h => by rw [List.nil_append, List.append_nil]
  | y :: r, pre, x, h => by
    have h0 := h 0 y rfl
    rw [List.take_zero, List.append_nil] at h0
    rw [List.cons_append]
    conv => lhs; unfold chkF
    rw [if_neg (by simp [h0]), chkF_over r (pre ++ [y]) x (fun i z hz => by
      have := h (i + 1) z (by simpa using hz)
      rw [List.take_succ_cons] at this
      rw [List.append_assoc]; exact this), List.append_assoc]
    rfl
/-- an item behind a good list, with or without the list's bytes -/
theorem chk_snoc {t : List It} (h : Ok t) (x : It) : chkE (t ++ [x]) = if 256 < t.length + 1 then (256, 3) else chkF t [x] := by
  unfold chkE
  rw [List.length_append]
  rw [chkF_over t [] x (fun i y hy => by rw [List.nil_append]; exact h i y hy), List.nil_append]
  rfl
theorem chk_bare {t : List It} (h : Ok t) (x : It) : chkE (t.map bare ++ [x]) = chkE (t ++ [x]) := by
  rw [chk_snoc h, chk_snoc (ok_bare h), List.length_map]
  unfold chkF
  rw [step_bare, List.length_map]
  unfold chkF
  rfl
end Tr
namespace Pk
theorem flat_le (t : List Tr.It) (k : Nat) : (flat (t.take k)).length ≤ (flat t).length := by
  have h : flat t = flat (t.take k) ++ flat (t.drop k) := by
    unfold flat
    rw [← List.flatMap_append, List.take_append_drop]
  rw [h, List.length_append]
  omega
/-- what Write answers to a good list that has its room and an item behind it -/
theorem wr_snoc {t : List Tr.It} (hr : (flat t).length + 1024 ≤ 131072) (x : Tr.It) (hc : (Tr.chkE (t ++ [x])).2 = 0) :
    wr (t ++ [x]) = if 131072 < (flat t ++ pcs x).length + 1024 then ([], t.length, 2) else (flat (t ++ [x]) ++ List.replicate 1024 0, 0, 0) := by
  rw [wr_good hc]
  have hx : (t ++ [x])[t.length]? = some x := by rw [List.getElem?_append_right (Nat.le_refl _), Nat.sub_self]; rfl
  have htk : (t ++ [x]).take t.length = t := by rw [List.take_append_of_le_length (Nat.le_refl _), List.take_length]
  have hup : Upto (t ++ [x]) t.length := by
    rcases upto_cases (t ++ [x]) t.length (by rw [List.length_append]; omega) with h | ⟨i, y, h1, h2, h3, h4⟩
    · exact h
    · rw [← flat_take h2, List.take_append_of_le_length (by omega)] at h4
      have := flat_le t (i + 1)
      omega
  by_cases hs : 131072 < (flat t ++ pcs x).length + 1024
  · rw [if_pos hs]
    exact upto_stop hup hx (by rw [htk]; exact hs)
  · rw [if_neg hs]
    have h1 := upto_next hup hx (by rw [htk]; exact hs)
    exact upto_end (by rw [List.length_append]; exact h1)
end Pk
end Go.Proofs.YtldkhbkgmiicbabGreatDoor

/- Layer 12: a Writer's Add: of no writer, of a closed one; steps for an open one's. -/
namespace Go.Proofs.YtldkhbkgmiicbabGreatDoor
open Go.RowKit Go.Deep
set_option linter.unusedVariables false
set_option linter.unusedSimpArgs false

theorem two_built2 (w : World) (y : Tr.Iv) (S1 S2 : Value) : Bw w ((w.alloc (.cells y.arr 26)).alloc (.cells #[S1, S2] 22)).drew ∧ ((w.alloc (.cells y.arr 26)).alloc (.cells #[S1, S2] 22)).drew.cell? ⟨w.heap.size + 1, 0, none⟩ = some S1 ∧ ((w.alloc (.cells y.arr 26)).alloc (.cells #[S1, S2] 22)).drew.cell? ⟨w.heap.size + 1, 1, none⟩ = some S2 ∧ BoxAt ((w.alloc (.cells y.arr 26)).alloc (.cells #[S1, S2] 22)).drew w.heap.size y := by
  have hs : (w.alloc (.cells y.arr 26)).heap.size = w.heap.size + 1 := by simp
  have hn := heap_alloc_new (w.alloc (.cells y.arr 26)) (.cells #[S1, S2] 22)
  rw [hs] at hn
  exact ⟨Below.drew (bw_alloc11 (bw_alloc11 (Bw.refl _) _) _), keep_cell11 (cell_of_row _ _ 0 _ _ _ hn) (Below.drew (Bw.refl _)), keep_cell11 (cell_of_row _ _ 1 _ _ _ hn) (Below.drew (Bw.refl _)), (BoxAt.new _ _).keep (Below.drew (bw_alloc11 (Bw.refl _) _))⟩
end Go.Proofs.YtldkhbkgmiicbabGreatDoor
