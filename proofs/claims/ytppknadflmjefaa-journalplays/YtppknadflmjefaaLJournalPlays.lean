/- Proved: for every number, run and list of acts the statement JournalPlays answers true (the document's P15.1 to P15.4: a journal that is written, opened anew, cut short by its disk, tells and writes what the document's own does, sector by sector), with no condition but the reach. -/
import Derived.Test.YtppknadflmjefaaQp
import Derived.Test.YtppknadflmjefaaFj
import Derived.ShutString
import Derived.ChangeOld
namespace Go.Proofs.Ytppknadflmjefaa.journalPlays
open Go.ChangeShapes Go.WideShapes Go.ChangeAt Go.RowKit
set_option linter.unusedVariables false

open Go.Deep
def four15 (i : Nat) : Int := if i = 0 then 64 else if i = 1 then 0 else if i = 2 then 64 else 7
theorem ints4_15 {w : World} {b : Nat} (h : w.heap[b]? = some (.cells #[.int .i64 64, .int .i64 0, .int .i64 64, .int .i64 7] 3 (0, 0))) : IntsAt w (some ⟨b, 0, none⟩) 4 four15 := by
  refine ⟨.inr ⟨b, 0, rfl, fun i hi => ?_⟩, fun i => ?_⟩
  · rw [cell_of_row w b (0 + i) _ _ _ h]
    have : i = 0 ∨ i = 1 ∨ i = 2 ∨ i = 3 := by omega
    rcases this with rfl | rfl | rfl | rfl <;> rfl
  · unfold four15
    split
    · decide
    split
    · decide
    split <;> decide
abbrev four15W (w : World) : World := w.alloc (.cells #[.int .i64 64, .int .i64 0, .int .i64 64, .int .i64 7] 3)
theorem restart4 {w : World} {g lb gm : Nat} {S : Dsk} (h : DiskAt w g lb gm S) : Calls Try.prog 13 #[.pointer (some ⟨g, 0, none⟩), .slice (some ⟨w.heap.size, 0, none⟩) 4 4] (four15W w) fun e w' => e = .returned (.tuple #[]) ∧ DiskAt w' g lb gm (S.again four15 4) ∧ Bx (dIn g lb gm) w w' := by
  have k : Bw w (four15W w) := Below.alloc (Bw.refl _) (Nat.le_refl _) _
  exact (restart_any (h.keep k) _ 4 4 four15 (by decide) (ints4_15 (heap_alloc_new _ _)) (fun b o e _ hd => by cases e; have := h.low _ hd; omega)).mono (fun e w' q => ⟨q.1, q.2.1, (Bx.of_bw k).trans q.2.2⟩)
theorem rrestart4 {w : World} {g cb cap : Nat} {S : Dsk} (h : ∃ LV WV, RefAt w g cb cap LV WV S) : Calls Try.prog 14 #[.pointer (some ⟨g, 0, none⟩), .slice (some ⟨w.heap.size, 0, none⟩) 4 4] (four15W w) fun e w' => e = .returned (.tuple #[]) ∧ (∃ LV WV, RefAt w' g cb cap LV WV (S.again four15 4)) ∧ Bx (rIn g cb) w w' := by
  obtain ⟨LV, WV, h⟩ := h
  have k : Bw w (four15W w) := Below.alloc (Bw.refl _) (Nat.le_refl _) _
  exact (rrestart_any (h.keep k) _ 4 4 four15 (by decide) (ints4_15 (heap_alloc_new _ _)) (fun b o e _ hd => by cases e; have := h.low _ hd; omega)).mono (fun e w' q => ⟨q.1, q.2.1, (Bx.of_bw k).trans q.2.2⟩)
theorem played_ok {W0 w3 : World} {g lb gm gd cb cap : Nat} {S : Dsk} (hd : DiskAt w3 g lb gm S) (hr : ∃ LV WV, RefAt w3 gd cb cap LV WV S) {rx ry : Int} (bx : -9223372036854775808 ≤ rx ∧ rx < 9223372036854775808) (bY : -9223372036854775808 ≤ ry ∧ ry < 9223372036854775808) {A : Option Addr} {n ca : Nat} {X : Nat → Ac15} (hA : InActs15 W0 A n ca X) (hb : Bw W0 w3) (hge : ∀ b, dIn g lb gm b ∨ rIn gd cb b → W0.heap.size ≤ b) (hsm : Small15 n X) :
    Calls Try.prog 12 #[.pointer (some ⟨g, 0, none⟩), .pointer (some ⟨gd, 0, none⟩), .agg #[.int .i64 rx, .int .i64 ry], .slice A n ca] w3 fun e w' => PlayV g lb gm gd cb cap S.n w3 e w' := by
  refine played15_any hd hr rx ry bx bY A n ca X (fun W k => hA.keep (Below.trans hb (k.below hb.size hge))) hsm.2 (fun i hi b hb2 hD => ?_) (fun i hi b o e h0 hD => ?_) (fun i hi b o e h0 hD => ?_)
  · have hm := (hA.acts i hi).mat.matV
    have h1 : b < W0.heap.size := by
      rcases hb2 with ⟨o, e, h0⟩ | ⟨u, hu, o, m, c', e, h0⟩
      · exact hm.low e h0
      · exact hm.rows.low u hu b o m c' e h0
    have := hge b hD; omega
  · have h2 := (hA.acts i hi).ints.row
    rw [e] at h2
    obtain ⟨b', o', e', hc⟩ := h2.at h0
    cases e'
    have := block_lt_of_cell hc
    have h3 := hge b hD
    have h4 : b < W0.heap.size := this
    omega
  · have h2 := (hA.acts i hi).row.row
    rw [e] at h2
    have h4 : b < W0.heap.size := h2.lt (k := 0) h0
    have h3 := hge b hD
    omega
set_option maxRecDepth 100000 in
set_option maxHeartbeats 8000000 in
theorem walk (a0 : Int) (x1 y1 : Int) (a2 : Option Addr) (len2 cap2 : Nat) (X2 : Nat → Ac15) (w : World) (w0 : (Lit.int .i64 a0).wf = true) (w1 : (-9223372036854775808 ≤ x1 ∧ x1 < 9223372036854775808) ∧ (-9223372036854775808 ≤ y1 ∧ y1 < 9223372036854775808)) (w2 : InActs15 w a2 len2 cap2 X2) :
    Calls Try.prog 3 #[.int .i64 a0, .agg #[.int .i64 x1, .int .i64 y1], .slice a2 len2 cap2] w fun e w' => e = .returned (.bool true) ∧ Below w.heap.size w w' := by
  have hab := bounds_i64 w0
  have hab0 := hab.1
  have hab1 := hab.2
  obtain ⟨bx, bY⟩ := w1
  obtain ⟨W0, hW0⟩ : ∃ W, Hid (w.alloc (.cells #[.int .i64 x1, .int .i64 y1] 23) = W) := ⟨_, rfl⟩
  obtain ⟨z, hz⟩ : ∃ z, Hid (w.heap.size = z) := ⟨_, rfl⟩
  have hb0 : Bw w W0 := by rw [← hW0.out]; exact Below.alloc (Bw.refl _) (Nat.le_refl _) _
  have hg0 : W0.heap[z]? = some (.cells #[.int .i64 x1, .int .i64 y1] 23 (0, 0)) := by rw [← hW0.out, ← hz.out]; exact heap_alloc_new _ _
  have HZ : Hid (∀ W, Bw W0 W → W.cell? ⟨z, 0, none⟩ = some (.int .i64 x1) ∧ W.cell? ⟨z, 1, none⟩ = some (.int .i64 y1)) := fun W k => by
    have hg := (k.block z (Array.getElem?_eq_some_iff.1 hg0).1).trans hg0
    exact ⟨cell_of_row W z 0 _ _ _ hg, cell_of_row W z 1 _ _ _ hg⟩
  have HG := great15_any (w2.keep hb0)
  have HA : Hid (InActs15 W0 a2 len2 cap2 X2) := w2.keep hb0
  have HB0 : Hid (Bw w W0) := hb0
  clear w2 hg0 w0 hab
  by_cases hs : a0 < 1
  · clear HZ HA bx bY
    go_enter Try.func3, Try.ntmps3
    go_wp2_with (first
      | rw [hW0.out, hz.out]
      | (go_at_call 8; refine HG.mono ?_; rintro e w1 ⟨B1, rfl, hsm, hb1⟩; clear HG; cases B1)
      | (go_at_call 9; refine (wakes15_any _).mono ?_; rintro e w6 ⟨rfl, hb6⟩))
    all_goals (go_ret; exact ⟨rfl, (HB0.out.trans hb1).trans hb6⟩)
  by_cases hs2 : 64 < a0
  · clear HZ HA bx bY
    go_enter Try.func3, Try.ntmps3
    go_wp2_with (first
      | rw [hW0.out, hz.out]
      | (go_at_call 8; refine HG.mono ?_; rintro e w1 ⟨B1, rfl, hsm, hb1⟩; clear HG; cases B1)
      | (go_at_call 9; refine (wakes15_any _).mono ?_; rintro e w6 ⟨rfl, hb6⟩))
    all_goals (go_ret; exact ⟨rfl, (HB0.out.trans hb1).trans hb6⟩)
  obtain ⟨n, rfl⟩ : ∃ n : Nat, a0 = (n : Int) := ⟨a0.toNat, by omega⟩
  have n1 : 1 ≤ n := by omega
  have n2 : n ≤ 64 := by omega
  have HM := rnew_ok n (by omega) (by omega)
  have HN := new_ok n (by omega) (by omega)
  have HPl : Hid (∀ w1 w2 w3 g lb gm gd cb cap, Bw W0 w1 → Bw w1 w2 → Bw w2 w3 → DiskAt w2 g lb gm (Dsk.new n) → (∀ b, dIn g lb gm b → w1.heap.size ≤ b) → (∃ LV WV, RefAt w3 gd cb cap LV WV (Dsk.new n)) → (∀ b, rIn gd cb b → w2.heap.size ≤ b) → Small15 len2 X2 → Calls Try.prog 12 #[.pointer (some ⟨g, 0, none⟩), .pointer (some ⟨gd, 0, none⟩), .agg #[.int .i64 x1, .int .i64 y1], .slice a2 len2 cap2] w3 fun e w' => e = .returned (.bool true) ∧ ∃ S, Hid (DiskAt w' g lb gm S ∧ (∃ LV WV, RefAt w' gd cb cap LV WV S) ∧ S.n = n ∧ Bw W0 w' ∧ (∀ b, dIn g lb gm b ∨ rIn gd cb b → W0.heap.size ≤ b))) := fun w1 w2 w3 g lb gm gd cb cap k1 k2 k3 hd hgd hr hgr hsm => by
    have hge : ∀ b, dIn g lb gm b ∨ rIn gd cb b → W0.heap.size ≤ b := fun b hb => hb.elim (fun h => Nat.le_trans k1.size (hgd b h)) (fun h => Nat.le_trans (k1.trans k2).size (hgr b h))
    have kk : Bw W0 w3 := (k1.trans k2).trans k3
    refine (played_ok (hd.keep k3) hr bx bY HA.out kk hge hsm).mono ?_
    rintro e w' ⟨h1, S, h2, h3, h4, h5⟩
    exact ⟨h1, S, h2, h3, h4, Below.trans kk (h5.below kk.size hge), hge⟩
  clear hs hs2 bx bY HA
  go_enter Try.func3, Try.ntmps3
  go_wp2_with (first
    | rw [hW0.out, hz.out]
    | (go_at_call 8; refine HG.mono ?_; rintro e w1 ⟨B1, rfl, hsm, hb1⟩; clear HG; cases B1)
    | (go_at_call 9; refine (wakes15_any _).mono ?_; rintro e w6 ⟨rfl, hb6⟩)
    | (go_at_call 10; refine (HN w1).mono ?_; rintro e w2 ⟨g, lb, gm, rfl, hd2, hge2, hb2⟩; clear HN)
    | (go_at_call 11; refine (HM w2).mono ?_; rintro e w3 ⟨gd, cb, cap, LV, WV, rfl, hr3, hge3, hb3⟩; clear HM; have yz := HZ.out w3 (Bw.trans (Bw.trans hb1 hb2) hb3); have y0 := yz.1; have y1 := yz.2; clear yz)
    | (go_at_call 12; refine (HPl.out w1 w2 w3 g lb gm gd cb cap hb1 hb2 hb3 hd2 hge2 ⟨_, _, hr3⟩ hge3 (by first | exact hsm rfl | exact hsm trivial)).mono ?_; rintro e w4 ⟨rfl, S, hS⟩; clear HPl hd2 hr3))
  rotate_left
  · go_ret
    exact ⟨rfl, (HB0.out.trans hb1).trans hb6⟩
  obtain ⟨hd4, hr4, hn4, hbw4, hge4⟩ := hS.out
  obtain ⟨S2, hS2⟩ : ∃ S2 : Dsk, Hid (S.again four15 4 = S2) := ⟨_, rfl⟩
  have hn2' : S2.n = n := by rw [← hS2.out]; exact hn4
  have hdead : S2.dead = false := by rw [← hS2.out]; rfl
  obtain ⟨N, hN⟩ : ∃ N, Hid (n * 64 = N) := ⟨_, rfl⟩
  have nlt : N < 9223372036854775808 := by have := hN.out; omega
  obtain ⟨F, hF⟩ : ∃ F : Nat → Int, Hid ((fun i => S2.read (64 * 0 + i)) = F) := ⟨_, rfl⟩
  obtain ⟨Xs, hXs⟩ : ∃ X, Hid (str F N = X) := ⟨_, rfl⟩
  have HFb : Hid (∀ W, DiskAt W g lb gm S2 → ∀ i, 0 ≤ F i ∧ F i < 256) := fun W h i => by rw [← hF.out]; exact h.ok.read _
  have HRs := restart4 hd4
  rw [hS2.out] at HRs
  have HBW : Hid (∀ W W', Bw W0 W → Bx (fun b => dIn g lb gm b ∨ rIn gd cb b) W W' → Bw W0 W') := fun W W' k x => Below.trans k (x.below k.size hge4)
  have HRr : Hid (∀ W, Bx (dIn g lb gm) w4 W → DiskAt W g lb gm S2 → Calls Try.prog 14 #[.pointer (some ⟨gd, 0, none⟩), .slice (some ⟨W.heap.size, 0, none⟩) 4 4] (four15W W) fun e w' => e = .returned (.tuple #[]) ∧ Hid (DiskAt w' g lb gm S2) ∧ Hid (∃ LV WV, RefAt w' gd cb cap LV WV S2) ∧ Hid (Bw W0 w')) := fun W k hdW => by
    obtain ⟨LV4, WV4, hr4⟩ := hr4
    have hr5 := hr4.keepn k hd4.nou15 (dr_ne15 hd4 hr4 _ (.inl rfl)) (dr_ne15 hd4 hr4 _ (.inr rfl))
    have h := rrestart4 ⟨_, _, hr5⟩
    rw [hS2.out] at h
    refine h.mono ?_
    rintro e w' ⟨h1, h2, h3⟩
    exact ⟨h1, hdW.keepx h3 (fun e => dr_ne15 hdW hr5 _ e (.inl rfl)) (fun e => dr_ne15 hdW hr5 _ e (.inr (.inl rfl))) (fun e => dr_ne15 hdW hr5 _ e (.inr (.inr rfl))), h2, HBW.out _ _ (HBW.out _ _ hbw4 (k.more (fun b e => .inl e))) (h3.more (fun b e => .inr e))⟩
  have HRd : Hid (∀ W, DiskAt W g lb gm S2 → Calls Try.prog 15 #[.pointer (some ⟨g, 0, none⟩), .int .i64 0, .int .i64 (n : Int)] W fun e w' => ∃ b, e = .returned (.tuple #[.slice (some ⟨b, 0, none⟩) N N, .int .i64 0]) ∧ Hid (W.heap.size ≤ b) ∧ Hid (BlockIs w' b N F) ∧ Hid (Bw W w')) := fun W h => by
    have h1 := read_ok h 0 n hdead (by omega)
    rw [hN.out, hF.out] at h1
    exact h1
  have HRe : Hid (∀ W, (∃ LV WV, RefAt W gd cb cap LV WV S2) → Calls Try.prog 16 #[.pointer (some ⟨gd, 0, none⟩), .int .i64 0, .int .i64 (n : Int)] W fun e w' => RReadEnds W N F e w') := fun W h => by
    obtain ⟨_, _, h⟩ := h
    have h1 := rread_ok h 0 n hdead (by omega)
    rw [hN.out, hF.out] at h1
    exact h1
  clear hS hd4 hr4 hbw4 hge4 hge2 hge3 hn4 hN hF hn2' hdead
  go_wp2_with (first
    | (go_at_call 13; refine HRs.mono ?_; rintro e w5 ⟨rfl, hd5, hx5⟩; clear HRs)
    | (go_at_call 14; refine (HRr.out _ hx5 hd5).mono ?_; rintro e w6 ⟨rfl, hd6, hr6, hb6⟩; have Hfb := (show Hid (∀ i, 0 ≤ F i ∧ F i < 256) from HFb.out _ hd5); clear HRr hd5 hx5)
    | (go_at_call 15; refine (HRd.out _ hd6.out).mono ?_; rintro e w7 ⟨b, rfl, hb, hB, hb7⟩)
    | (go_at_call 16; refine (HRe.out _ (by obtain ⟨L9, V9, h9⟩ := hr6.out; exact ⟨L9, V9, h9.keep hb7.out⟩)).mono ?_; rintro e w8 ⟨A8, c8, rfl, hR8, hb8⟩; have cx := conv_row (C := N) ((hB.out.keep hb8).row Hfb.out); have cy := conv_row (C := c8) hR8; rw [hXs.out] at cx cy)
    | (go_at_call 9; refine (wakes15_any _).mono ?_; rintro e w9 ⟨rfl, hb9⟩))
  go_ret
  exact ⟨rfl, (((HB0.out.trans hb6.out).trans hb7.out).trans hb8).trans hb9⟩

set_option maxRecDepth 100000 in
theorem lifted (os : Os) (started : os.Started) (H : Type) (enc : TypeId × Value → H) :
    ReturnsInHanded {} Try.checked os 3 .any (Rows.journalPlaysSpec.pre6 enc Try.prog Try.f3 Rows.journalPlaysRow.domain false) (Rows.journalPlaysSpec.post enc Try.prog Try.f3 false true false false) := by
  refine returnsInHanded_of_change_sized (C := Try.checked) own started (by kernel_rfl) Try.func3
    (ChangeSpec.witness6 (enc := enc) (C := Try.checked) false ⟨#[], #[.int .i64 0, .agg #[.int .i64 0, .int .i64 0], .slice none 0 0], []⟩ 8 (by kernel_rfl) (by kernel_rfl) (by kernel_rfl) (by kernel_rfl)) ?_
  intro W base args ds gs before hval0 hW hcnd hsz0 _
  have hval : ∀ (j : Nat) t v, Try.f3.params[j]? = some t → args[j]? = some v → Value.okWide Try.prog W .any base t v := hval0
  have hW' := hW
  obtain ⟨p, q, hA0, hV, rfl, hfz, hnd⟩ := hW
  have hA : DataW.TrodAll enc Try.prog W 0 (fun _ => true) true Try.f3.params.toList args.toList ds p := hA0
  have hsz : (DataW.weightsEach Try.prog (Try.f3.params.toList ++ Rows.journalPlaysSpec.plain.varTypes Try.prog) (ds ++ gs)).all (· ≤ reachBytes) = true := hsz0
  rw [Try.params3] at hA hval hsz
  obtain ⟨v0, vs0, d0, ds0, p0, q0, hargs, rfl, rfl, h0, r0⟩ := trodAll_cons hA
  obtain ⟨v1, vs1, d1, ds1, p1, q1, rfl, rfl, rfl, h1, r1⟩ := trodAll_cons r0
  obtain ⟨v2, vs2, d2, ds2, p2, q2, rfl, rfl, rfl, h2, r2⟩ := trodAll_cons r1
  obtain ⟨rfl, rfl, rfl⟩ := trodAll_nil r2
  obtain rfl : args = #[v0, v1, v2] := by cases args; simp_all
  obtain ⟨rfl, rfl⟩ := trodVars_none hV
  obtain ⟨a0, rfl, rfl, rfl, w0⟩ := open_int Try.underlying3 (hval 0 3 v0 rfl rfl) h0
  have k1 := h1
  have lt1 : ∀ x ∈ p1, x.block < W.heap.size := by obtain ⟨m, hm⟩ := k1; exact DataW.trod_lt m _ _ _ hm
  obtain ⟨x1, y1, rfl, w1⟩ := open_run15 (hval 1 23 v1 rfl rfl) h1
  obtain ⟨a2, len2, cap2, rfl⟩ := okWide_slice Try.underlying24 (hval 2 24 v2 rfl rfl)
  have k2 := h2
  have lt2 : ∀ x ∈ p2, x.block < W.heap.size := by obtain ⟨m, hm⟩ := k2; exact DataW.trod_lt m _ _ _ hm
  obtain ⟨X2, w2⟩ := open_acts15 h2 (fun x hx => by simpa using List.all_eq_true.1 hsz x (DataW.weights_mem_each (j := 2) (t := 24) rfl rfl x hx))
  clear hA0 hval0
  refine (walk a0 x1 y1 a2 len2 cap2 X2 W w0 w1 w2).mono fun e W' ⟨he, bel⟩ => ?_
  subst he
  exact ⟨_, rfl, _, _, _, [], _, [], hW', trodAll_mk1 (shut_bool Try.underlying4 _), (trodAll_cons_mk (shut_int Try.underlying3 w0) (trodAll_cons_mk (Below.trod laidOut (by kernel_rfl) (of_decide_eq_true (by kernel_rfl)) k1 bel lt1) (trodAll_cons_mk (Below.trod laidOut (by kernel_rfl) (of_decide_eq_true (by kernel_rfl)) k2 bel lt2) trodAll_mk0))), rfl, bel.frame _, fun h => by cases h⟩

theorem over : Rows.journalPlaysRow.holds Try.pinned (OpenSpec.ofChange Rows.journalPlaysSpec) :=
  OpenClaim.holds_of_wide 3 Try.f3 rfl rfl rfl rfl rfl rfl rfl ⟨rfl, rfl, rfl, rfl, rfl⟩ rfl rfl rfl rfl rfl (by kernel_rfl) Try.func3 (by kernel_rfl)
    (of_decide_eq_true (by kernel_rfl)) (by unfold Func.isWrapper; first | (rw [if_pos (by decide +kernel)]; kernel_rfl) | (rw [if_neg (by decide +kernel)]; exact ⟨rfl, rfl⟩))
    (fun os started H enc _ => lifted os started H enc)

theorem proved : Rows.JournalPlaysSaid := over
#print axioms proved
end Go.Proofs.Ytppknadflmjefaa.journalPlays
