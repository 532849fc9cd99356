/- Layer 15: acts on both machines, side by side (the statements' own played). -/
import Derived.Test.YtppknadflmjefaaQoa
import Derived.Test.YtppknadflmjefaaWV
namespace Go.Proofs.Ytppknadflmjefaa
open Go.RowKit Go.Deep Go.Maps
set_option linter.unusedVariables false
set_option linter.unusedSimpArgs false

set_option maxRecDepth 100000 in
set_option maxHeartbeats 8000000 in
theorem played15_any {w : World} {g lb gm gd cb cap : Nat} {S0 : Dsk} (hd : DiskAt w g lb gm S0) (hr : ∃ LV WV, RefAt w gd cb cap LV WV S0) (rx ry : Int) (bx : -9223372036854775808 ≤ rx ∧ rx < 9223372036854775808) (bY : -9223372036854775808 ≤ ry ∧ ry < 9223372036854775808)
    (A : Option Addr) (n ca : Nat) (X : Nat → Ac15) (hX : ∀ W, Bx (fun b => dIn g lb gm b ∨ rIn gd cb b) w W → InActs15 W A n ca X) (hT : ∀ i, i < n → (X i).tot ≤ 32768)
    (hM : ∀ i, i < n → ∀ b, ArgIn (X i).A (X i).n (X i).vls b → ¬ (dIn g lb gm b ∨ rIn gd cb b)) (hF : ∀ i, i < n → ∀ b o, (X i).F = some ⟨b, o, none⟩ → 0 < (X i).m → ¬ (dIn g lb gm b ∨ rIn gd cb b)) (hB : ∀ i, i < n → ∀ b o, (X i).B = some ⟨b, o, none⟩ → 0 < (X i).Lr → ¬ (dIn g lb gm b ∨ rIn gd cb b)) :
    Calls Try.prog 12 #[.pointer (some ⟨g, 0, none⟩), .pointer (some ⟨gd, 0, none⟩), .agg #[.int .i64 rx, .int .i64 ry], .slice A n ca] w fun e w' => PlayV g lb gm gd cb cap S0.n w e w' := by
  have HX : Hid (∀ W, Bx (fun b => dIn g lb gm b ∨ rIn gd cb b) w W → InActs15 W A n ca X) := hX
  have hnb : n ≤ 140737488351232 := by have h1 := hX w (Bx.refl _ _); have := h1.le; have := h1.room; omega
  obtain ⟨z, hz⟩ : ∃ z, Hid (w.heap.size = z) := ⟨_, rfl⟩
  obtain ⟨W1, hW1⟩ : ∃ W, Hid (w.alloc (.cells #[.int .i64 rx, .int .i64 ry] 23) = W) := ⟨_, rfl⟩
  have k1 : Bw w W1 := by rw [← hW1.out]; exact Below.alloc (Bw.refl _) (Nat.le_refl _) _
  have hg1 : W1.heap[z]? = some (.cells #[.int .i64 rx, .int .i64 ry] 23 (0, 0)) := by rw [← hW1.out, ← hz.out]; exact heap_alloc_new _ _
  obtain ⟨LV, WV, hr⟩ := hr
  have hPC : PC w W1 g lb gm gd cb z rx ry := ⟨fun b hb => hb.elim (hd.low b) (hr.low b), k1, hg1, by rw [hz.out]; exact Nat.le_refl _⟩
  have HC : Hid (PC w W1 g lb gm gd cb z rx ry) := hPC
  have hd1 := hd.keep k1
  have hr1 := hr.keep k1
  have HO := jopen_any hd1 rx ry bx bY
  have HR : Hid (∀ W, Bw W1 W → Calls Try.prog 28 #[.pointer (some ⟨gd, 0, none⟩), .agg #[.int .i64 rx, .int .i64 ry]] W fun e w' => ROpenV W gd (Jl.openE S0 rx ry) (Jl.openJ S0 rx ry) e w') := fun W k => ropen15_any (hr1.keep k) rx ry bx bY
  obtain ⟨E, hE⟩ : ∃ E, Hid (Jl.openE S0 rx ry = E) := ⟨_, rfl⟩
  have HTW : Hid (∀ e1 w2 e2 w3, OpenV W1 g E (Jl.openJ S0 rx ry) e1 w2 → ROpenV w2 gd E (Jl.openJ S0 rx ry) e2 w3 → ∃ p1 p2, e1 = .returned (.tuple #[p1, .int .i64 E]) ∧ e2 = .returned (.tuple #[p2, .int .i64 E]) ∧ Hid (PSt W1 g lb gm gd cb cap S0.n p1 p2 w3) ∧ Calls Try.prog 29 #[p1, p2] w3 fun e w' => e = .returned (.bool true) ∧ Bw w3 w') := fun e1 w2 e2 w3 h1 h2 => by
    rw [← hE.out] at h1 h2
    obtain ⟨p1, p2, q1, q2, q3, q4, q5⟩ := tw_open (base := W1.heap.size) hd1 ⟨_, _, hr1⟩ (Nat.le_refl _) h1 h2
    exact ⟨p1, p2, by rw [q1, hE.out], by rw [q2, hE.out], show PSt _ _ _ _ _ _ _ _ _ _ _ from ⟨_, _, q3, rfl, (Bx.of_bw q4).trans (Bx.of_bw q5)⟩, same15_any q3.jns⟩
  obtain ⟨O, hOO⟩ : ∃ O, Hid (Jl.openJ S0 rx ry = O) := ⟨_, rfl⟩
  rw [hE.out, hOO.out] at HO HR
  rw [hOO.out] at HTW
  obtain ⟨r0, r1⟩ := hPC.run (Bx.refl _ _)
  have eE : (E == E) = true := beq_self_eq_true E
  have HLow : Hid (∀ i, i < n → ∀ b, ArgIn (X i).A (X i).n (X i).vls b → b < W1.heap.size) := fun i hi b hb => by
    have hm := ((hX w (Bx.refl _ _)).acts i hi).mat.matV
    have h1 : b < w.heap.size := by
      rcases hb with ⟨o, e, h0⟩ | ⟨u, hu, o, m, c', e, h0⟩
      · exact hm.low e h0
      · exact hm.rows.low u hu b o m c' e h0
    exact Nat.lt_of_lt_of_le h1 k1.size
  clear hd hr hd1 hr1 hPC hg1 hX
  go_enter Try.func12, Try.ntmps12
  go_wp2_with (first
    | rw [hW1.out, hz.out]
    | (go_at_call 19; refine HO.mono ?_; intro e w2 ho; have ho' := ho; obtain ⟨kb2, p1, v1, e1, -⟩ := ho'; subst e1; clear HO; have r0' := (kb2.cell (p := ⟨z, 0, none⟩) (block_lt_of_cell r0)).trans r0; have r1' := (kb2.cell (p := ⟨z, 1, none⟩) (block_lt_of_cell r1)).trans r1)
    | (go_at_call 28; refine (HR.out _ kb2).mono ?_; intro e w3 ho3; obtain ⟨p1', p2, e1', e2, hst, hsame⟩ := HTW.out _ _ _ _ ho ho3; cases e1'; subst e2; clear HR ho ho3 HTW)
    | (go_at_call 29; refine hsame.mono ?_; rintro e w4 ⟨rfl, kb4⟩; have hst4 := (show Hid (PSt W1 g lb gm gd cb cap S0.n p1 p2 w4) from hst.out.keep kb4); clear hsame hst))
  clear r0 r1 r0' r1' hnb hOO hE eE k1 kb2 kb4
  go_loopw [9, 11, 13] (fun s9 s11 s13 wr => ∃ i : Nat, s13 = .int .i64 (i : Int) ∧ i ≤ n ∧ Hid (PSt W1 g lb gm gd cb cap S0.n s9 s11 wr)) (fun _ _ s13 _ => n - (intOf s13).toNat)
  case atStart => exact ⟨0, rfl, Nat.zero_le _, hst4⟩
  case round =>
    obtain ⟨i, rfl, hi, hst⟩ := hrel
    clear hst4
    have i0 : (0 : Int) ≤ (i : Int) := Int.natCast_nonneg _
    by_cases hlt : i < n
    · have i1 : (i : Int) < (n : Int) := by omega
      have p4 : IntKind.i64.wrap ((i : Int) + 1) = (i : Int) + 1 := by
        obtain ⟨O, S, hTw, hSn, hBx⟩ := hst.out
        have h1 := HX.out wr (HC.out.bx hBx); have := h1.le; have := h1.room
        rw [IntKind.wrap_i64]; omega
      obtain ⟨O, S, hTw, hSn, hBx⟩ := hst.out
      obtain ⟨b, off, rfl, hcw⟩ := (HX.out wr (HC.out.bx hBx)).cell hlt
      have Hx := (HX.out wr (HC.out.bx hBx)).acts i hlt
      have hxM := hM i hlt
      have hxF := hF i hlt
      have hxB := hB i hlt
      have hxT := hT i hlt
      have hxL := HLow.out i hlt
      obtain ⟨x, hx⟩ : ∃ x, Hid (X i = x) := ⟨_, rfl⟩
      rw [hx.out] at hcw Hx hxM hxF hxB hxT hxL
      have c0 := hcw 0 _ rfl
      have c1 := hcw 1 _ rfl
      have c2 := hcw 2 _ rfl
      have c3 := hcw 3 _ rfl
      have c4 := hcw 4 _ rfl
      have c5 := hcw 5 _ rfl
      rw [Nat.add_zero] at c0
      have run0 := (HC.out.run hBx).1
      have run1 := (HC.out.run hBx).2
      have HTw : Hid (Tw W1.heap.size g lb gm gd cb cap u9 u11 O S wr) := hTw
      have HBx : Hid (Bx (fun b => dIn g lb gm b ∨ rIn gd cb b) W1 wr) := hBx
      clear hst hTw hBx hcw
      obtain ⟨z2, hz2⟩ : ∃ z, Hid (wr.heap.size = z) := ⟨_, rfl⟩
      obtain ⟨W2, hW2⟩ : ∃ W, Hid (wr.alloc (.cells #[.int .i64 x.do_, .int .i64 x.n_, .int .i64 x.at_, .slice x.A x.n x.ca, .slice x.F x.m x.c, .slice x.B x.Lr x.Cr] 44) = W) := ⟨_, rfl⟩
      have k2 : Bw wr W2 := by rw [← hW2.out]; exact Below.alloc (Bw.refl _) (Nat.le_refl _) _
      have hxg : W2.heap[z2]? = some (.cells x.vals.toArray 44 (0, 0)) := by rw [← hW2.out, ← hz2.out]; exact heap_alloc_new _ _
      have HXG : Hid (∀ P W, Bx P W2 W → (∀ b, P b → b < wr.heap.size) → W.cell? ⟨z2, 0, none⟩ = some (.int .i64 x.do_) ∧ W.cell? ⟨z2, 1, none⟩ = some (.int .i64 x.n_) ∧ W.cell? ⟨z2, 2, none⟩ = some (.int .i64 x.at_) ∧ W.cell? ⟨z2, 3, none⟩ = some (.slice x.A x.n x.ca) ∧ W.cell? ⟨z2, 4, none⟩ = some (.slice x.F x.m x.c) ∧ W.cell? ⟨z2, 5, none⟩ = some (.slice x.B x.Lr x.Cr)) := fun P W k hP => by
        have hb := (k.block z2 (Array.getElem?_eq_some_iff.1 hxg).1 (fun e => by have := hP z2 e; have := hz2.out; omega)).trans hxg
        exact ⟨cell_of_row W z2 0 _ _ _ hb, cell_of_row W z2 1 _ _ _ hb, cell_of_row W z2 2 _ _ _ hb, cell_of_row W z2 3 _ _ _ hb, cell_of_row W z2 4 _ _ _ hb, cell_of_row W z2 5 _ _ _ hb⟩
      obtain ⟨x0, x1, x2, x3, x4, x5⟩ := HXG.out (fun _ => False) W2 (Bx.refl _ _) (fun b e => e.elim)
      have HT2 : Hid (Tw W1.heap.size g lb gm gd cb cap u9 u11 O S W2) := HTw.out.keep k2
      have HB2 : Hid (Bx (fun b => dIn g lb gm b ∨ rIn gd cb b) W1 W2) := HBx.out.trans (Bx.of_bw k2)
      clear hxg
      by_cases d0 : x.do_ = 0
      · rw [d0] at c0 x0 hW2 HXG
        have hmm := Hx.mat.matV.keep k2
        have hpk : (Jl.packed x.recs).length ≤ 1000000 := by unfold Ac15.recs; rw [packed_recs]; unfold Ac15.tot at hxT; omega
        have hxn : x.n ≤ 1000000 := by unfold Ac15.tot at hxT; omega
        have hle1 : ∀ l ∈ x.recs, l.length ≤ 1000000 := fun l hl => Nat.le_trans (len_packed _ l hl) hpk
        have HLe := lent15_any x.ca hmm hxn hle1
        have HAD := tw_adds HTw.out k2 HBx.out.size x.ca hmm hxn hpk hxM hxL false
        obtain ⟨E2, O', S', hn', HAD⟩ := HAD
        have HN : Hid (S'.n = S0.n) := hn'.trans hSn
        have HAd : Hid (∀ v w3, LentAt W2.heap.size w3 v x.recs → Bw W2 w3 → BothA W1.heap.size g lb gm gd cb cap u9 u11 21 31 32 x.A x.n x.ca wr W2 w3 v E2 O' S') := fun v w3 h1 h2 => HAD v w3 h1 h2
        have HEn : Hid (∀ w6, Bx (fun b => (dIn g lb gm b ∨ rIn gd cb b) ∨ W1.heap.size ≤ b) W2 w6 → Bx (fun b => dIn g lb gm b ∨ rIn gd cb b) W1 w6) := fun w6 k => HB2.out.new k (fun y hy e => e.elim id (fun e => by omega))
        have eE2 : (E2 == E2) = true := beq_self_eq_true E2
        clear HAD hn' hpk hxn hle1 hmm HT2 HB2 HTw HBx hxT hxM hxL hxF hxB Hx
        go_wp2_with (first
          | rw [hW2.out, hz2.out]
          | (go_at_call 30; refine HLe.mono ?_; rintro e w3 ⟨vl, rfl, hl3, kl3⟩; clear HLe; have hba := HAd.out vl w3 hl3 kl3; unfold BothA at hba; have hbaH := (show Hid (Calls _ _ _ _ _) from hba); clear hba)
          | (go_at_call 21; refine hbaH.out.mono ?_; rintro e w4 ⟨rfl, hsp4⟩; have hsp4H := (show Hid (Calls _ _ _ _ _) from hsp4); clear hbaH hsp4)
          | (go_at_call 31; refine hsp4H.out.mono ?_; rintro e w5 ⟨rfl, hx5, hra5⟩; have hra5H := (show Hid (Calls _ _ _ _ _) from hra5); have y3 := (HXG.out _ _ hx5 (fun b e => e)).2.2.2.1; clear hsp4H hra5)
          | (go_at_call 32; refine hra5H.out.mono ?_; rintro e w6 ⟨rfl, htE, hx6⟩; have hbE := HEn.out _ hx6; clear hra5H hx6))
        have kd : Bw w6 w6.drew := (Bw.refl _).drew
        have twd := (htE).keep kd
        have HSm := same15_any twd.jns
        obtain ⟨LVz, WVz, hrz⟩ := twd.2.1
        have t1 := hrz.t1
        obtain ⟨dd, hdd⟩ : ∃ d, Hid ((S').dead = d) := ⟨_, rfl⟩
        obtain ⟨CN, hCN⟩ : ∃ c : Int, Hid (((Dsk.cnt (S').is (S').n : Nat) : Int) = c) := ⟨_, rfl⟩
        have HDd : Hid (∀ W, Bw w6.drew W → Calls Try.prog 35 #[.pointer (some ⟨g, 0, none⟩)] W fun e w' => e = .returned (.bool dd) ∧ w' = W) := fun W k => by rw [← hdd.out]; exact dead_any (twd.1.keep k)
        have HWt : Hid (∀ W, Bw w6.drew W → Calls Try.prog 36 #[.pointer (some ⟨g, 0, none⟩)] W fun e w' => e = .returned (.int .i64 CN) ∧ w' = W) := fun W k => by rw [← hCN.out]; exact waiting_any (twd.1.keep k)
        have HRw : Hid (∀ W, Bw w6.drew W → Calls Try.prog 37 #[.pointer (some ⟨gd, 0, none⟩)] W fun e w' => e = .returned (.int .i64 CN) ∧ w' = W) := fun W k => by rw [← hCN.out]; exact rwaiting_any (hrz.keep k)
        have HEND : Hid (∀ W, Bw w6.drew W → Hid (PSt W1 g lb gm gd cb cap S0.n _ _ W)) := fun W k => show PSt _ _ _ _ _ _ _ _ _ _ _ from ⟨_, _, twd.keep k, HN.out, (hbE).trans (Bx.of_bw (kd.trans k))⟩
        rw [hdd.out] at t1
        clear twd hrz kd hdd hCN htE hbE HXG HAd HEn
        cases dd
        · skip
          go_region_held3 (fun w' => w'.cell? ⟨gd, 1, none⟩ = some (.bool false)) (first | exact t1 | exact t1' | assumption) (first
            | (go_at_call 29; refine HSm.mono ?_; rintro e wS ⟨rfl, kbS⟩; have t1' := (kbS.cell (p := ⟨gd, 1, none⟩) (block_lt_of_cell t1)).trans t1)
            | (go_at_call 35; refine (HDd.out _ kbS).mono ?_; rintro e wQ ⟨rfl, hw⟩; obtain rfl := hw.symm)
            | (go_at_call 36; refine (HWt.out _ kbS).mono ?_; rintro e wQ ⟨rfl, hw⟩; obtain rfl := hw.symm)
            | (go_at_call 37; refine (HRw.out _ kbS).mono ?_; rintro e wQ ⟨rfl, hw⟩; obtain rfl := hw.symm))
          go_wp2
          go_roundw
          case rel => exact ⟨i + 1, by go_num, by omega, HEND.out _ kbS⟩
          case measure => simp [intOf]; omega
        · skip
          go_region_held3 (fun w' => w'.cell? ⟨gd, 1, none⟩ = some (.bool true)) (first | exact t1 | exact t1' | assumption) (first
            | (go_at_call 29; refine HSm.mono ?_; rintro e wS ⟨rfl, kbS⟩; have t1' := (kbS.cell (p := ⟨gd, 1, none⟩) (block_lt_of_cell t1)).trans t1)
            | (go_at_call 35; refine (HDd.out _ kbS).mono ?_; rintro e wQ ⟨rfl, hw⟩; obtain rfl := hw.symm)
            | (go_at_call 36; refine (HWt.out _ kbS).mono ?_; rintro e wQ ⟨rfl, hw⟩; obtain rfl := hw.symm)
            | (go_at_call 37; refine (HRw.out _ kbS).mono ?_; rintro e wQ ⟨rfl, hw⟩; obtain rfl := hw.symm))
          go_wp2
          go_roundw
          case rel => exact ⟨i + 1, by go_num, by omega, HEND.out _ kbS⟩
          case measure => simp [intOf]; omega
      by_cases d1 : x.do_ = 1
      · rw [d1] at c0 x0 hW2 HXG
        have hmm := Hx.mat.matV.keep k2
        have hpk : (Jl.packed x.recs).length ≤ 1000000 := by unfold Ac15.recs; rw [packed_recs]; unfold Ac15.tot at hxT; omega
        have hxn : x.n ≤ 1000000 := by unfold Ac15.tot at hxT; omega
        have hle1 : ∀ l ∈ x.recs, l.length ≤ 1000000 := fun l hl => Nat.le_trans (len_packed _ l hl) hpk
        have HLe := lent15_any x.ca hmm hxn hle1
        have HAD := tw_adds HTw.out k2 HBx.out.size x.ca hmm hxn hpk hxM hxL true
        obtain ⟨E2, O', S', hn', HAD⟩ := HAD
        have HN : Hid (S'.n = S0.n) := hn'.trans hSn
        have HAd : Hid (∀ v w3, LentAt W2.heap.size w3 v x.recs → Bw W2 w3 → BothA W1.heap.size g lb gm gd cb cap u9 u11 22 31 33 x.A x.n x.ca wr W2 w3 v E2 O' S') := fun v w3 h1 h2 => HAD v w3 h1 h2
        have HEn : Hid (∀ w6, Bx (fun b => (dIn g lb gm b ∨ rIn gd cb b) ∨ W1.heap.size ≤ b) W2 w6 → Bx (fun b => dIn g lb gm b ∨ rIn gd cb b) W1 w6) := fun w6 k => HB2.out.new k (fun y hy e => e.elim id (fun e => by omega))
        have eE2 : (E2 == E2) = true := beq_self_eq_true E2
        clear HAD hn' hpk hxn hle1 hmm HT2 HB2 HTw HBx hxT hxM hxL hxF hxB Hx
        go_wp2_with (first
          | rw [hW2.out, hz2.out]
          | (go_at_call 30; refine HLe.mono ?_; rintro e w3 ⟨vl, rfl, hl3, kl3⟩; clear HLe; have hba := HAd.out vl w3 hl3 kl3; unfold BothA at hba; have hbaH := (show Hid (Calls _ _ _ _ _) from hba); clear hba)
          | (go_at_call 22; refine hbaH.out.mono ?_; rintro e w4 ⟨rfl, hsp4⟩; have hsp4H := (show Hid (Calls _ _ _ _ _) from hsp4); clear hbaH hsp4)
          | (go_at_call 31; refine hsp4H.out.mono ?_; rintro e w5 ⟨rfl, hx5, hra5⟩; have hra5H := (show Hid (Calls _ _ _ _ _) from hra5); have y3 := (HXG.out _ _ hx5 (fun b e => e)).2.2.2.1; clear hsp4H hra5)
          | (go_at_call 33; refine hra5H.out.mono ?_; rintro e w6 ⟨rfl, htE, hx6⟩; have hbE := HEn.out _ hx6; clear hra5H hx6))
        have kd : Bw w6 w6.drew := (Bw.refl _).drew
        have twd := (htE).keep kd
        have HSm := same15_any twd.jns
        obtain ⟨LVz, WVz, hrz⟩ := twd.2.1
        have t1 := hrz.t1
        obtain ⟨dd, hdd⟩ : ∃ d, Hid ((S').dead = d) := ⟨_, rfl⟩
        obtain ⟨CN, hCN⟩ : ∃ c : Int, Hid (((Dsk.cnt (S').is (S').n : Nat) : Int) = c) := ⟨_, rfl⟩
        have HDd : Hid (∀ W, Bw w6.drew W → Calls Try.prog 35 #[.pointer (some ⟨g, 0, none⟩)] W fun e w' => e = .returned (.bool dd) ∧ w' = W) := fun W k => by rw [← hdd.out]; exact dead_any (twd.1.keep k)
        have HWt : Hid (∀ W, Bw w6.drew W → Calls Try.prog 36 #[.pointer (some ⟨g, 0, none⟩)] W fun e w' => e = .returned (.int .i64 CN) ∧ w' = W) := fun W k => by rw [← hCN.out]; exact waiting_any (twd.1.keep k)
        have HRw : Hid (∀ W, Bw w6.drew W → Calls Try.prog 37 #[.pointer (some ⟨gd, 0, none⟩)] W fun e w' => e = .returned (.int .i64 CN) ∧ w' = W) := fun W k => by rw [← hCN.out]; exact rwaiting_any (hrz.keep k)
        have HEND : Hid (∀ W, Bw w6.drew W → Hid (PSt W1 g lb gm gd cb cap S0.n _ _ W)) := fun W k => show PSt _ _ _ _ _ _ _ _ _ _ _ from ⟨_, _, twd.keep k, HN.out, (hbE).trans (Bx.of_bw (kd.trans k))⟩
        rw [hdd.out] at t1
        clear twd hrz kd hdd hCN htE hbE HXG HAd HEn
        cases dd
        · skip
          go_region_held3 (fun w' => w'.cell? ⟨gd, 1, none⟩ = some (.bool false)) (first | exact t1 | exact t1' | assumption) (first
            | (go_at_call 29; refine HSm.mono ?_; rintro e wS ⟨rfl, kbS⟩; have t1' := (kbS.cell (p := ⟨gd, 1, none⟩) (block_lt_of_cell t1)).trans t1)
            | (go_at_call 35; refine (HDd.out _ kbS).mono ?_; rintro e wQ ⟨rfl, hw⟩; obtain rfl := hw.symm)
            | (go_at_call 36; refine (HWt.out _ kbS).mono ?_; rintro e wQ ⟨rfl, hw⟩; obtain rfl := hw.symm)
            | (go_at_call 37; refine (HRw.out _ kbS).mono ?_; rintro e wQ ⟨rfl, hw⟩; obtain rfl := hw.symm))
          go_wp2
          go_roundw
          case rel => exact ⟨i + 1, by go_num, by omega, HEND.out _ kbS⟩
          case measure => simp [intOf]; omega
        · skip
          go_region_held3 (fun w' => w'.cell? ⟨gd, 1, none⟩ = some (.bool true)) (first | exact t1 | exact t1' | assumption) (first
            | (go_at_call 29; refine HSm.mono ?_; rintro e wS ⟨rfl, kbS⟩; have t1' := (kbS.cell (p := ⟨gd, 1, none⟩) (block_lt_of_cell t1)).trans t1)
            | (go_at_call 35; refine (HDd.out _ kbS).mono ?_; rintro e wQ ⟨rfl, hw⟩; obtain rfl := hw.symm)
            | (go_at_call 36; refine (HWt.out _ kbS).mono ?_; rintro e wQ ⟨rfl, hw⟩; obtain rfl := hw.symm)
            | (go_at_call 37; refine (HRw.out _ kbS).mono ?_; rintro e wQ ⟨rfl, hw⟩; obtain rfl := hw.symm))
          go_wp2
          go_roundw
          case rel => exact ⟨i + 1, by go_num, by omega, HEND.out _ kbS⟩
          case measure => simp [intOf]; omega
      by_cases d2 : x.do_ = 2
      · rw [d2] at c0 x0 hW2 HXG
        have hdO := HT2.out.1
        have hrO := HT2.out.2.1
        have hsO : W1.heap.size ≤ W2.heap.size := HB2.out.size
        have hbO := HB2.out
        have rr0 := (HC.out.run hbO).1
        have rr1 := (HC.out.run hbO).2
        obtain ⟨O', hO'⟩ : ∃ O', Hid (Jl.openJ (S) rx ry = O') := ⟨_, rfl⟩
        obtain ⟨E2, hE2⟩ : ∃ E2, Hid (Jl.openE (S) rx ry = E2) := ⟨_, rfl⟩
        have HOp : Hid (∀ W, DiskAt W g lb gm (S) → Calls Try.prog 19 #[.pointer (some ⟨g, 0, none⟩), .agg #[.int .i64 rx, .int .i64 ry]] W fun e w' => OpenV W g E2 O' e w') := fun W h => by rw [← hE2.out, ← hO'.out]; exact jopen_any h rx ry bx bY
        have HRp : Hid (∀ W, (∃ LV WV, RefAt W gd cb cap LV WV (S)) → Calls Try.prog 28 #[.pointer (some ⟨gd, 0, none⟩), .agg #[.int .i64 rx, .int .i64 ry]] W fun e w' => ROpenV W gd E2 O' e w') := fun W h => by rw [← hE2.out, ← hO'.out]; obtain ⟨_, _, h⟩ := h; exact ropen15_any h rx ry bx bY
        have HTp : Hid (∀ W e1 wa e2 wb, DiskAt W g lb gm (S) → (∃ LV WV, RefAt W gd cb cap LV WV (S)) → W1.heap.size ≤ W.heap.size → OpenV W g E2 O' e1 wa → ROpenV wa gd E2 O' e2 wb → ∃ p1 p2, e1 = .returned (.tuple #[p1, .int .i64 E2]) ∧ e2 = .returned (.tuple #[p2, .int .i64 E2]) ∧ Tw W1.heap.size g lb gm gd cb cap p1 p2 O' (S) wb ∧ Bw W wa ∧ Bw wa wb) := fun W e1 wa e2 wb h1 h2 h3 h4 h5 => by rw [← hE2.out, ← hO'.out] at *; exact tw_open h1 h2 h3 h4 h5
        have eE2 : (E2 == E2) = true := beq_self_eq_true E2
        clear HT2 HB2 HTw HBx hxT hxM hxL hxF hxB Hx HXG run0 run1
        go_wp2_with (first
          | rw [hW2.out, hz2.out]
          | (go_at_call 19; refine (HOp.out _ hdO).mono ?_; intro e wa ho; have ho' := ho; obtain ⟨kba, q1, v1, e1, -⟩ := ho'; subst e1; have rr0' := (kba.cell (p := ⟨z, 0, none⟩) (block_lt_of_cell rr0)).trans rr0; have rr1' := (kba.cell (p := ⟨z, 1, none⟩) (block_lt_of_cell rr1)).trans rr1)
          | (go_at_call 28; refine (HRp.out _ (by obtain ⟨L9, V9, h9⟩ := hrO; exact ⟨L9, V9, h9.keep kba⟩)).mono ?_; intro e wb ho3; obtain ⟨q1', q2, e1', e2, htE, -, kbb⟩ := HTp.out _ _ _ _ _ hdO hrO hsO ho ho3; cases e1'; subst e2; have hbE := hbO.trans (Bx.of_bw (kba.trans kbb)); clear ho ho3))
        have kd : Bw wb wb.drew := (Bw.refl _).drew
        have twd := (htE).keep kd
        have HSm := same15_any twd.jns
        obtain ⟨LVz, WVz, hrz⟩ := twd.2.1
        have t1 := hrz.t1
        obtain ⟨dd, hdd⟩ : ∃ d, Hid ((S).dead = d) := ⟨_, rfl⟩
        obtain ⟨CN, hCN⟩ : ∃ c : Int, Hid (((Dsk.cnt (S).is (S).n : Nat) : Int) = c) := ⟨_, rfl⟩
        have HDd : Hid (∀ W, Bw wb.drew W → Calls Try.prog 35 #[.pointer (some ⟨g, 0, none⟩)] W fun e w' => e = .returned (.bool dd) ∧ w' = W) := fun W k => by rw [← hdd.out]; exact dead_any (twd.1.keep k)
        have HWt : Hid (∀ W, Bw wb.drew W → Calls Try.prog 36 #[.pointer (some ⟨g, 0, none⟩)] W fun e w' => e = .returned (.int .i64 CN) ∧ w' = W) := fun W k => by rw [← hCN.out]; exact waiting_any (twd.1.keep k)
        have HRw : Hid (∀ W, Bw wb.drew W → Calls Try.prog 37 #[.pointer (some ⟨gd, 0, none⟩)] W fun e w' => e = .returned (.int .i64 CN) ∧ w' = W) := fun W k => by rw [← hCN.out]; exact rwaiting_any (hrz.keep k)
        have HEND : Hid (∀ W, Bw wb.drew W → Hid (PSt W1 g lb gm gd cb cap S0.n _ _ W)) := fun W k => show PSt _ _ _ _ _ _ _ _ _ _ _ from ⟨_, _, twd.keep k, hSn, (hbE).trans (Bx.of_bw (kd.trans k))⟩
        rw [hdd.out] at t1
        clear twd hrz kd hdd hCN htE hbE hdO hrO hbO HOp HRp HTp
        cases dd
        · skip
          go_region_held3 (fun w' => w'.cell? ⟨gd, 1, none⟩ = some (.bool false)) (first | exact t1 | exact t1' | assumption) (first
            | (go_at_call 29; refine HSm.mono ?_; rintro e wS ⟨rfl, kbS⟩; have t1' := (kbS.cell (p := ⟨gd, 1, none⟩) (block_lt_of_cell t1)).trans t1)
            | (go_at_call 35; refine (HDd.out _ kbS).mono ?_; rintro e wQ ⟨rfl, hw⟩; obtain rfl := hw.symm)
            | (go_at_call 36; refine (HWt.out _ kbS).mono ?_; rintro e wQ ⟨rfl, hw⟩; obtain rfl := hw.symm)
            | (go_at_call 37; refine (HRw.out _ kbS).mono ?_; rintro e wQ ⟨rfl, hw⟩; obtain rfl := hw.symm))
          go_wp2
          go_roundw
          case rel => exact ⟨i + 1, by go_num, by omega, HEND.out _ kbS⟩
          case measure => simp [intOf]; omega
        · skip
          go_region_held3 (fun w' => w'.cell? ⟨gd, 1, none⟩ = some (.bool true)) (first | exact t1 | exact t1' | assumption) (first
            | (go_at_call 29; refine HSm.mono ?_; rintro e wS ⟨rfl, kbS⟩; have t1' := (kbS.cell (p := ⟨gd, 1, none⟩) (block_lt_of_cell t1)).trans t1)
            | (go_at_call 35; refine (HDd.out _ kbS).mono ?_; rintro e wQ ⟨rfl, hw⟩; obtain rfl := hw.symm)
            | (go_at_call 36; refine (HWt.out _ kbS).mono ?_; rintro e wQ ⟨rfl, hw⟩; obtain rfl := hw.symm)
            | (go_at_call 37; refine (HRw.out _ kbS).mono ?_; rintro e wQ ⟨rfl, hw⟩; obtain rfl := hw.symm))
          go_wp2
          go_roundw
          case rel => exact ⟨i + 1, by go_num, by omega, HEND.out _ kbS⟩
          case measure => simp [intOf]; omega
      by_cases d3 : x.do_ = 3
      · rw [d3] at c0 x0 hW2 HXG
        have hF0 : ∀ b o, x.F = some ⟨b, o, none⟩ → 0 < x.m → ¬ dIn g lb gm b := fun b o e h0 hb => hxF b o e h0 (.inl hb)
        have hF1 : ∀ b o, x.F = some ⟨b, o, none⟩ → 0 < x.m → ¬ rIn gd cb b := fun b o e h0 hb => hxF b o e h0 (.inr hb)
        have hm9 : x.m ≤ 140737488355328 := by have := Hx.ints.le; have := Hx.ints.room; omega
        have hI2 := Hx.ints.row.keep k2
        have HRs := restart_any HT2.out.1 x.F x.m x.c x.K hm9 hI2 hF0
        obtain ⟨S', hS'⟩ : ∃ S' : Dsk, Hid (S.again x.K x.m = S') := ⟨_, rfl⟩
        have hn' : Hid (S'.n = S.n) := by rw [← hS'.out]; exact rfl
        have HRr : Hid (∀ W, Bx (dIn g lb gm) W2 W → Calls Try.prog 14 #[.pointer (some ⟨gd, 0, none⟩), .slice x.F x.m x.c] W fun e w' => e = .returned (.tuple #[]) ∧ (∃ LV WV, RefAt w' gd cb cap LV WV S') ∧ Bx (rIn gd cb) W w') := fun W k => by
          obtain ⟨LV, WV, hr⟩ := HT2.out.2.1
          have hr1 := hr.keepn k (HT2.out.1.nou15) (dr_ne15 HT2.out.1 hr _ (.inl rfl)) (dr_ne15 HT2.out.1 hr _ (.inr rfl))
          rw [← hS'.out]
          exact rrestart_any hr1 x.F x.m x.c x.K hm9 (hI2.keepx k (fun b o e h0 => hF0 b o e h0)) hF1
        have HTE : Hid (∀ Wa Wb, Bx (dIn g lb gm) W2 Wa → DiskAt Wa g lb gm S' → Bx (rIn gd cb) Wa Wb → (∃ LV WV, RefAt Wb gd cb cap LV WV S') → Tw W1.heap.size g lb gm gd cb cap u9 u11 O S' Wb ∧ Bx (fun b => dIn g lb gm b ∨ rIn gd cb b) W1 Wb) := fun Wa Wb h1 h2 h3 h4 => ⟨HT2.out.disks h1 h2 h3 h4 hn'.out, (HB2.out.trans (h1.more (fun b e => .inl e))).trans (h3.more (fun b e => .inr e))⟩
        have hlow : Hid (∀ b, dIn g lb gm b → b < wr.heap.size) := fun b e => HTw.out.1.low b e
        rw [hS'.out] at HRs
        obtain ⟨O', hO'⟩ : ∃ O', Hid (Jl.openJ (S') rx ry = O') := ⟨_, rfl⟩
        obtain ⟨E2, hE2⟩ : ∃ E2, Hid (Jl.openE (S') rx ry = E2) := ⟨_, rfl⟩
        have HOp : Hid (∀ W, DiskAt W g lb gm (S') → Calls Try.prog 19 #[.pointer (some ⟨g, 0, none⟩), .agg #[.int .i64 rx, .int .i64 ry]] W fun e w' => OpenV W g E2 O' e w') := fun W h => by rw [← hE2.out, ← hO'.out]; exact jopen_any h rx ry bx bY
        have HRp : Hid (∀ W, (∃ LV WV, RefAt W gd cb cap LV WV (S')) → Calls Try.prog 28 #[.pointer (some ⟨gd, 0, none⟩), .agg #[.int .i64 rx, .int .i64 ry]] W fun e w' => ROpenV W gd E2 O' e w') := fun W h => by rw [← hE2.out, ← hO'.out]; obtain ⟨_, _, h⟩ := h; exact ropen15_any h rx ry bx bY
        have HTp : Hid (∀ W e1 wa e2 wb, DiskAt W g lb gm (S') → (∃ LV WV, RefAt W gd cb cap LV WV (S')) → W1.heap.size ≤ W.heap.size → OpenV W g E2 O' e1 wa → ROpenV wa gd E2 O' e2 wb → ∃ p1 p2, e1 = .returned (.tuple #[p1, .int .i64 E2]) ∧ e2 = .returned (.tuple #[p2, .int .i64 E2]) ∧ Tw W1.heap.size g lb gm gd cb cap p1 p2 O' (S') wb ∧ Bw W wa ∧ Bw wa wb) := fun W e1 wa e2 wb h1 h2 h3 h4 h5 => by rw [← hE2.out, ← hO'.out] at *; exact tw_open h1 h2 h3 h4 h5
        have eE2 : (E2 == E2) = true := beq_self_eq_true E2
        clear HT2 HB2 HTw HBx hxT hxM hxL hxF hxB Hx run0 run1 hI2 hF0 hF1
        go_wp2_with (first
          | rw [hW2.out, hz2.out]
          | (go_at_call 13; refine HRs.mono ?_; rintro e wc ⟨rfl, hda, hxa⟩; clear HRs; have y4 := (HXG.out _ _ hxa hlow.out).2.2.2.2.1)
          | (go_at_call 14; refine (HRr.out _ hxa).mono ?_; rintro e wd ⟨rfl, hrb, hxb⟩; obtain ⟨htD, hbO⟩ := HTE.out _ _ hxa hda hxb hrb; have hdO := htD.1; have hrO := htD.2.1; have hsO : W1.heap.size ≤ wd.heap.size := hbO.size; have rr0 := (HC.out.run hbO).1; have rr1 := (HC.out.run hbO).2; clear htD hrb hxb hda hxa)
          | (go_at_call 19; refine (HOp.out _ hdO).mono ?_; intro e wa ho; have ho' := ho; obtain ⟨kba, q1, v1, e1, -⟩ := ho'; subst e1; have rr0' := (kba.cell (p := ⟨z, 0, none⟩) (block_lt_of_cell rr0)).trans rr0; have rr1' := (kba.cell (p := ⟨z, 1, none⟩) (block_lt_of_cell rr1)).trans rr1)
          | (go_at_call 28; refine (HRp.out _ (by obtain ⟨L9, V9, h9⟩ := hrO; exact ⟨L9, V9, h9.keep kba⟩)).mono ?_; intro e wb ho3; obtain ⟨q1', q2, e1', e2, htE, -, kbb⟩ := HTp.out _ _ _ _ _ hdO hrO hsO ho ho3; cases e1'; subst e2; have hbE := hbO.trans (Bx.of_bw (kba.trans kbb)); clear ho ho3))
        have kd : Bw wb wb.drew := (Bw.refl _).drew
        have twd := (htE).keep kd
        have HSm := same15_any twd.jns
        obtain ⟨LVz, WVz, hrz⟩ := twd.2.1
        have t1 := hrz.t1
        obtain ⟨dd, hdd⟩ : ∃ d, Hid ((S').dead = d) := ⟨_, rfl⟩
        obtain ⟨CN, hCN⟩ : ∃ c : Int, Hid (((Dsk.cnt (S').is (S').n : Nat) : Int) = c) := ⟨_, rfl⟩
        have HDd : Hid (∀ W, Bw wb.drew W → Calls Try.prog 35 #[.pointer (some ⟨g, 0, none⟩)] W fun e w' => e = .returned (.bool dd) ∧ w' = W) := fun W k => by rw [← hdd.out]; exact dead_any (twd.1.keep k)
        have HWt : Hid (∀ W, Bw wb.drew W → Calls Try.prog 36 #[.pointer (some ⟨g, 0, none⟩)] W fun e w' => e = .returned (.int .i64 CN) ∧ w' = W) := fun W k => by rw [← hCN.out]; exact waiting_any (twd.1.keep k)
        have HRw : Hid (∀ W, Bw wb.drew W → Calls Try.prog 37 #[.pointer (some ⟨gd, 0, none⟩)] W fun e w' => e = .returned (.int .i64 CN) ∧ w' = W) := fun W k => by rw [← hCN.out]; exact rwaiting_any (hrz.keep k)
        have HEND : Hid (∀ W, Bw wb.drew W → Hid (PSt W1 g lb gm gd cb cap S0.n _ _ W)) := fun W k => show PSt _ _ _ _ _ _ _ _ _ _ _ from ⟨_, _, twd.keep k, hn'.out.trans hSn, (hbE).trans (Bx.of_bw (kd.trans k))⟩
        rw [hdd.out] at t1
        clear twd hrz kd hdd hCN htE hbE hdO hrO hbO HOp HRp HTp HTE HRr HXG
        cases dd
        · skip
          go_region_held3 (fun w' => w'.cell? ⟨gd, 1, none⟩ = some (.bool false)) (first | exact t1 | exact t1' | assumption) (first
            | (go_at_call 29; refine HSm.mono ?_; rintro e wS ⟨rfl, kbS⟩; have t1' := (kbS.cell (p := ⟨gd, 1, none⟩) (block_lt_of_cell t1)).trans t1)
            | (go_at_call 35; refine (HDd.out _ kbS).mono ?_; rintro e wQ ⟨rfl, hw⟩; obtain rfl := hw.symm)
            | (go_at_call 36; refine (HWt.out _ kbS).mono ?_; rintro e wQ ⟨rfl, hw⟩; obtain rfl := hw.symm)
            | (go_at_call 37; refine (HRw.out _ kbS).mono ?_; rintro e wQ ⟨rfl, hw⟩; obtain rfl := hw.symm))
          go_wp2
          go_roundw
          case rel => exact ⟨i + 1, by go_num, by omega, HEND.out _ kbS⟩
          case measure => simp [intOf]; omega
        · skip
          go_region_held3 (fun w' => w'.cell? ⟨gd, 1, none⟩ = some (.bool true)) (first | exact t1 | exact t1' | assumption) (first
            | (go_at_call 29; refine HSm.mono ?_; rintro e wS ⟨rfl, kbS⟩; have t1' := (kbS.cell (p := ⟨gd, 1, none⟩) (block_lt_of_cell t1)).trans t1)
            | (go_at_call 35; refine (HDd.out _ kbS).mono ?_; rintro e wQ ⟨rfl, hw⟩; obtain rfl := hw.symm)
            | (go_at_call 36; refine (HWt.out _ kbS).mono ?_; rintro e wQ ⟨rfl, hw⟩; obtain rfl := hw.symm)
            | (go_at_call 37; refine (HRw.out _ kbS).mono ?_; rintro e wQ ⟨rfl, hw⟩; obtain rfl := hw.symm))
          go_wp2
          go_roundw
          case rel => exact ⟨i + 1, by go_num, by omega, HEND.out _ kbS⟩
          case measure => simp [intOf]; omega
      by_cases d4 : x.do_ = 4
      · rw [d4] at c0 x0 hW2 HXG
        have nb := Hx.nb
        have HFu := fuse_any HT2.out.1 x.n_ (by omega)
        have hlo : Hid (∀ b, b = g → dIn g lb gm b) := fun b e => .inl e
        obtain ⟨S', hS'⟩ : ∃ S' : Dsk, Hid (({ S with fuse := max x.n_ (-1) } : Dsk) = S') := ⟨_, rfl⟩
        have hn' : Hid (S'.n = S.n) := by rw [← hS'.out]; exact rfl
        have HFr : Hid (∀ W, Bx (dIn g lb gm) W2 W → Calls Try.prog 34 #[.pointer (some ⟨gd, 0, none⟩), .int .i64 x.n_] W fun e w' => e = .returned (.tuple #[]) ∧ (∃ LV WV, RefAt w' gd cb cap LV WV S') ∧ Bx (rIn gd cb) W w') := fun W k => by
          obtain ⟨LV, WV, hr⟩ := HT2.out.2.1
          have hr1 := hr.keepn k (HT2.out.1.nou15) (dr_ne15 HT2.out.1 hr _ (.inl rfl)) (dr_ne15 HT2.out.1 hr _ (.inr rfl))
          rw [← hS'.out]
          exact (rfuse_any hr1 x.n_ (by omega)).mono (fun e w' h => ⟨h.1, ⟨_, _, h.2.1⟩, h.2.2⟩)
        have HTE : Hid (∀ Wa Wb, Bx (dIn g lb gm) W2 Wa → DiskAt Wa g lb gm S' → Bx (rIn gd cb) Wa Wb → (∃ LV WV, RefAt Wb gd cb cap LV WV S') → Tw W1.heap.size g lb gm gd cb cap u9 u11 O S' Wb ∧ Bx (fun b => dIn g lb gm b ∨ rIn gd cb b) W1 Wb) := fun Wa Wb h1 h2 h3 h4 => ⟨HT2.out.disks h1 h2 h3 h4 hn'.out, (HB2.out.trans (h1.more (fun b e => .inl e))).trans (h3.more (fun b e => .inr e))⟩
        have hlow : Hid (∀ b, dIn g lb gm b → b < wr.heap.size) := fun b e => HTw.out.1.low b e
        rw [hS'.out] at HFu
        clear HTw HBx x2 x3 x4 x5
        go_wp2_with (first
          | rw [hW2.out, hz2.out]
          | (go_at_call 25; refine HFu.mono ?_; rintro e wa ⟨rfl, hda, hxa⟩; clear HFu; have hxa' := hxa.more hlo.out; have y1 := (HXG.out _ _ hxa' hlow.out).2.1)
          | (go_at_call 34; refine (HFr.out _ hxa').mono ?_; rintro e wb ⟨rfl, hrb, hxb⟩; obtain ⟨htE, hbE⟩ := HTE.out _ _ hxa' hda hxb hrb))
        have kd : Bw wb wb.drew := (Bw.refl _).drew
        have twd := (htE).keep kd
        have HSm := same15_any twd.jns
        obtain ⟨LVz, WVz, hrz⟩ := twd.2.1
        have t1 := hrz.t1
        obtain ⟨dd, hdd⟩ : ∃ d, Hid ((S').dead = d) := ⟨_, rfl⟩
        obtain ⟨CN, hCN⟩ : ∃ c : Int, Hid (((Dsk.cnt (S').is (S').n : Nat) : Int) = c) := ⟨_, rfl⟩
        have HDd : Hid (∀ W, Bw wb.drew W → Calls Try.prog 35 #[.pointer (some ⟨g, 0, none⟩)] W fun e w' => e = .returned (.bool dd) ∧ w' = W) := fun W k => by rw [← hdd.out]; exact dead_any (twd.1.keep k)
        have HWt : Hid (∀ W, Bw wb.drew W → Calls Try.prog 36 #[.pointer (some ⟨g, 0, none⟩)] W fun e w' => e = .returned (.int .i64 CN) ∧ w' = W) := fun W k => by rw [← hCN.out]; exact waiting_any (twd.1.keep k)
        have HRw : Hid (∀ W, Bw wb.drew W → Calls Try.prog 37 #[.pointer (some ⟨gd, 0, none⟩)] W fun e w' => e = .returned (.int .i64 CN) ∧ w' = W) := fun W k => by rw [← hCN.out]; exact rwaiting_any (hrz.keep k)
        have HEND : Hid (∀ W, Bw wb.drew W → Hid (PSt W1 g lb gm gd cb cap S0.n _ _ W)) := fun W k => show PSt _ _ _ _ _ _ _ _ _ _ _ from ⟨_, _, twd.keep k, hn'.out.trans hSn, (hbE).trans (Bx.of_bw (kd.trans k))⟩
        rw [hdd.out] at t1
        clear twd hrz kd hdd hCN htE hbE hda hxa hxa' hrb hxb HT2 HB2 HTE HFr HXG
        cases dd
        · skip
          go_region_held3 (fun w' => w'.cell? ⟨gd, 1, none⟩ = some (.bool false)) (first | exact t1 | exact t1' | assumption) (first
            | (go_at_call 29; refine HSm.mono ?_; rintro e wS ⟨rfl, kbS⟩; have t1' := (kbS.cell (p := ⟨gd, 1, none⟩) (block_lt_of_cell t1)).trans t1)
            | (go_at_call 35; refine (HDd.out _ kbS).mono ?_; rintro e wQ ⟨rfl, hw⟩; obtain rfl := hw.symm)
            | (go_at_call 36; refine (HWt.out _ kbS).mono ?_; rintro e wQ ⟨rfl, hw⟩; obtain rfl := hw.symm)
            | (go_at_call 37; refine (HRw.out _ kbS).mono ?_; rintro e wQ ⟨rfl, hw⟩; obtain rfl := hw.symm))
          go_wp2
          go_roundw
          case rel => exact ⟨i + 1, by go_num, by omega, HEND.out _ kbS⟩
          case measure => simp [intOf]; omega
        · skip
          go_region_held3 (fun w' => w'.cell? ⟨gd, 1, none⟩ = some (.bool true)) (first | exact t1 | exact t1' | assumption) (first
            | (go_at_call 29; refine HSm.mono ?_; rintro e wS ⟨rfl, kbS⟩; have t1' := (kbS.cell (p := ⟨gd, 1, none⟩) (block_lt_of_cell t1)).trans t1)
            | (go_at_call 35; refine (HDd.out _ kbS).mono ?_; rintro e wQ ⟨rfl, hw⟩; obtain rfl := hw.symm)
            | (go_at_call 36; refine (HWt.out _ kbS).mono ?_; rintro e wQ ⟨rfl, hw⟩; obtain rfl := hw.symm)
            | (go_at_call 37; refine (HRw.out _ kbS).mono ?_; rintro e wQ ⟨rfl, hw⟩; obtain rfl := hw.symm))
          go_wp2
          go_roundw
          case rel => exact ⟨i + 1, by go_num, by omega, HEND.out _ kbS⟩
          case measure => simp [intOf]; omega
      by_cases d5 : x.do_ = 5
      · rw [d5] at c0 x0 hW2 HXG
        have hab := Hx.ab
        have hL9 : x.Lr < 9223372036854775808 := by have := Hx.row.le; have := Hx.row.room; omega
        have hLr : 0 + x.Lr ≤ 140737488355328 := by have := Hx.row.le; have := Hx.row.room; omega
        have hB0 : ∀ b o, x.B = some ⟨b, o, none⟩ → 0 < x.Lr → ¬ rIn gd cb b := fun b o e h0 hb => hxB b o e h0 (.inr hb)
        have hB9 : ∀ b o, x.B = some ⟨b, o, none⟩ → 0 < x.Lr → ¬ dIn g lb gm b := fun b o e h0 hb => hxB b o e h0 (.inl hb)
        have hRow2 := Hx.row.row.keep k2
        have hnil := Hx.row.nil
        obtain ⟨E2, hE2⟩ : ∃ E2, Hid ((S.wrote x.at_ x.Lr x.f).1 = E2) := ⟨_, rfl⟩
        obtain ⟨S', hS'⟩ : ∃ S' : Dsk, Hid ((S.wrote x.at_ x.Lr x.f).2 = S') := ⟨_, rfl⟩
        have hn' : Hid (S'.n = S.n) := by
          rw [← hS'.out]; show (S.wrote x.at_ x.Lr x.f).2.n = S.n; unfold Dsk.wrote
          split
          · rfl
          split
          · rfl
          split
          · rfl
          split <;> rfl
        have hlow : Hid (∀ b, dIn g lb gm b → b < wr.heap.size) := fun b e => HTw.out.1.low b e
        have kdr : Bw W2 W2.drew := (Bw.refl _).drew
        have kal : Bw W2.drew (W2.drew.alloc (.cells #[] 5)) := Below.alloc (Bw.refl _) (Nat.le_refl _) _
        have hsz2 : wr.heap.size ≤ W2.drew.heap.size := Nat.le_trans k2.size kdr.size
        have HCW : Hid (∀ v' w', w'.ownsRow W2.drew.heap.size 5 1 v' x.Lr (cellsU x.f x.Lr) → Bw W2.drew w' → ∃ A2 c2, v' = .slice A2 x.Lr c2 ∧ w'.cell? ⟨z2, 2, none⟩ = some (.int .i64 x.at_) ∧ w'.cell? ⟨z2, 5, none⟩ = some (.slice x.B x.Lr x.Cr) ∧ Hid (Calls Try.prog 17 #[.pointer (some ⟨g, 0, none⟩), .int .i64 x.at_, .slice A2 x.Lr c2] w' fun e w3 => e = .returned (.int .i64 E2) ∧ DiskAt w3 g lb gm S' ∧ Bx (dIn g lb gm) W2 w3 ∧ w3.cell? ⟨z2, 2, none⟩ = some (.int .i64 x.at_) ∧ w3.cell? ⟨z2, 5, none⟩ = some (.slice x.B x.Lr x.Cr))) := fun v' w' ho hb => by
          obtain ⟨A2, c2, e, q1, q2, q3, q4⟩ := row_of_own hRow2.2 ho
          have kw := kdr.trans hb
          have hc := HXG.out (fun _ => False) w' (Bx.of_bw kw) (fun b e => e.elim)
          refine ⟨A2, c2, e, hc.2.2.1, hc.2.2.2.2.2, show Calls _ _ _ _ _ from ?_⟩
          rw [← hE2.out, ← hS'.out]
          refine (write_any (HT2.out.1.keep kw) x.at_ (by omega) A2 x.Lr c2 x.f hL9 q3 (fun b o e h0 hd => by have h1 := (q4 _ e).1; have h2 := hlow.out b hd; have h3 : W2.drew.heap.size ≤ b := h1; omega) q1).mono ?_
          rintro e w3 ⟨h1, h2, h3⟩
          have hx := (Bx.of_bw kw).trans h3
          have hc3 := HXG.out _ w3 hx hlow.out
          exact ⟨h1, h2, hx, hc3.2.2.1, hc3.2.2.2.2.2⟩
        have HWr : Hid (∀ W, Bx (dIn g lb gm) W2 W → Calls Try.prog 18 #[.pointer (some ⟨gd, 0, none⟩), .int .i64 x.at_, .slice x.B x.Lr x.Cr] W fun e w' => e = .returned (.int .i64 E2) ∧ (∃ LV WV, RefAt w' gd cb cap LV WV S') ∧ Bx (rIn gd cb) W w') := fun W k => by
          obtain ⟨LV, WV, hr⟩ := HT2.out.2.1
          have hr1 := hr.keepn k (HT2.out.1.nou15) (dr_ne15 HT2.out.1 hr _ (.inl rfl)) (dr_ne15 HT2.out.1 hr _ (.inr rfl))
          rw [← hE2.out, ← hS'.out]
          exact (rwrite_any hr1 x.at_ (by omega) x.B x.Lr x.Cr x.f hL9 (hRow2.keepx k (fun b o e h0 => hB9 b o e h0)) hB0 Hx.row.le).mono (fun e w' h => ⟨h.1, ⟨LV, h.2.1⟩, h.2.2⟩)
        have HTE : Hid (∀ Wa Wb, Bx (dIn g lb gm) W2 Wa → DiskAt Wa g lb gm S' → Bx (rIn gd cb) Wa Wb → (∃ LV WV, RefAt Wb gd cb cap LV WV S') → Tw W1.heap.size g lb gm gd cb cap u9 u11 O S' Wb ∧ Bx (fun b => dIn g lb gm b ∨ rIn gd cb b) W1 Wb) := fun Wa Wb h1 h2 h3 h4 => ⟨HT2.out.disks h1 h2 h3 h4 hn'.out, (HB2.out.trans (h1.more (fun b e => .inl e))).trans (h3.more (fun b e => .inr e))⟩
        have eE2 : (E2 == E2) = true := beq_self_eq_true E2
        have HRW : Hid (RowAt (W2.drew.alloc (.cells #[] 5)) x.B x.Lr x.f) := hRow2.keep (kdr.trans kal)
        have hm := HXG.out (fun _ => False) _ (Bx.of_bw (kdr.trans kal)) (fun b e => e.elim)
        have m2 := hm.2.2.1
        have m5 := hm.2.2.2.2.2
        clear hm HT2 HB2 HTw HBx hxT hxM hxL hxF hxB Hx run0 run1 hRow2 hB0 hB9 hL9 kdr kal hab
        go_upto_region 32 with fail
        rw [hW2.out, hz2.out]
        refine wp_region_held_drew (S := fun w' => w'.cell? ⟨z2, 2, none⟩ = some (.int .i64 x.at_) ∧ w'.cell? ⟨z2, 5, none⟩ = some (.slice x.B x.Lr x.Cr)) (by kernel_rfl) (⟨x2, x5⟩) (fun hHeld => ?_)
        refine wpAnyH_take (i := 0) (v := ?_) rfl (by kernel_rfl) (by kernel_rfl) (by kernel_rfl) (fun _ _ _ h => h) (Or.inl ⟨by rfl, ?_⟩) (by assumption) ?_
        rotate_left
        · intro w hSw; (try dsimp only at hSw); go_simp; all_goals (with_reducible rfl)
        try simp only [Act.put, List.setIfInBounds_toArray, List.set_cons_zero, List.set_cons_succ, List.getElem_toArray, List.getElem_cons_succ, List.getElem_cons_zero]
        refine wpAnyH_take (i := 1) (v := ?_) rfl (by kernel_rfl) (by kernel_rfl) (by kernel_rfl) (fun _ _ _ h => h) (Or.inl ⟨by rfl, ?_⟩) (by assumption) ?_
        rotate_left
        · intro w hSw; (try dsimp only at hSw); go_simp; all_goals (with_reducible rfl)
        try simp only [Act.put, List.setIfInBounds_toArray, List.set_cons_zero, List.set_cons_succ, List.getElem_toArray, List.getElem_cons_succ, List.getElem_cons_zero]
        refine wpAnyH_take (i := 2) (v := ?_) rfl (by kernel_rfl) (by kernel_rfl) (by kernel_rfl) (fun _ _ _ h => h) (Or.inl ⟨by rfl, ?_⟩) (by assumption) ?_
        rotate_left
        · intro w hSw; (try dsimp only at hSw); obtain ⟨sw1, sw2⟩ := hSw; go_simp; all_goals (with_reducible rfl)
        try simp only [Act.put, List.setIfInBounds_toArray, List.set_cons_zero, List.set_cons_succ, List.getElem_toArray, List.getElem_cons_succ, List.getElem_cons_zero]
        refine wpAnyH_take (i := 4) (v := ?_) rfl (by kernel_rfl) (by kernel_rfl) (by kernel_rfl) (fun _ _ _ h => h) (Or.inl ⟨by rfl, ?_⟩) (by assumption) ?_
        rotate_left
        · intro w hSw; (try dsimp only at hSw); go_simp; all_goals (with_reducible rfl)
        try simp only [Act.put, List.setIfInBounds_toArray, List.set_cons_zero, List.set_cons_succ, List.getElem_toArray, List.getElem_cons_succ, List.getElem_cons_zero]
        refine wpAnyH_take (i := 5) (v := ?_) rfl (by kernel_rfl) (by kernel_rfl) (by kernel_rfl) (fun _ _ _ h => h) (Or.inl ⟨by rfl, ?_⟩) (by assumption) ?_
        rotate_left
        · intro w hSw; (try dsimp only at hSw); obtain ⟨sw1, sw2⟩ := hSw; go_simp; all_goals (with_reducible rfl)
        try simp only [Act.put, List.setIfInBounds_toArray, List.set_cons_zero, List.set_cons_succ, List.getElem_toArray, List.getElem_cons_succ, List.getElem_cons_zero]
        refine wpAnyH_ready (rs := [3]) (by kernel_rfl) (by simp) ?_
        refine AllReadyH.cons rfl (fun K hK => ?_) AllReadyH.nil
        go_simp
        refine hK.out _ _ (⟨m2, m5⟩) (fun hHeld => ?_)
        clear hK K
        try simp only [Act.put, List.setIfInBounds_toArray, List.set_cons_zero, List.set_cons_succ, List.getElem_toArray, List.getElem_cons_succ, List.getElem_cons_zero]
        refine wpAnyH_ready (rs := [6]) (by kernel_rfl) (by simp) ?_
        refine AllReadyH.cons rfl (fun K hK => ?_) AllReadyH.nil
        refine step_append_byt (by rfl) (.tmp 121) (.tmp 123) (by rfl) W2.drew.heap.size _ 0 [] (by rfl) (own_empty W2.drew W2.drew.heap.size _ (Nat.le_refl _)) x.B x.Lr x.Cr x.f (by rfl) HRW.out hnil hLr (by show W2.drew.heap.size ≤ (W2.drew.alloc (.cells #[] 5)).heap.size; rw [size_alloc]; omega) ?_
        intro v' w' hown hgrow
        rw [Nat.zero_add, List.nil_append] at hown
        obtain ⟨A2, c2, e2, n2, n5, HCw⟩ := HCW.out v' w' hown (bw_fresh hgrow)
        subst e2
        clear hown hgrow HCW
        refine hK.out _ _ (⟨n2, n5⟩) (fun hHeld => ?_)
        clear hK K
        try simp only [Act.put, List.setIfInBounds_toArray, List.set_cons_zero, List.set_cons_succ, List.getElem_toArray, List.getElem_cons_succ, List.getElem_cons_zero]
        refine wpAnyH_ready (rs := [7]) (by kernel_rfl) (by simp) ?_
        refine AllReadyH.cons rfl (fun K hK => ?_) AllReadyH.nil
        go_simp
        refine HCw.out.mono ?_
        rintro e w3 ⟨rfl, hd3, hx3, l2, l5⟩
        clear HCw
        refine hK.out _ _ (⟨l2, l5⟩) (fun hHeld => ?_)
        clear hK K
        try simp only [Act.put, List.setIfInBounds_toArray, List.set_cons_zero, List.set_cons_succ, List.getElem_toArray, List.getElem_cons_succ, List.getElem_cons_zero]
        refine wpAnyH_take (i := 8) (v := ?_) rfl (by kernel_rfl) (by kernel_rfl) (by kernel_rfl) (fun _ _ _ h => h) (Or.inl ⟨by rfl, ?_⟩) (by assumption) ?_
        rotate_left
        · intro w hSw; (try dsimp only at hSw); go_simp; all_goals (with_reducible rfl)
        try simp only [Act.put, List.setIfInBounds_toArray, List.set_cons_zero, List.set_cons_succ, List.getElem_toArray, List.getElem_cons_succ, List.getElem_cons_zero]
        refine wpAnyH_done (by kernel_rfl) ?_ _
        go_wp2_with (go_at_call 18; refine (HWr.out _ hx3).mono ?_; rintro e wb ⟨rfl, hrb, hxb⟩; obtain ⟨htE, hbE⟩ := HTE.out _ _ hx3 hd3 hxb hrb)
        have kd : Bw wb wb.drew := (Bw.refl _).drew
        have twd := (htE).keep kd
        have HSm := same15_any twd.jns
        obtain ⟨LVz, WVz, hrz⟩ := twd.2.1
        have t1 := hrz.t1
        obtain ⟨dd, hdd⟩ : ∃ d, Hid ((S').dead = d) := ⟨_, rfl⟩
        obtain ⟨CN, hCN⟩ : ∃ c : Int, Hid (((Dsk.cnt (S').is (S').n : Nat) : Int) = c) := ⟨_, rfl⟩
        have HDd : Hid (∀ W, Bw wb.drew W → Calls Try.prog 35 #[.pointer (some ⟨g, 0, none⟩)] W fun e w' => e = .returned (.bool dd) ∧ w' = W) := fun W k => by rw [← hdd.out]; exact dead_any (twd.1.keep k)
        have HWt : Hid (∀ W, Bw wb.drew W → Calls Try.prog 36 #[.pointer (some ⟨g, 0, none⟩)] W fun e w' => e = .returned (.int .i64 CN) ∧ w' = W) := fun W k => by rw [← hCN.out]; exact waiting_any (twd.1.keep k)
        have HRw : Hid (∀ W, Bw wb.drew W → Calls Try.prog 37 #[.pointer (some ⟨gd, 0, none⟩)] W fun e w' => e = .returned (.int .i64 CN) ∧ w' = W) := fun W k => by rw [← hCN.out]; exact rwaiting_any (hrz.keep k)
        have HEND : Hid (∀ W, Bw wb.drew W → Hid (PSt W1 g lb gm gd cb cap S0.n _ _ W)) := fun W k => show PSt _ _ _ _ _ _ _ _ _ _ _ from ⟨_, _, twd.keep k, hn'.out.trans hSn, (hbE).trans (Bx.of_bw (kd.trans k))⟩
        rw [hdd.out] at t1
        clear twd hrz kd hdd hCN htE hbE hd3 hx3 hrb hxb HTE HWr HXG
        cases dd
        · skip
          go_region_held3 (fun w' => w'.cell? ⟨gd, 1, none⟩ = some (.bool false)) (first | exact t1 | exact t1' | assumption) (first
            | (go_at_call 29; refine HSm.mono ?_; rintro e wS ⟨rfl, kbS⟩; have t1' := (kbS.cell (p := ⟨gd, 1, none⟩) (block_lt_of_cell t1)).trans t1)
            | (go_at_call 35; refine (HDd.out _ kbS).mono ?_; rintro e wQ ⟨rfl, hw⟩; obtain rfl := hw.symm)
            | (go_at_call 36; refine (HWt.out _ kbS).mono ?_; rintro e wQ ⟨rfl, hw⟩; obtain rfl := hw.symm)
            | (go_at_call 37; refine (HRw.out _ kbS).mono ?_; rintro e wQ ⟨rfl, hw⟩; obtain rfl := hw.symm))
          go_wp2
          go_roundw
          case rel => exact ⟨i + 1, by go_num, by omega, HEND.out _ kbS⟩
          case measure => simp [intOf]; omega
        · skip
          go_region_held3 (fun w' => w'.cell? ⟨gd, 1, none⟩ = some (.bool true)) (first | exact t1 | exact t1' | assumption) (first
            | (go_at_call 29; refine HSm.mono ?_; rintro e wS ⟨rfl, kbS⟩; have t1' := (kbS.cell (p := ⟨gd, 1, none⟩) (block_lt_of_cell t1)).trans t1)
            | (go_at_call 35; refine (HDd.out _ kbS).mono ?_; rintro e wQ ⟨rfl, hw⟩; obtain rfl := hw.symm)
            | (go_at_call 36; refine (HWt.out _ kbS).mono ?_; rintro e wQ ⟨rfl, hw⟩; obtain rfl := hw.symm)
            | (go_at_call 37; refine (HRw.out _ kbS).mono ?_; rintro e wQ ⟨rfl, hw⟩; obtain rfl := hw.symm))
          go_wp2
          go_roundw
          case rel => exact ⟨i + 1, by go_num, by omega, HEND.out _ kbS⟩
          case measure => simp [intOf]; omega
      go_wp2
      rw [hW2.out, hz2.out]
      have kd : Bw W2 W2.drew := (Bw.refl _).drew
      have twd := (HT2.out).keep kd
      have HSm := same15_any twd.jns
      obtain ⟨LVz, WVz, hrz⟩ := twd.2.1
      have t1 := hrz.t1
      obtain ⟨dd, hdd⟩ : ∃ d, Hid ((S).dead = d) := ⟨_, rfl⟩
      obtain ⟨CN, hCN⟩ : ∃ c : Int, Hid (((Dsk.cnt (S).is (S).n : Nat) : Int) = c) := ⟨_, rfl⟩
      have HDd : Hid (∀ W, Bw W2.drew W → Calls Try.prog 35 #[.pointer (some ⟨g, 0, none⟩)] W fun e w' => e = .returned (.bool dd) ∧ w' = W) := fun W k => by rw [← hdd.out]; exact dead_any (twd.1.keep k)
      have HWt : Hid (∀ W, Bw W2.drew W → Calls Try.prog 36 #[.pointer (some ⟨g, 0, none⟩)] W fun e w' => e = .returned (.int .i64 CN) ∧ w' = W) := fun W k => by rw [← hCN.out]; exact waiting_any (twd.1.keep k)
      have HRw : Hid (∀ W, Bw W2.drew W → Calls Try.prog 37 #[.pointer (some ⟨gd, 0, none⟩)] W fun e w' => e = .returned (.int .i64 CN) ∧ w' = W) := fun W k => by rw [← hCN.out]; exact rwaiting_any (hrz.keep k)
      have HEND : Hid (∀ W, Bw W2.drew W → Hid (PSt W1 g lb gm gd cb cap S0.n _ _ W)) := fun W k => show PSt _ _ _ _ _ _ _ _ _ _ _ from ⟨_, _, twd.keep k, hSn, (HB2.out).trans (Bx.of_bw (kd.trans k))⟩
      rw [hdd.out] at t1
      clear twd hrz kd hdd hCN HT2 HB2 HTw HBx
      cases dd
      · skip
        go_region_held3 (fun w' => w'.cell? ⟨gd, 1, none⟩ = some (.bool false)) (first | exact t1 | exact t1' | assumption) (first
          | (go_at_call 29; refine HSm.mono ?_; rintro e wS ⟨rfl, kbS⟩; have t1' := (kbS.cell (p := ⟨gd, 1, none⟩) (block_lt_of_cell t1)).trans t1)
          | (go_at_call 35; refine (HDd.out _ kbS).mono ?_; rintro e wQ ⟨rfl, hw⟩; obtain rfl := hw.symm)
          | (go_at_call 36; refine (HWt.out _ kbS).mono ?_; rintro e wQ ⟨rfl, hw⟩; obtain rfl := hw.symm)
          | (go_at_call 37; refine (HRw.out _ kbS).mono ?_; rintro e wQ ⟨rfl, hw⟩; obtain rfl := hw.symm))
        go_wp2
        go_roundw
        case rel => exact ⟨i + 1, by go_num, by omega, HEND.out _ kbS⟩
        case measure => simp [intOf]; omega
      · skip
        go_region_held3 (fun w' => w'.cell? ⟨gd, 1, none⟩ = some (.bool true)) (first | exact t1 | exact t1' | assumption) (first
          | (go_at_call 29; refine HSm.mono ?_; rintro e wS ⟨rfl, kbS⟩; have t1' := (kbS.cell (p := ⟨gd, 1, none⟩) (block_lt_of_cell t1)).trans t1)
          | (go_at_call 35; refine (HDd.out _ kbS).mono ?_; rintro e wQ ⟨rfl, hw⟩; obtain rfl := hw.symm)
          | (go_at_call 36; refine (HWt.out _ kbS).mono ?_; rintro e wQ ⟨rfl, hw⟩; obtain rfl := hw.symm)
          | (go_at_call 37; refine (HRw.out _ kbS).mono ?_; rintro e wQ ⟨rfl, hw⟩; obtain rfl := hw.symm))
        go_wp2
        go_roundw
        case rel => exact ⟨i + 1, by go_num, by omega, HEND.out _ kbS⟩
        case measure => simp [intOf]; omega
    · have i1 : ¬ (i : Int) < (n : Int) := by omega
      go_wp2
      go_ret
      obtain ⟨O, S, hTw, hSn, hBx⟩ := hst.out
      exact ⟨rfl, S, hTw.1, hTw.2.1, hSn, HC.out.bx hBx⟩
end Go.Proofs.Ytppknadflmjefaa
