/- Layer 14: a Read done to a disk and to the document's; any act. -/
import Derived.Test.YtmmpignjihbbpaaCK
namespace Go.Proofs.Ytmmpignjihbbpaa
open Go.RowKit Go.Deep Go.Maps
set_option linter.unusedVariables false
set_option linter.unusedSimpArgs false

theorem BlockIs.own {w : World} {g q : Nat} {f : Nat → Int} (h : BlockIs w g q f) : Own w g q f := by
  obtain ⟨cur, h1, h2, h3⟩ := h
  exact ⟨cur, h1, by omega, h3⟩
theorem readE_zero {S : Dsk} {x y : Int} (h : S.readE x y = 0) : S.dead = false ∧ ∃ a k : Nat, x = (a : Int) ∧ y = (k : Int) ∧ a + k ≤ S.n := by
  unfold Dsk.readE at h
  cases hd : S.dead with
  | true => rw [hd, if_pos rfl] at h; cases h
  | false =>
    rw [hd, if_neg (by decide)] at h
    by_cases hx : 0 ≤ x ∧ 0 ≤ y ∧ x + y ≤ S.n
    · exact ⟨rfl, x.toNat, y.toNat, by omega, by omega, by omega⟩
    · rw [if_pos hx] at h; cases h
set_option maxRecDepth 100000 in
set_option maxHeartbeats 4000000 in
theorem both_readbad {w : World} {base g lb gm g' cb cap : Nat} {LV WV : Nat → Value} {S : Dsk} (hd : DiskAt w g lb gm S) (hr : RefAt w g' cb cap LV WV S) (hge : ∀ b, dIn g lb gm b ∨ rIn g' cb b → base ≤ b) (hbase : base ≤ w.heap.size) (x : Ac) (hx : AcIn w x) (hxB : ∀ b o, x.B = some ⟨b, o, none⟩ → 0 < x.L → b < base) (hxF : ∀ b o, x.F = some ⟨b, o, none⟩ → 0 < x.m → b < base) (hdo : x.do_ = 2) (he : S.readE x.at_ x.n ≠ 0) :
    Calls Try.prog 12 #[.pointer (some ⟨g, 0, none⟩), .pointer (some ⟨g', 0, none⟩), .agg x.vals.toArray] w fun e w' => BothEnds base g lb gm g' cb cap S.n w e w' := by
  have hC := ctx_of hd hr hge hbase x hx hxB hxF
  obtain ⟨W1, hW1⟩ : ∃ W, Hid (w.alloc (.cells x.vals.toArray 36) = W) := ⟨_, rfl⟩
  obtain ⟨z, hz⟩ : ∃ z, Hid (w.heap.size = z) := ⟨_, rfl⟩
  rw [hW1.out, hz.out] at hC
  have hcs := hC.a.cells
  have k0 := hcs.1
  have k1 := hcs.2.1
  have k2 := hcs.2.2.1
  have k3 := hcs.2.2.2.1
  have k4 := hcs.2.2.2.2.1
  have k5 := hcs.2.2.2.2.2
  have ab := hC.i.ab
  have nb := hC.i.nb
  have yb := hC.i.yb
  clear hd hr hx hcs
  go_enter Try.func12, Try.ntmps12
  rw [hdo] at k0
  clear hdo
  have HD := read_bad hC.d x.at_ x.n (by omega) he
  obtain ⟨LV1, WV1, hr1⟩ := hC.r
  have HR := rread_bad hr1 x.at_ x.n (by omega) he
  obtain ⟨E, hE⟩ : ∃ E, Hid (S.readE x.at_ x.n = E) := ⟨_, rfl⟩
  rw [hE.out] at HD HR
  clear he
  have eE : (E == E) = true := beq_self_eq_true E
  have cx := conv_row (C := 0) (row_none W1)
  obtain ⟨X, hX⟩ : ∃ X, Hid (str (fun _ => 0) 0 = X) := ⟨_, rfl⟩
  rw [hX.out] at cx
  go_wp2_with (first
    | (rw [hW1.out, hz.out])
    | (go_at_call 21; refine HD.mono ?_; rintro e W2 ⟨rfl, hw⟩; obtain rfl := hw.symm; clear HD)
    | (go_at_call 28; refine HR.mono ?_; rintro e W2 ⟨rfl, hw⟩; obtain rfl := hw.symm; clear HR))
  go_loopw [16] (fun i wr => i = .int .i64 0 ∧ wr = W1) (fun i _ => 0)
  case atStart => exact ⟨rfl, rfl⟩
  case round =>
    obtain ⟨rfl, hw⟩ := hrel
    obtain rfl := hw.symm
    go_wp2
    go_ret
    exact hC.ends rfl
set_option maxRecDepth 100000 in
set_option maxHeartbeats 4000000 in
theorem both_read {w : World} {base g lb gm g' cb cap : Nat} {LV WV : Nat → Value} {S : Dsk} (hd : DiskAt w g lb gm S) (hr : RefAt w g' cb cap LV WV S) (hge : ∀ b, dIn g lb gm b ∨ rIn g' cb b → base ≤ b) (hbase : base ≤ w.heap.size) (x : Ac) (hx : AcIn w x) (hxB : ∀ b o, x.B = some ⟨b, o, none⟩ → 0 < x.L → b < base) (hxF : ∀ b o, x.F = some ⟨b, o, none⟩ → 0 < x.m → b < base) (hdo : x.do_ = 2) (he : S.readE x.at_ x.n = 0) :
    Calls Try.prog 12 #[.pointer (some ⟨g, 0, none⟩), .pointer (some ⟨g', 0, none⟩), .agg x.vals.toArray] w fun e w' => BothEnds base g lb gm g' cb cap S.n w e w' := by
  have hC := ctx_of hd hr hge hbase x hx hxB hxF
  obtain ⟨W1, hW1⟩ : ∃ W, Hid (w.alloc (.cells x.vals.toArray 36) = W) := ⟨_, rfl⟩
  obtain ⟨z, hz⟩ : ∃ z, Hid (w.heap.size = z) := ⟨_, rfl⟩
  rw [hW1.out, hz.out] at hC
  have hcs := hC.a.cells
  have k0 := hcs.1
  have k1 := hcs.2.1
  have k2 := hcs.2.2.1
  have k3 := hcs.2.2.2.1
  have k4 := hcs.2.2.2.2.1
  have k5 := hcs.2.2.2.2.2
  have ab := hC.i.ab
  have nb := hC.i.nb
  have yb := hC.i.yb
  clear hd hr hx hcs
  go_enter Try.func12, Try.ntmps12
  rw [hdo] at k0
  clear hdo
  obtain ⟨hal, a, k, ha, hk, hak⟩ := readE_zero he
  clear he
  obtain ⟨N, hN⟩ : ∃ N, Hid (k * 64 = N) := ⟨_, rfl⟩
  obtain ⟨F, hF⟩ : ∃ F : Nat → Int, Hid ((fun i => S.read (64 * a + i)) = F) := ⟨_, rfl⟩
  have fb : Hid (∀ i, 0 ≤ F i ∧ F i < 256) := by rw [← hF.out]; exact fun i => hC.d.ok.read _
  have HD : Calls Try.prog 21 #[.pointer (some ⟨g, 0, none⟩), .int .i64 x.at_, .int .i64 x.n] W1 fun e w' => ∃ b, e = .returned (.tuple #[.slice (some ⟨b, 0, none⟩) N N, .int .i64 0]) ∧ W1.heap.size ≤ b ∧ BlockIs w' b N F ∧ Bw W1 w' := by
    rw [ha, hk, ← hN.out, ← hF.out]
    exact read_ok hC.d a k hal hak
  have HR : Hid (∀ W LV WV, RefAt W g' cb cap LV WV S → Calls Try.prog 28 #[.pointer (some ⟨g', 0, none⟩), .int .i64 x.at_, .int .i64 x.n] W fun e w' => RReadEnds W N F e w') := fun W LV WV hr => by
    rw [ha, hk, ← hN.out, ← hF.out]
    exact rread_ok hr a k hal hak
  have nlt : N < 9223372036854775808 := by have := hC.d.ok.n1; have := hN.out; omega
  obtain ⟨X, hX⟩ : ∃ X, Hid (str F N = X) := ⟨_, rfl⟩
  clear ha hk hak hal
  go_wp2_with (first
    | (rw [hW1.out, hz.out])
    | (go_at_call 21; refine HD.mono ?_; rintro e W2 ⟨b, rfl, hb, hB, hbw⟩; clear HD; have hC2 := hC.keep hbw; obtain ⟨LV2, WV2, hr2⟩ := hC2.r; have m1 := hC2.a.cells.2.1; have m2 := hC2.a.cells.2.2.1)
    | (go_at_call 28; refine (HR.out _ _ _ hr2).mono ?_; rintro e W3 ⟨A3, c3, rfl, hR3, hbw3⟩; have cx := conv_row (C := N) ((hB.keep hbw3).row fb.out); have cy := conv_row (C := c3) hR3; rw [hX.out] at cx cy))
  have hd3 : DiskAt W3 g lb gm S := (hC2.keep hbw3).d
  have hb3 : Bx (dIn g lb gm) W1 W3 := (Bx.of_bw hbw).trans (Bx.of_bw hbw3)
  have hgd : ¬ dIn g lb gm b := fun hb' => by have := hC.d.low _ hb'; omega
  have ho3 : ∃ f', Own W3 b N f' := ⟨_, (hB.keep hbw3).own⟩
  have Hnew : Hid (W1.heap.size ≤ b) := hb
  clear hC2 m1 m2 HR hB hbw hbw3 hR3 cx cy hr2 hb
  go_loopw [16] (fun i wr => ∃ q : Nat, q ≤ N ∧ i = .int .i64 (q : Int) ∧ DiskAt wr g lb gm S ∧ Bx (dIn g lb gm) W1 wr ∧ (∃ f', Own wr b N f')) (fun i _ => N - (intOf i).toNat)
  case atStart => exact ⟨0, Nat.zero_le _, rfl, hd3, hb3, ho3⟩
  case round =>
    obtain ⟨q, hq, rfl, hdq, hbq, f', hof⟩ := hrel
    have q0 : (0 : Int) ≤ (q : Int) := Int.natCast_nonneg _
    clear hd3 hb3 ho3
    by_cases hlt : q < N
    · have q1 : (q : Int) < (N : Int) := by omega
      obtain ⟨l1, l2⟩ := hof.cell hlt
      have p4 : IntKind.i64.wrap ((q : Int) + 1) = (q : Int) + 1 := by rw [IntKind.wrap_i64]; omega
      have hfin : Hid (∀ e : Int, (∃ q' : Nat, q' ≤ N ∧ Value.int .i64 ((q : Int) + 1) = .int .i64 (q' : Int) ∧ DiskAt (wr.setCell ⟨b, q, none⟩ (.int .u8 e)) g lb gm S ∧ Bx (dIn g lb gm) W1 (wr.setCell ⟨b, q, none⟩ (.int .u8 e)) ∧ (∃ f', Own (wr.setCell ⟨b, q, none⟩ (.int .u8 e)) b N f')) ∧ N - (intOf (.int .i64 ((q : Int) + 1))).toNat < N - (intOf (.int .i64 (q : Int))).toNat) := fun e => by
        have k : Bx (· = b) wr (wr.setCell ⟨b, q, none⟩ (.int .u8 e)) := (Bx.refl _ _).put rfl
        refine ⟨⟨q + 1, hlt, rfl, hdq.keepx k (fun e => hgd (.inl e.symm)) (fun e => hgd (.inr (.inl e.symm))) (fun e => hgd (.inr (.inr e.symm))), hbq.new k (fun y hy e => by have := Hnew.out; have e' : y = b := e; omega), ⟨fun c => if c = q then e else f' c, hof.set hlt (if_pos rfl) (fun c _ hc => if_neg hc)⟩⟩, by simp only [intOf]; omega⟩
      clear hdq hbq hof
      go_wp2
      exact hfin.out _
    · have q1 : ¬ (q : Int) < (N : Int) := by omega
      have hC3 := hC.turnd hdq hbq
      go_wp2
      go_ret
      exact hC3.ends rfl
theorem both_any {w : World} {base g lb gm g' cb cap : Nat} {LV WV : Nat → Value} {S : Dsk} (hd : DiskAt w g lb gm S) (hr : RefAt w g' cb cap LV WV S) (hge : ∀ b, dIn g lb gm b ∨ rIn g' cb b → base ≤ b) (hbase : base ≤ w.heap.size) (x : Ac) (hx : AcIn w x) (hxB : ∀ b o, x.B = some ⟨b, o, none⟩ → 0 < x.L → b < base) (hxF : ∀ b o, x.F = some ⟨b, o, none⟩ → 0 < x.m → b < base)  :
    Calls Try.prog 12 #[.pointer (some ⟨g, 0, none⟩), .pointer (some ⟨g', 0, none⟩), .agg x.vals.toArray] w fun e w' => BothEnds base g lb gm g' cb cap S.n w e w' := by
  by_cases h0 : x.do_ = 0
  · exact both_write hd hr hge hbase x hx hxB hxF h0
  by_cases h1 : x.do_ = 1
  · exact both_sync hd hr hge hbase x hx hxB hxF h1
  by_cases h2 : x.do_ = 2
  · by_cases he : S.readE x.at_ x.n = 0
    · exact both_read hd hr hge hbase x hx hxB hxF h2 he
    · exact both_readbad hd hr hge hbase x hx hxB hxF h2 he
  by_cases h3 : x.do_ = 3
  · exact both_fuse hd hr hge hbase x hx hxB hxF h3
  by_cases h4 : x.do_ = 4
  · exact both_kill hd hr hge hbase x hx hxB hxF h4
  by_cases h5 : x.do_ = 5
  · exact both_restart hd hr hge hbase x hx hxB hxF h5
  by_cases h6 : x.do_ = 6
  · exact both_rot hd hr hge hbase x hx hxB hxF h6
  exact both_none hd hr hge hbase x hx hxB hxF h0 h1 h2 h3 h4 h5 h6
end Go.Proofs.Ytmmpignjihbbpaa
