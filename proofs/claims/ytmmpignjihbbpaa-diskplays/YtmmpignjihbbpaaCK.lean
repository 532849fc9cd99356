/- Layer 14: a Write done to a disk and to the document's. -/
import Derived.Test.YtmmpignjihbbpaaCJ
namespace Go.Proofs.Ytmmpignjihbbpaa
open Go.RowKit Go.Deep Go.Maps
set_option linter.unusedVariables false
set_option linter.unusedSimpArgs false

/-- a copy of a row, in a block of its own -/
structure Mine (W w' : World) (A : Option Addr) (L cap gb : Nat) (f : Nat → Int) : Prop where
  row : RowAt w' A L f
  le : L ≤ cap
  blk : 0 < L → A = some ⟨gb, 0, none⟩
  new : W.heap.size ≤ gb
  own : 0 < L → Own w' gb L f
  bw : Bw W w'
theorem wpList_mine {W : World} {ops : Array Oper} {rest : List Oper} {o : Oper} {a : Act} {Q : Exit → Act → World → Prop} (hgd : o.guard = none) (s x : Operand)
    (ho : o.op = .call { callee := .builtin .append, args := #[s, x], argTypes := #[33, 33] }) (A : Option Addr) (L C : Nat) (f : Nat → Int)
    (hs : a.eval s = .slice (some ⟨W.heap.size, 0, none⟩) 0 0) (hx : a.eval x = .slice A L C) (hr : InRow W A L C f)
    (hh : ∀ A2 cap2 gb w', Mine W w' A2 L cap2 gb f → wpList Try.prog ops Q rest (a.put o.dst (.slice A2 L cap2)) w') : wpList Try.prog ops Q (o :: rest) a (W.alloc (.cells #[] 5)) := by
  obtain ⟨i0, hi0, hz0, hz1, hz2⟩ := info_parts info_u8
  have hle := hr.le
  have hroom := hr.room
  refine wpList_append_rowat (W.alloc (.cells #[] 5)) hgd s x _ ho W.heap.size 5 i0 _ 1 Try.underlying33 hi0 hz0 hz1 hz2 rfl _ 0 [] hs (own_empty W W.heap.size 5 (Nat.le_refl _)) A L C f hx (hr.row.keep (Below.alloc (Bw.refl _) (Nat.le_refl _) _)) hr.nil (by unfold maxLen; omega) (by omega) (by rw [size_alloc]; omega) (fun v' w' h1 h2 => ?_)
  rw [Nat.zero_add, List.nil_append] at h1
  obtain ⟨A2, cap2, rfl, h3, h4, h5, h6⟩ := row_of_own hr.row.2 h1
  by_cases h0 : 0 < L
  · obtain ⟨gb, cap3, e, hb, -, -, hown⟩ := Own.of h1 h0
    cases e
    exact hh _ _ gb _ ⟨h5, h3, fun _ => rfl, hb, fun _ => hown, bw_fresh h2⟩
  · exact hh _ _ W.heap.size _ ⟨h5, h3, fun e => absurd e h0, Nat.le_refl _, fun e => absurd e h0, bw_fresh h2⟩
set_option maxRecDepth 100000 in
set_option maxHeartbeats 4000000 in
theorem both_write {w : World} {base g lb gm g' cb cap : Nat} {LV WV : Nat → Value} {S : Dsk} (hd : DiskAt w g lb gm S) (hr : RefAt w g' cb cap LV WV S) (hge : ∀ b, dIn g lb gm b ∨ rIn g' cb b → base ≤ b) (hbase : base ≤ w.heap.size) (x : Ac) (hx : AcIn w x) (hxB : ∀ b o, x.B = some ⟨b, o, none⟩ → 0 < x.L → b < base) (hxF : ∀ b o, x.F = some ⟨b, o, none⟩ → 0 < x.m → b < base) (hdo : x.do_ = 0) :
    Calls Try.prog 12 #[.pointer (some ⟨g, 0, none⟩), .pointer (some ⟨g', 0, none⟩), .agg x.vals.toArray] w fun e w' => BothEnds base g lb gm g' cb cap S.n w e w' := by
  have hC := ctx_of hd hr hge hbase x hx hxB hxF
  obtain ⟨W1, hW1⟩ : ∃ W, Hid (w.alloc (.cells x.vals.toArray 36) = W) := ⟨_, rfl⟩
  obtain ⟨z, hz⟩ : ∃ z, Hid (w.heap.size = z) := ⟨_, rfl⟩
  rw [hW1.out, hz.out] at hC
  have hcs := hC.a.cells
  have k0 := hcs.1
  have k1 := hcs.2.1
  have k2 := hcs.2.2.1
  have k3 := hcs.2.2.2.1
  have k4 := hcs.2.2.2.2.1
  have k5 := hcs.2.2.2.2.2
  have ab := hC.i.ab
  have nb := hC.i.nb
  have yb := hC.i.yb
  clear hd hr hx hcs
  go_enter Try.func12, Try.ntmps12
  rw [hdo] at k0
  clear hdo
  have lb' : x.L < 9223372036854775808 := by have := hC.i.row.le; have := hC.i.row.room; omega
  obtain ⟨P, hP⟩ : ∃ P, Hid (S.wrote x.at_ x.L x.f = P) := ⟨_, rfl⟩
  obtain ⟨E, S'⟩ := P
  have HD : Hid (∀ W A c, Ctx w W base g lb gm g' cb cap z x S S → RowAt W A x.L x.f → (∀ b o, A = some ⟨b, o, none⟩ → 0 < x.L → ¬ dIn g lb gm b) → x.L ≤ c → Calls Try.prog 22 #[.pointer (some ⟨g, 0, none⟩), .int .i64 x.at_, .slice A x.L c] W fun e w' => e = .returned (.int .i64 E) ∧ DiskAt w' g lb gm S' ∧ Bx (dIn g lb gm) W w') := fun W A c hCW h1 h2 h3 => by
    have := write_any hCW.d x.at_ (by omega) A x.L c x.f lb' h1 h2 h3
    rw [hP.out] at this
    exact this
  have HR : Hid (∀ W LV WV, Ctx w W base g lb gm g' cb cap z x S' S → RefAt W g' cb cap LV WV S → Calls Try.prog 26 #[.pointer (some ⟨g', 0, none⟩), .int .i64 x.at_, .slice x.B x.L x.C] W fun e w' => e = .returned (.int .i64 E) ∧ (∃ LV WV, RefAt w' g' cb cap LV WV S') ∧ Bx (rIn g' cb) W w') := fun W LV WV hCW hr => by
    have := rwrite_any hr x.at_ (by omega) x.B x.L x.C x.f lb' hCW.i.row.row (fun b o e h0 hb => by have := hCW.xB b o e h0; have := hCW.ge b (.inr hb); omega) hCW.i.row.le
    rw [hP.out] at this
    exact this.mono (fun e w' h => ⟨h.1, ⟨LV, h.2.1⟩, h.2.2⟩)
  have eE : (E == E) = true := beq_self_eq_true E
  have hn : Hid (S'.n = S.n) := by
    have := n_wrote S x.at_ x.L x.f
    rw [hP.out] at this
    exact this
  have ha : Bw W1 (W1.alloc (.cells #[] 5)) := Below.alloc (Bw.refl _) (Nat.le_refl _) _
  have k3' := (hC.keep ha).a.cells.2.2.2.1
  clear k1 k2 k3 k4 k5
  go_wp2_with (first
    | (rw [hW1.out, hz.out])
    | (refine wpList_mine (W := W1) (by rfl) _ _ (by rfl) x.B x.L x.C x.f (by rfl) (by rfl) hC.i.row ?_; intro A2 cap2 gb W2 hM; have hC2 := hC.keep hM.bw; have m1 := hC2.a.cells.2.1)
    | (go_at_call 22; refine (HD.out _ _ _ hC2 hM.row (fun b o e h0 hb => by have h1 := hM.blk h0; rw [h1] at e; injection e with e; injection e with e _ _; subst e; have := hC.d.low _ hb; have := hM.new; omega) hM.le).mono ?_; rintro e W3 ⟨rfl, hd3, hx3⟩; have hC3 := hC2.turnd hd3 hx3))
  have hb3 : Bx (dIn g lb gm) W1 W3 := (Bx.of_bw hM.bw).trans hx3
  have hgd : ¬ dIn g lb gm gb := fun hb => by have := hC.d.low _ hb; have := hM.new; omega
  have ho3 : 0 < x.L → ∃ f', Own W3 gb x.L f' := fun h0 => ⟨_, (hM.own h0).keepx hx3 hgd⟩
  have Hnew : Hid (W1.heap.size ≤ gb) := hM.new
  have Hblk : Hid (0 < x.L → A2 = some ⟨gb, 0, none⟩) := hM.blk
  have Hle : Hid (x.L ≤ cap2) := hM.le
  clear hM hC2 m1 hC3 hx3 HD
  go_loopw [9] (fun i wr => ∃ q : Nat, q ≤ x.L ∧ i = .int .i64 (q : Int) ∧ DiskAt wr g lb gm S' ∧ Bx (dIn g lb gm) W1 wr ∧ (0 < x.L → ∃ f', Own wr gb x.L f')) (fun i _ => x.L - (intOf i).toNat)
  case atStart => exact ⟨0, Nat.zero_le _, rfl, hd3, hb3, ho3⟩
  case round =>
    obtain ⟨q, hq, rfl, hdq, hbq, hoq⟩ := hrel
    have q0 : (0 : Int) ≤ (q : Int) := Int.natCast_nonneg _
    clear hd3 hb3 ho3
    by_cases hlt : q < x.L
    · have q1 : (q : Int) < (x.L : Int) := by omega
      obtain rfl := Hblk.out (by omega)
      obtain ⟨f', hof⟩ := hoq (by omega)
      obtain ⟨l1, l2⟩ := hof.cell hlt
      have p4 : IntKind.i64.wrap ((q : Int) + 1) = (q : Int) + 1 := by rw [IntKind.wrap_i64]; omega
      have hfin : Hid (∀ e : Int, (∃ q' : Nat, q' ≤ x.L ∧ Value.int .i64 ((q : Int) + 1) = .int .i64 (q' : Int) ∧ DiskAt (wr.setCell ⟨gb, q, none⟩ (.int .u8 e)) g lb gm S' ∧ Bx (dIn g lb gm) W1 (wr.setCell ⟨gb, q, none⟩ (.int .u8 e)) ∧ (0 < x.L → ∃ f', Own (wr.setCell ⟨gb, q, none⟩ (.int .u8 e)) gb x.L f')) ∧ x.L - (intOf (.int .i64 ((q : Int) + 1))).toNat < x.L - (intOf (.int .i64 (q : Int))).toNat) := fun e => by
        have k : Bx (· = gb) wr (wr.setCell ⟨gb, q, none⟩ (.int .u8 e)) := (Bx.refl _ _).put rfl
        refine ⟨⟨q + 1, hlt, rfl, hdq.keepx k (fun e => hgd (.inl e.symm)) (fun e => hgd (.inr (.inl e.symm))) (fun e => hgd (.inr (.inr e.symm))), hbq.new k (fun y hy e => by have := Hnew.out; have e' : y = gb := e; omega), fun _ => ⟨fun c => if c = q then e else f' c, hof.set hlt (if_pos rfl) (fun c _ hc => if_neg hc)⟩⟩, by simp only [intOf]; omega⟩
      clear hdq hbq hoq hof
      go_wp2
      exact hfin.out _
    · have q1 : ¬ (q : Int) < (x.L : Int) := by omega
      have hC3 := hC.turnd hdq hbq
      obtain ⟨LV2, WV2, hr2⟩ := hC3.r
      have n1 := hC3.a.cells.2.1
      have n3 := hC3.a.cells.2.2.2.1
      go_wp2_with (go_at_call 26; refine (HR.out _ _ _ hC3 hr2).mono ?_; rintro e W4 ⟨rfl, ⟨LV4, WV4, hr4⟩, hx4⟩; have hC4 := hC3.turnr ⟨_, _, hr4⟩ hx4)
      go_ret
      exact hC4.ends hn.out
end Go.Proofs.Ytmmpignjihbbpaa
