/- Layer 19: an act done by both airs (written by mkuc2.py out of uc2.base). -/
import Derived.Test.YtjjnbpbbjaabeaaUb2
import Derived.Test.YtjjnbpbbjaabeaaFe
namespace Go.Proofs.Ytjjnbpbbjaabeaa
open Go.RowKit Go.Deep
set_option linter.unusedVariables false
set_option linter.unusedSimpArgs false

section
variable {P0 R0 M : Nat → Prop} {W0 W : World} {ga gb : Nat} {Sa Sb : Ai.St}
theorem f_lose (h : TwoF P0 R0 M W0 W ga Sa gb Sb) (i : Int) : Calls Try.prog 18 #[.pointer (some ⟨ga, 0, none⟩), .int .i64 i] W fun e w' => e = .returned (.bool (Sa.has i)) ∧ Hid (TwoF P0 R0 M W0 w' ga (Sa.lose i) gb Sb) :=
  h.a (φ := fun e _ => e = .returned (.bool (Sa.has i))) (fun P hA => (lose_at hA i).mono (fun e w' q => ⟨q.1, AirAt.gr hA.low q.2.1 q.2.2, q.2.2⟩))
theorem f_hold (h : TwoF P0 R0 M W0 W ga Sa gb Sb) (i : Int) : Calls Try.prog 20 #[.pointer (some ⟨ga, 0, none⟩), .int .i64 i] W fun e w' => e = .returned (.bool (Sa.has i)) ∧ Hid (TwoF P0 R0 M W0 w' ga (Sa.hold i) gb Sb) :=
  h.a (φ := fun e _ => e = .returned (.bool (Sa.has i))) (fun P hA => (hold_at hA i).mono (fun e w' q => ⟨q.1, AirAt.gr hA.low q.2.1 q.2.2, q.2.2⟩))
theorem f_twice (h : TwoF P0 R0 M W0 W ga Sa gb Sb) (i : Int) : Calls Try.prog 19 #[.pointer (some ⟨ga, 0, none⟩), .int .i64 i] W fun e w' => e = .returned (.bool (Sa.dbl i)) ∧ Hid (TwoF P0 R0 M W0 w' ga (Sa.twice i) gb Sb) :=
  h.a (φ := fun e _ => e = .returned (.bool (Sa.dbl i))) (fun P hA => twice_at hA i)
theorem f_cut (h : TwoF P0 R0 M W0 W ga Sa gb Sb) {p q : Int} (hp : In64 p) (hq : In64 q) (off : Bool) (hm : Sa.m ≤ 1000000) : Calls Try.prog 21 #[.pointer (some ⟨ga, 0, none⟩), .int .i64 p, .int .i64 q, .bool off] W fun e w' => e = .returned (.int .i64 (Sa.cutE p q)) ∧ Hid (TwoF P0 R0 M W0 w' ga (Sa.cutW p q off) gb Sb) :=
  h.a (φ := fun e _ => e = .returned (.int .i64 (Sa.cutE p q))) (fun P hA => (cut_at hA hp hq off hm).mono (fun e w' q => ⟨q.1, AirAt.gr hA.low q.2.1 q.2.2, q.2.2⟩))
theorem f_send (h : TwoF P0 R0 M W0 W ga Sa gb Sb) {d : Ai.Dg} {u : Value} (hs : In64 d.src) (ht : In64 d.dst) (hu : RowV W u d.b) : Calls Try.prog 15 #[.pointer (some ⟨ga, 0, none⟩), .agg #[.int .i64 d.src, .int .i64 d.dst, u]] W fun e w' => e = .returned (.int .i64 (Sa.sendE d)) ∧ Hid (TwoF P0 R0 M W0 w' ga (Sa.send d) gb Sb) :=
  h.a (φ := fun e _ => e = .returned (.int .i64 (Sa.sendE d))) (fun P hA => send_at hA hs ht hu)
theorem f_carry (h : TwoF P0 R0 M W0 W ga Sa gb Sb) (i : Int) : Calls Try.prog 14 #[.pointer (some ⟨ga, 0, none⟩), .int .i64 i] W fun e w' => Gave W w' (Sa.giv i) (Sa.has i) e ∧ Hid (TwoF P0 R0 M W0 w' ga (Sa.lose i) gb Sb) :=
  h.a (φ := fun e w' => Gave W w' (Sa.giv i) (Sa.has i) e) (fun P hA => (carry_at hA i).mono (fun e w' q => ⟨q.1, AirAt.gr hA.low q.2.1 q.2.2, q.2.2⟩))
theorem f_at (h : TwoF P0 R0 M W0 W ga Sa gb Sb) (i : Int) : Calls Try.prog 13 #[.pointer (some ⟨ga, 0, none⟩), .int .i64 i] W fun e w' => Gave W w' (Sa.giv i) (Sa.has i) e ∧ Hid (TwoF P0 R0 M W0 w' ga Sa gb Sb ∧ Bw W w') := by
  obtain ⟨P, R, h1, _⟩ := id h
  refine (at_at h1 i).mono ?_
  rintro e w' ⟨q1, q2⟩
  exact ⟨q1, (⟨h.keep q2, q2⟩ : _ ∧ _)⟩
theorem r_lose (h : TwoF P0 R0 M W0 W ga Sa gb Sb) (i : Int) : Calls Try.prog 26 #[.pointer (some ⟨gb, 0, none⟩), .int .i64 i] W fun e w' => e = .returned (.bool (Sb.has i)) ∧ Hid (TwoF P0 R0 M W0 w' ga Sa gb (Sb.lose i)) :=
  h.r (φ := fun e _ => e = .returned (.bool (Sb.has i))) (fun R hR => rlose_at hR i)
theorem r_hold (h : TwoF P0 R0 M W0 W ga Sa gb Sb) (i : Int) : Calls Try.prog 28 #[.pointer (some ⟨gb, 0, none⟩), .int .i64 i] W fun e w' => e = .returned (.bool (Sb.has i)) ∧ Hid (TwoF P0 R0 M W0 w' ga Sa gb (Sb.hold i)) :=
  h.r (φ := fun e _ => e = .returned (.bool (Sb.has i))) (fun R hR => rhold_at hR i)
theorem r_twice (h : TwoF P0 R0 M W0 W ga Sa gb Sb) (i : Int) : Calls Try.prog 27 #[.pointer (some ⟨gb, 0, none⟩), .int .i64 i] W fun e w' => e = .returned (.bool (Sb.dbl i)) ∧ Hid (TwoF P0 R0 M W0 w' ga Sa gb (Sb.twice i)) :=
  h.r (φ := fun e _ => e = .returned (.bool (Sb.dbl i))) (fun R hR => rtwice_at hR i)
theorem r_cut (h : TwoF P0 R0 M W0 W ga Sa gb Sb) (p q : Int) (off : Bool) (hm : Sb.m ≤ 100000) : Calls Try.prog 29 #[.pointer (some ⟨gb, 0, none⟩), .int .i64 p, .int .i64 q, .bool off] W fun e w' => e = .returned (.int .i64 (Sb.cutE p q)) ∧ Hid (TwoF P0 R0 M W0 w' ga Sa gb (Sb.cutW p q off)) :=
  h.r (φ := fun e _ => e = .returned (.int .i64 (Sb.cutE p q))) (fun R hR => rcut_at hR p q off hm)
theorem r_send (h : TwoF P0 R0 M W0 W ga Sa gb Sb) (hm : Sb.m ≤ 1000000) {d : Ai.Dg} {u : Value} (hu : RowV W u d.b) : Calls Try.prog 24 #[.pointer (some ⟨gb, 0, none⟩), .agg #[.int .i64 d.src, .int .i64 d.dst, u]] W fun e w' => e = .returned (.int .i64 (Sb.sendE d)) ∧ Hid (TwoF P0 R0 M W0 w' ga Sa gb (Sb.send d)) :=
  h.r (φ := fun e _ => e = .returned (.int .i64 (Sb.sendE d))) (fun R hR => rsend_at hR hm hu)
theorem TwoF.base {W9 : World} (h : TwoF P0 R0 M W0 W ga Sa gb Sb) (k : Bw W9 W0) (hM : ∀ b, M b → W9.heap.size ≤ b) : TwoF P0 R0 (fun _ => False) W9 W ga Sa gb Sb := by
  obtain ⟨P, R, h1, h2, h3, h4, h5, h6⟩ := h
  refine ⟨P, R, h1, h2, h3, fun b hb => (h4 b hb).imp id (Nat.le_trans k.size), fun b hb => (h5 b hb).imp id (Nat.le_trans k.size), ⟨k.os ▸ h6.os, k.tape ▸ h6.tape, k.output ▸ h6.output, Nat.le_trans k.size h6.size, fun b hb hn => ?_⟩⟩
  rw [h6.block b (Nat.lt_of_lt_of_le hb k.size) (fun e => hn (e.imp id (fun e => e.imp id (fun e => by have := hM b e; omega))))]
  exact k.block b hb
end
theorem lose_m (S : Ai.St) (i : Int) : (S.lose i).m = S.m := by unfold Ai.St.lose; split <;> rfl
theorem hold_m (S : Ai.St) (i : Int) : (S.hold i).m = S.m := by unfold Ai.St.hold; split <;> rfl
theorem twice_m (S : Ai.St) (i : Int) : (S.twice i).m = S.m := by unfold Ai.St.twice; split <;> rfl
theorem send_m (S : Ai.St) (d : Ai.Dg) : (S.send d).m = S.m := by unfold Ai.St.send; split <;> rfl
theorem cut_m (S : Ai.St) (p q : Int) (b : Bool) : (S.cutW p q b).m ≤ S.m + 1 := by unfold Ai.St.cutW; split <;> (first | exact Nat.le_refl _ | exact Nat.le_succ _)
/-- Carry of both, each answer boxed -/
theorem carry_both {W0 : World} {P0 R0 : Nat → Prop} {ga gb : Nat} {S : Ai.St} (hA : AirAt W0 P0 ga S) (hB : RefAt W0 R0 gb S) (hd : ∀ b, P0 b → ¬ R0 b) (i : Int) :
    Calls Try.prog 14 #[.pointer (some ⟨ga, 0, none⟩), .int .i64 i] W0 fun e w' => ∃ v z W2 X, e = .returned (.tuple #[.agg #[.int .i64 (S.giv i).src, .int .i64 (S.giv i).dst, v], .bool (S.has i)]) ∧ Hid (Kept w' (S.giv i) v z W2 X) ∧ Hid (Bx (fun b => P0 b ∨ R0 b ∨ False) W0 X) ∧ Hid (Calls Try.prog 25 #[.pointer (some ⟨gb, 0, none⟩), .int .i64 i] X fun e2 w2 => ∃ v2 z2 W3 X2, e2 = .returned (.tuple #[.agg #[.int .i64 (S.giv i).src, .int .i64 (S.giv i).dst, v2], .bool (S.has i)]) ∧ Hid (Kept w2 (S.giv i) v2 z2 W3 X2) ∧ Hid (TwoF P0 R0 (fun _ => False) W0 X2 ga (S.lose i) gb (S.lose i)) ∧ Hid (DgAt X2 z (S.giv i).src (S.giv i).dst v ∧ RowV X2 v (S.giv i).b ∧ DgAt X2 z2 (S.giv i).src (S.giv i).dst v2 ∧ RowV X2 v2 (S.giv i).b)) := by
  refine (carry_at hA i).mono ?_
  rintro e w' ⟨⟨v, rfl, hr, hv⟩, hA1, hx⟩
  obtain ⟨z, W2, X, q1, q2, q3, q4, q5, q6, q7⟩ := dg_box w' (S.giv i).src (S.giv i).dst (dg_oneCell hr)
  have hB1 : RefAt X R0 gb S := (hB.keepx hx (fun b hb hp => hd b hp hb)).keep q7.out
  have hA2 := hA1.keep q7.out
  have hX := hx.trans (Bx.of_bw q7.out)
  have hzX : z < X.heap.size := (Array.getElem?_eq_some_iff.1 q6.out).1
  have hzR : ¬ R0 z := fun h => by have h1 := hB.low z h; have h2 := q1.out; have h3 := hx.size; omega
  have hvR : VIn (fun b => ¬ R0 b) v := hv.mono (fun b hb h => by have h1 := hB.low b h; omega)
  have hrX := hr.keep q7.out
  refine ⟨v, z, W2, X, rfl, ⟨q1, q2, q3, q4, q5⟩, hX.more (fun b hb => .inl hb), ?_⟩
  obtain ⟨x2, y2, v2, ho, e1, e2, hc⟩ := rcarry_at hB1 i
  rw [e1, e2] at hc
  refine (?_ : Calls _ _ _ _ _)
  refine hc.mono ?_
  rintro e w2 ⟨rfl, hr2, hB2, hx2⟩
  obtain ⟨z2, W3, X2, p1, p2, p3, p4, p5, p6, p7⟩ := dg_box w2 (S.giv i).src (S.giv i).dst ho
  refine ⟨v2, z2, W3, X2, rfl, ⟨p1, p2, p3, p4, p5⟩, ?_, ?_⟩
  · refine ⟨P0, Gr R0 X w2, (hA2.keepx hx2 hd).keep p7.out, hB2.keep p7.out, fun b hb hr => ?_, fun b hb => .inl hb, fun b hb => ?_, ?_⟩
    · rcases hr with hr | hr
      · exact hd b hb hr
      · have := hA2.low b hb; omega
    · rcases hb with hb | hb
      · exact .inl hb
      · exact .inr (Nat.le_trans hX.size hb.1)
    · exact ((hX.more (fun b hb => .inl hb)).trans (hx2.more (fun b hb => .inr (.inl hb)))).trans (Bx.of_bw p7.out)
  · exact ⟨(p7.out.block z (Nat.lt_of_lt_of_le hzX hx2.size)).trans ((hx2.block z hzX hzR).trans q6.out), (hrX.keepx hx2 hvR).keep p7.out, p6.out, hr2.keep p7.out⟩
/-- a copy of a row, in a block of its own -/
structure Mine19 (W w' : World) (v : Value) (l : List Nat) (A : Option Addr) (cap g2 : Nat) : Prop where
  eq : v = .slice A l.length cap
  row : RowV w' v l
  blk : 0 < l.length → A = some ⟨g2, 0, none⟩
  new : W.heap.size ≤ g2
  own : 0 < l.length → Own w' g2 l.length (rowL l)
  bw : Bw W w'
theorem wpList_mine19 {W : World} {ops : Array Oper} {rest : List Oper} {o : Oper} {a : Act} {Q : Exit → Act → World → Prop} (hgd : o.guard = none) (s x : Operand)
    (ho : o.op = .call { callee := .builtin .append, args := #[s, x], argTypes := #[33, 33] }) {u : Value} {l : List Nat}
    (hs : a.eval s = .slice (some ⟨W.heap.size, 0, none⟩) 0 0) (hx : a.eval x = u) (hr : RowV W u l)
    (hh : ∀ A2 cap2 g2 w', Mine19 W w' (.slice A2 l.length cap2) l A2 cap2 g2 → wpList Try.prog ops Q rest (a.put o.dst (.slice A2 l.length cap2)) w') : wpList Try.prog ops Q (o :: rest) a (W.alloc (.cells #[] 5)) := by
  obtain ⟨i0, hi0, hz0, hz1, hz2⟩ := info_parts info_u8
  obtain ⟨A, C, rfl, hle, hnil, ⟨hL, hL2⟩, hrow⟩ := hr
  refine wpList_append_rowat (W.alloc (.cells #[] 5)) hgd s x _ ho W.heap.size 5 i0 _ 1 Try.underlying33 hi0 hz0 hz1 hz2 rfl _ 0 [] hs (own_empty W W.heap.size 5 (Nat.le_refl _)) A l.length C (rowL l) hx (hrow.keep (Below.alloc (Bw.refl _) (Nat.le_refl _) _)) hnil (by unfold maxLen; omega) (by omega) (by rw [size_alloc]; omega) (fun v' w' h1 h2 => ?_)
  rw [Nat.zero_add, List.nil_append] at h1
  obtain ⟨A2, cap2, rfl, h3, h4, h5, h6⟩ := row_of_own hrow.2 h1
  have hn1 : A2 = none → cap2 = 0 := fun e => by
    rcases h1.2 with ⟨e2, _⟩ | ⟨g, cap, cur, e2, _⟩
    · injection e2
    · injection e2 with e2 _ _; rw [e] at e2; cases e2
  have hR : RowV w' (.slice A2 l.length cap2) l := ⟨A2, cap2, rfl, h3, hn1, ⟨hL, by unfold maxLen at h4; omega⟩, h5⟩
  by_cases h0 : 0 < l.length
  · obtain ⟨g2, cap3, e, hb, -, -, hown⟩ := Own.of h1 h0
    cases e
    exact hh _ _ g2 _ ⟨rfl, hR, fun _ => rfl, hb, fun _ => hown, bw_fresh h2⟩
  · exact hh _ _ W.heap.size _ ⟨rfl, hR, fun e => absurd e h0, Nat.le_refl _, fun e => absurd e h0, bw_fresh h2⟩
theorem TwoF.moreM {P0 R0 M M' : Nat → Prop} {W0 W : World} {ga gb : Nat} {Sa Sb : Ai.St} (h : TwoF P0 R0 M W0 W ga Sa gb Sb) (k : ∀ b, M b → M' b) : TwoF P0 R0 M' W0 W ga Sa gb Sb := by
  obtain ⟨P, R, h1, h2, h3, h4, h5, h6⟩ := h
  exact ⟨P, R, h1, h2, h3, h4, h5, h6.more (fun b hb => hb.imp id (fun q => q.imp id (k b)))⟩
/-- the bytes that are written over -/
def MineM (g2 : Nat) (dl : List Nat) (b : Nat) : Prop := b = g2 ∧ 0 < dl.length
structure MineX (P0 R0 : Nat → Prop) (W1 W6 : World) (ga gb : Nat) (S : Ai.St) (z zm g2 : Nat) (nn src dst : Int) (u : Value) (A2 : Option Addr) (cap2 : Nat) (dl : List Nat) : Prop where
  top : W6.heap[zm]? = some (.cells #[.int .i64 src, .int .i64 dst, .slice A2 dl.length cap2] 35 (0, 0))
  two : TwoF P0 R0 (fun _ => False) W6 W6 ga S gb S
  row : RowV W6 (.slice A2 dl.length cap2) dl
  own : 0 < dl.length → Own W6 g2 dl.length (rowL dl)
  blk : 0 < dl.length → A2 = some ⟨g2, 0, none⟩
  see : ∀ W, Bx (fun b => P0 b ∨ R0 b ∨ MineM g2 dl b) W6 W → W.cell? ⟨zm, 2, none⟩ = some (.slice A2 dl.length cap2) ∧ W.cell? ⟨z, 2, none⟩ = some (.int .i64 src) ∧ W.cell? ⟨z, 3, none⟩ = some (.int .i64 dst) ∧ W.cell? ⟨z, 4, none⟩ = some u ∧ RowV W u dl
  back : ∀ W Sa Sb, TwoF P0 R0 (MineM g2 dl) W6 W ga Sa gb Sb → TwoF P0 R0 (fun _ => False) W1 W ga Sa gb Sb
  low : ∀ b, MineM g2 dl b → b < W6.heap.size ∧ ¬ P0 b ∧ ¬ R0 b
  len : dl.length ≤ 140737488355328
  ne : g2 ≠ zm
theorem mine_ctx {P0 R0 : Nat → Prop} {W1 X1 W5 : World} {ga gb z zm g2 : Nat} {S : Ai.St} {nn src dst : Int} {u : Value} {A2 : Option Addr} {cap2 : Nat} {dl : List Nat}
    (hAB : AirAt W1 P0 ga S ∧ RefAt W1 R0 gb S ∧ (∀ b, P0 b → ¬ R0 b) ∧ RowV W1 u dl ∧ VIn (fun b => ¬ P0 b ∧ ¬ R0 b) u ∧ W1.heap[z]? = some (.cells #[.int .i64 0, .int .i64 nn, .int .i64 src, .int .i64 dst, u] 37 (0, 0))) (hzP : ¬ P0 z) (hzR : ¬ R0 z)
    (q1 : W1.heap.size = zm) (q7 : Bw W1 X1) (hzm : DgAt X1 zm src dst u) (hM : Mine19 X1 W5 (.slice A2 dl.length cap2) dl A2 cap2 g2) :
    ∃ W6, Hid (W5.setCell ⟨zm, 2, none⟩ (.slice A2 dl.length cap2) = W6) ∧ Hid (MineX P0 R0 W1 W6 ga gb S z zm g2 nn src dst u A2 cap2 dl) := by
  obtain ⟨hA, hB, hd, hr, hv, hz⟩ := hAB
  have hzl : z < W1.heap.size := (Array.getElem?_eq_some_iff.1 hz).1
  have hml : zm < X1.heap.size := (Array.getElem?_eq_some_iff.1 hzm).1
  have hn := hM.new
  have hle := q7.size
  have k5 : Bw W1 W5 := q7.trans hM.bw
  have k6 : Bw W1 (W5.setCell ⟨zm, 2, none⟩ (.slice A2 dl.length cap2)) := Bw.put k5 (Nat.le_of_eq q1) _ _
  have kx : Bx (· = zm) W5 (W5.setCell ⟨zm, 2, none⟩ (.slice A2 dl.length cap2)) := (Bx.refl _ _).put rfl
  have hP0 : ∀ b, P0 b → b < W1.heap.size := hA.low
  have hR0 : ∀ b, R0 b → b < W1.heap.size := hB.low
  have htop : (W5.setCell ⟨zm, 2, none⟩ (.slice A2 dl.length cap2)).heap[zm]? = some (.cells #[.int .i64 src, .int .i64 dst, .slice A2 dl.length cap2] 35 (0, 0)) := heap_setCell_same W5 zm 2 _ _ _ ((hM.bw.block zm hml).trans hzm)
  have hown : 0 < dl.length → Own (W5.setCell ⟨zm, 2, none⟩ (.slice A2 dl.length cap2)) g2 dl.length (rowL dl) := fun h0 => by
    obtain ⟨cur, h1, h2⟩ := hM.own h0
    exact ⟨cur, (kx.block g2 (Array.getElem?_eq_some_iff.1 h1).1 (fun e => by have e' : g2 = zm := e; omega)).trans h1, h2⟩
  refine ⟨_, rfl, htop, TwoF.start (hA.keep k6) (hB.keep k6) hd, hM.row.keepx kx (fun b o n c e h0 e' => ?_), hown, hM.blk, fun W k => ?_, fun W Sa Sb h => h.base k6 (fun b hb => by have := hb.1; omega), fun b hb => ?_, ?_, by omega⟩
  · cases e
    have h1 := hM.blk h0
    injection h1 with h1
    injection h1 with h1 _ _
    have e2 : b = zm := e'
    omega
  · have hg6 := (k6.block z hzl).trans hz
    have hg : W.heap[z]? = _ := (k.block z (Nat.lt_of_lt_of_le hzl k6.size) (fun e => by
      rcases e with e | e | e
      · exact hzP e
      · exact hzR e
      · have := e.1; omega)).trans hg6
    have hg2 : W.heap[zm]? = _ := (k.block zm (Array.getElem?_eq_some_iff.1 htop).1 (fun e => by
      rcases e with e | e | e
      · have := hP0 _ e; omega
      · have := hR0 _ e; omega
      · have := e.1; omega)).trans htop
    refine ⟨cell_of_row W zm 2 _ _ _ hg2, cell_of_row W z 2 _ _ _ hg, cell_of_row W z 3 _ _ _ hg, cell_of_row W z 4 _ _ _ hg, (hr.keep k6).keepx k (fun b o n c e h0 e' => ?_)⟩
    have h1 := hv b o n c e h0
    have h2 := hr.low b o n c e h0
    rcases e' with e' | e' | e'
    · exact h1.1 e'
    · exact h1.2 e'
    · have := e'.1; omega
  · obtain ⟨rfl, h0⟩ := hb
    exact ⟨(hown h0).lt, fun e => by have := hP0 _ e; omega, fun e => by have := hR0 _ e; omega⟩
  · obtain ⟨_, _, _, _, _, h, _⟩ := hr
    exact h.1
/-- how an act ends -/
def BothEnds (P0 R0 : Nat → Prop) (W0 w' : World) (ga gb : Nat) (S : Ai.St) : Prop := ∃ S', TwoF P0 R0 (fun _ => False) W0 w' ga S' gb S' ∧ S'.m ≤ S.m + 1
set_option maxRecDepth 100000 in
set_option maxHeartbeats 16000000 in
theorem both19_any {W0 : World} {P0 R0 : Nat → Prop} {ga gb : Nat} {S : Ai.St} (hA : AirAt W0 P0 ga S) (hB : RefAt W0 R0 gb S) (hd : ∀ b, P0 b → ¬ R0 b) {dd nn src dst : Int} {u : Value} {dl : List Nat} (hrow : RowV W0 u dl) (hvf : VIn (fun b => ¬ P0 b ∧ ¬ R0 b) u) (hs0 : In64 src) (ht0 : In64 dst) (hm0 : S.m ≤ 90000) :
    Calls Try.prog 11 #[.pointer (some ⟨ga, 0, none⟩), .pointer (some ⟨gb, 0, none⟩), .agg #[.int .i64 dd, .int .i64 nn, .int .i64 src, .int .i64 dst, u]] W0 fun e w' => e = .returned (.bool true) ∧ BothEnds P0 R0 W0 w' ga gb S := by
  obtain ⟨z, hz⟩ : ∃ z, Hid (W0.heap.size = z) := ⟨_, rfl⟩
  obtain ⟨W1, hW1⟩ : ∃ W, Hid (W0.alloc (.cells #[.int .i64 dd, .int .i64 nn, .int .i64 src, .int .i64 dst, u] 37) = W) := ⟨_, rfl⟩
  have kW : Bw W0 W1 := by rw [← hW1.out]; exact bw_allocx (Bw.refl _)
  have hg0 : W1.heap[z]? = some (.cells #[.int .i64 dd, .int .i64 nn, .int .i64 src, .int .i64 dst, u] 37 (0, 0)) := by rw [← hW1.out, ← hz.out]; exact heap_alloc_new _ _
  have hzl := (Array.getElem?_eq_some_iff.1 hg0).1
  have hzP : ¬ P0 z := fun e => by have := hA.low z e; have := hz.out; omega
  have hzR : ¬ R0 z := fun e => by have := hB.low z e; have := hz.out; omega
  have HZ : Hid (∀ W, Bx (fun b => P0 b ∨ R0 b ∨ False) W1 W → W.cell? ⟨z, 0, none⟩ = some (.int .i64 dd) ∧ W.cell? ⟨z, 1, none⟩ = some (.int .i64 nn) ∧ W.cell? ⟨z, 2, none⟩ = some (.int .i64 src) ∧ W.cell? ⟨z, 3, none⟩ = some (.int .i64 dst) ∧ W.cell? ⟨z, 4, none⟩ = some u) := fun W kk => by
    have hg := (kk.block z hzl (fun e => e.elim hzP (fun e => e.elim hzR id))).trans hg0
    exact ⟨cell_of_row W z 0 _ _ _ hg, cell_of_row W z 1 _ _ _ hg, cell_of_row W z 2 _ _ _ hg, cell_of_row W z 3 _ _ _ hg, cell_of_row W z 4 _ _ _ hg⟩
  have hT1 : Hid (TwoF P0 R0 (fun _ => False) W1 W1 ga S gb S) := TwoF.start (hA.keep kW) (hB.keep kW) hd
  have hEnd : Hid (∀ (S' : Ai.St) (W : World), TwoF P0 R0 (fun _ => False) W1 W ga S' gb S' → S'.m ≤ S.m + 1 → BothEnds P0 R0 W0 W ga gb S) := fun S' W h1 h2 => ⟨S', h1.base kW (fun b hb => hb.elim), h2⟩
  have hs64 : Hid (In64 src) := hs0
  have ht64 : Hid (In64 dst) := ht0
  have hm : Hid (S.m ≤ 90000) := hm0
  have hCB : Hid (∀ i, Calls Try.prog 14 #[.pointer (some ⟨ga, 0, none⟩), .int .i64 i] W1 fun e w' => ∃ v z W2 X, e = .returned (.tuple #[.agg #[.int .i64 (S.giv i).src, .int .i64 (S.giv i).dst, v], .bool (S.has i)]) ∧ Hid (Kept w' (S.giv i) v z W2 X) ∧ Hid (Bx (fun b => P0 b ∨ R0 b ∨ False) W1 X) ∧ Hid (Calls Try.prog 25 #[.pointer (some ⟨gb, 0, none⟩), .int .i64 i] X fun e2 w2 => ∃ v2 z2 W3 X2, e2 = .returned (.tuple #[.agg #[.int .i64 (S.giv i).src, .int .i64 (S.giv i).dst, v2], .bool (S.has i)]) ∧ Hid (Kept w2 (S.giv i) v2 z2 W3 X2) ∧ Hid (TwoF P0 R0 (fun _ => False) W1 X2 ga (S.lose i) gb (S.lose i)) ∧ Hid (DgAt X2 z (S.giv i).src (S.giv i).dst v ∧ RowV X2 v (S.giv i).b ∧ DgAt X2 z2 (S.giv i).src (S.giv i).dst v2 ∧ RowV X2 v2 (S.giv i).b))) := fun i => carry_both (hA.keep kW) (hB.keep kW) hd i
  have hAB : Hid (AirAt W1 P0 ga S ∧ RefAt W1 R0 gb S ∧ (∀ b, P0 b → ¬ R0 b) ∧ RowV W1 u dl ∧ VIn (fun b => ¬ P0 b ∧ ¬ R0 b) u ∧ W1.heap[z]? = some (.cells #[.int .i64 dd, .int .i64 nn, .int .i64 src, .int .i64 dst, u] 37 (0, 0))) := (⟨hA.keep kW, hB.keep kW, hd, hrow.keep kW, hvf, hg0⟩ : _ ∧ _)
  have hzN : Hid (¬ P0 z ∧ ¬ R0 z) := (⟨hzP, hzR⟩ : _ ∧ _)
  obtain ⟨y0, y1, y2, y3, y4⟩ := HZ.out W1 (Bx.refl _ _)
  clear hs0 ht0 hm0 hzl hzP hzR hg0 kW hA hB hd hrow hvf
  by_cases e0 : dd = 0
  · subst e0
    obtain ⟨zm, V2, X1, q1, q2, q3, q4, q5, q6, q7⟩ := dg_box W1 src dst (dg_oneCell hAB.out.2.2.2.1)
    have hzz := hAB.out.2.2.2.2.2
    have hzl : z < W1.heap.size := (Array.getElem?_eq_some_iff.1 hzz).1
    have ha : Bw X1 (X1.alloc (.cells #[] 5)) := bw_allocx (Bw.refl _)
    have hzX := (q7.out.block z hzl).trans hzz
    have y4 : X1.cell? ⟨z, 4, none⟩ = some u := cell_of_row X1 z 4 _ _ _ hzX
    have y4a : (X1.alloc (.cells #[] 5)).cell? ⟨z, 4, none⟩ = some u := cell_of_row _ z 4 _ _ _ ((ha.block z (Nat.lt_of_lt_of_le hzl q7.out.size)).trans hzX)
    have hu1 : Hid (RowV X1 u dl) := hAB.out.2.2.2.1.keep q7.out
    have hzm : Hid (DgAt X1 zm src dst u) := q6
    clear hzz hzl ha hzX q6
    obtain ⟨E, hE⟩ : ∃ E, Hid (S.sendE ⟨src, dst, dl⟩ = E) := ⟨_, rfl⟩
    obtain ⟨S', hS'⟩ : ∃ x, Hid (S.send ⟨src, dst, dl⟩ = x) := ⟨_, rfl⟩
    have HS : Hid (∀ (W : World) (Sb : Ai.St) (v : Value), TwoF P0 R0 (fun _ => False) W W ga S gb Sb → RowV W v dl → Calls Try.prog 15 #[.pointer (some ⟨ga, 0, none⟩), .agg #[.int .i64 src, .int .i64 dst, v]] W fun e w' => e = .returned (.int .i64 E) ∧ Hid (TwoF P0 R0 (fun _ => False) W w' ga S' gb Sb)) := fun W Sb v h1 h2 => by
      have h3 := f_send h1 (d := ⟨src, dst, dl⟩) hs64.out ht64.out h2
      rw [hE.out, hS'.out] at h3
      exact h3
    have HR : Hid (∀ (W : World) (g2 : Nat), ∀ W6, TwoF P0 R0 (MineM g2 dl) W6 W ga S' gb S → RowV W u dl → Calls Try.prog 24 #[.pointer (some ⟨gb, 0, none⟩), .agg #[.int .i64 src, .int .i64 dst, u]] W fun e w' => e = .returned (.int .i64 E) ∧ Hid (TwoF P0 R0 (MineM g2 dl) W6 w' ga S' gb S')) := fun W g2 W6 h1 h2 => by
      have h3 := r_send h1 (by have := hm.out; omega) (d := ⟨src, dst, dl⟩) h2
      rw [hE.out, hS'.out] at h3
      exact h3
    go_enter Try.func11, Try.ntmps11
    go_upto_region 1 with fail
    rw [hW1.out, hz.out]
    go_wp2_with (first
      | (rw [q2.out, q1.out]; refine wpList_store_row rfl 35 _ _ rfl zm (dcs src dst u) rfl rfl 35 _ q3.out (dg_info _ _ _) rfl (dg_all _ _ q5.out).out ?_; rw [q4.out])
      | (refine wpList_mine19 (W := X1) (by rfl) _ _ (by rfl) (u := u) (by rfl) (by rfl) hu1.out ?_; intro A2 cap2 g2 W5 hM; obtain ⟨W6, hW6, hMX⟩ := mine_ctx hAB.out hzN.out.1 hzN.out.2 q1.out q7.out hzm.out hM; have m2 : W5.cell? ⟨zm, 2, none⟩ = some u := cell_of_row _ zm 2 _ _ _ ((hM.bw.block zm (Array.getElem?_eq_some_iff.1 hzm.out).1).trans hzm.out); have fr2 : W5.frozen? ⟨zm, 2, none⟩ = false := frozen_of_row _ zm 2 _ _ ((hM.bw.block zm (Array.getElem?_eq_some_iff.1 hzm.out).1).trans hzm.out); clear hM)
      | (rw [hW6.out]; refine wpList_load_row rfl 35 _ rfl zm rfl 35 #[.int .i64 src, .int .i64 dst, .slice A2 dl.length cap2] (0, 0) _ hMX.out.top Try.underlying35 rfl (dg_info _ _ _) ?_)
      | (go_at_call 15; refine (HS.out _ _ _ hMX.out.two hMX.out.row).mono ?_; rintro e W7 ⟨rfl, hT7⟩; have m7 := (hMX.out.see W7 (hT7.out.moreM (fun _ h => h.elim)).bx).1))
    have hS0 : Hid (TwoF P0 R0 (MineM g2 dl) W6 W7 ga S' gb S ∧ (0 < dl.length → ∃ f', Own W7 g2 dl.length f')) := by
      refine (⟨hT7.out.moreM (fun _ h => h.elim), fun h0 => ?_⟩ : _ ∧ _)
      obtain ⟨cur, h1, h2⟩ := hMX.out.own h0
      have hl := hMX.out.low g2 ⟨rfl, h0⟩
      exact ⟨_, cur, (hT7.out.bx.block g2 hl.1 (fun e => e.elim hl.2.1 (fun e => e.elim hl.2.2 id))).trans h1, h2⟩
    clear m7 m2 fr2 y4 y4a HS hT7
    go_loopw [9] (fun i wr => ∃ q : Nat, q ≤ dl.length ∧ i = .int .i64 (q : Int) ∧ Hid (TwoF P0 R0 (MineM g2 dl) W6 wr ga S' gb S ∧ (0 < dl.length → ∃ f', Own wr g2 dl.length f'))) (fun i _ => dl.length - (intOf i).toNat)
    case atStart => exact ⟨0, Nat.zero_le _, rfl, hS0⟩
    case round =>
      obtain ⟨q, hq, rfl, hR⟩ := hrel
      have q0 : (0 : Int) ≤ (q : Int) := Int.natCast_nonneg _
      have hlen : Hid (dl.length ≤ 140737488355328) := hMX.out.len
      obtain ⟨n1, n2, n3, n4, n5⟩ := hMX.out.see wr hR.out.1.bx
      clear hS0
      by_cases hlt : q < dl.length
      · have q1 : (q : Int) < (dl.length : Int) := by omega
        obtain rfl := hMX.out.blk (by omega)
        obtain ⟨f', hof⟩ := hR.out.2 (by omega)
        obtain ⟨l1, l2⟩ := hof.cell hlt
        have p4 : IntKind.i64.wrap ((q : Int) + 1) = (q : Int) + 1 := by have := hlen.out; rw [IntKind.wrap_i64]; omega
        have hfin : Hid (∀ e : Int, (∃ q' : Nat, q' ≤ dl.length ∧ Value.int .i64 ((q : Int) + 1) = .int .i64 (q' : Int) ∧ Hid (TwoF P0 R0 (MineM g2 dl) W6 ((wr.setCell ⟨g2, q, none⟩ (.int .u8 e)).drew) ga S' gb S ∧ (0 < dl.length → ∃ f', Own ((wr.setCell ⟨g2, q, none⟩ (.int .u8 e)).drew) g2 dl.length f'))) ∧ dl.length - (intOf (.int .i64 ((q : Int) + 1))).toNat < dl.length - (intOf (.int .i64 (q : Int))).toNat) := fun e => by
          refine ⟨⟨q + 1, hlt, rfl, (⟨(hR.out.1.keepm hMX.out.low ((Bx.refl _ _).put (show MineM g2 dl g2 from ⟨rfl, by omega⟩))).keep (Bw.refl _).drew, fun _ => ⟨fun c => if c = q then e else f' c, (hof.set hlt (if_pos rfl) (fun c _ hc => if_neg hc)).keep (Bw.refl _).drew⟩⟩ : _ ∧ _)⟩, by simp only [intOf]; omega⟩
        clear hof n2 n3 n4 n5
        have hne := hMX.out.ne
        have kwd : Bw wr wr.drew := (Bw.refl wr).drew
        have d1 : wr.drew.cell? ⟨zm, 2, none⟩ = some (.slice (some ⟨g2, 0, none⟩) dl.length cap2) := n1
        have z0 : wr.drew.cell? ⟨g2, q, none⟩ = some (.int .u8 (f' q)) := l1
        have z1 : wr.drew.frozen? ⟨g2, q, none⟩ = false := l2
        have hld : Hid (∀ e : Int, ((wr.setCell ⟨g2, q, none⟩ (.int .u8 e)).drew).cell? ⟨zm, 2, none⟩ = some (.slice (some ⟨g2, 0, none⟩) dl.length cap2)) := fun e => (World.cell?_setCell_far _ _ _ _ hne).trans n1
        go_upto_region 9 with fail
        refine wp_region_held_drew (S := fun w' => w'.cell? ⟨zm, 2, none⟩ = some (.slice (some ⟨g2, 0, none⟩) dl.length cap2)) (by kernel_rfl) (d1) (fun hHeld => ?_)
        refine wpAnyH_take (i := 0) (v := ?_) rfl (by kernel_rfl) (by kernel_rfl) (by kernel_rfl) (fun _ _ _ h => h) (Or.inl ⟨by rfl, ?_⟩) (by assumption) ?_
        rotate_left
        · intro w hSw; (try dsimp only at hSw); go_simp; all_goals (with_reducible rfl)
        try simp only [Act.put, List.setIfInBounds_toArray, List.set_cons_zero, List.set_cons_succ, List.getElem_toArray, List.getElem_cons_succ, List.getElem_cons_zero]
        refine wpAnyH_take (i := 1) (v := ?_) rfl (by kernel_rfl) (by kernel_rfl) (by kernel_rfl) (fun _ _ _ h => h) (Or.inl ⟨by rfl, ?_⟩) (by assumption) ?_
        rotate_left
        · intro w hSw; (try dsimp only at hSw); go_simp; all_goals (with_reducible rfl)
        try simp only [Act.put, List.setIfInBounds_toArray, List.set_cons_zero, List.set_cons_succ, List.getElem_toArray, List.getElem_cons_succ, List.getElem_cons_zero]
        refine wpAnyH_take (i := 2) (v := ?_) rfl (by kernel_rfl) (by kernel_rfl) (by kernel_rfl) (fun _ _ _ h => h) (Or.inl ⟨by rfl, ?_⟩) (by assumption) ?_
        rotate_left
        · intro w hSw; (try dsimp only at hSw); go_simp; all_goals (with_reducible rfl)
        try simp only [Act.put, List.setIfInBounds_toArray, List.set_cons_zero, List.set_cons_succ, List.getElem_toArray, List.getElem_cons_succ, List.getElem_cons_zero]
        refine wpAnyH_take (i := 3) (v := ?_) rfl (by kernel_rfl) (by kernel_rfl) (by kernel_rfl) (fun _ _ _ h => h) (Or.inl ⟨by rfl, ?_⟩) (by assumption) ?_
        rotate_left
        · intro w hSw; (try dsimp only at hSw); go_simp; all_goals (with_reducible rfl)
        try simp only [Act.put, List.setIfInBounds_toArray, List.set_cons_zero, List.set_cons_succ, List.getElem_toArray, List.getElem_cons_succ, List.getElem_cons_zero]
        refine wpAnyH_take (i := 4) (v := ?_) rfl (by kernel_rfl) (by kernel_rfl) (by kernel_rfl) (fun _ _ _ h => h) (Or.inl ⟨by rfl, ?_⟩) (by assumption) ?_
        rotate_left
        · intro w hSw; (try dsimp only at hSw); go_simp; all_goals (with_reducible rfl)
        try simp only [Act.put, List.setIfInBounds_toArray, List.set_cons_zero, List.set_cons_succ, List.getElem_toArray, List.getElem_cons_succ, List.getElem_cons_zero]
        refine wpAnyH_take (i := 5) (v := ?_) rfl (by kernel_rfl) (by kernel_rfl) (by kernel_rfl) (fun _ _ _ h => h) (Or.inl ⟨by rfl, ?_⟩) (by assumption) ?_
        rotate_left
        · intro w hSw; (try dsimp only at hSw); go_simp; all_goals (with_reducible rfl)
        try simp only [Act.put, List.setIfInBounds_toArray, List.set_cons_zero, List.set_cons_succ, List.getElem_toArray, List.getElem_cons_succ, List.getElem_cons_zero]
        refine wpAnyH_take (i := 6) (v := ?_) rfl (by kernel_rfl) (by kernel_rfl) (by kernel_rfl) (fun _ _ _ h => h) (Or.inl ⟨by rfl, ?_⟩) (by assumption) ?_
        rotate_left
        · intro w hSw; (try dsimp only at hSw); go_simp; all_goals (with_reducible rfl)
        try simp only [Act.put, List.setIfInBounds_toArray, List.set_cons_zero, List.set_cons_succ, List.getElem_toArray, List.getElem_cons_succ, List.getElem_cons_zero]
        refine wpAnyH_ready (rs := [7]) (by kernel_rfl) (by simp) ?_
        refine AllReadyH.cons rfl (fun K hK => ?_) AllReadyH.nil
        go_simp
        refine hK.out _ _ (d1) (fun hHeld => ?_)
        clear hK K
        try simp only [Act.put, List.setIfInBounds_toArray, List.set_cons_zero, List.set_cons_succ, List.getElem_toArray, List.getElem_cons_succ, List.getElem_cons_zero]
        refine wpAnyH_take (i := 8) (v := ?_) rfl (by kernel_rfl) (by kernel_rfl) (by kernel_rfl) (fun _ _ _ h => h) (Or.inl ⟨by rfl, ?_⟩) (by assumption) ?_
        rotate_left
        · intro w hSw; (try dsimp only at hSw); go_simp; all_goals (with_reducible rfl)
        try simp only [Act.put, List.setIfInBounds_toArray, List.set_cons_zero, List.set_cons_succ, List.getElem_toArray, List.getElem_cons_succ, List.getElem_cons_zero]
        refine wpAnyH_take (i := 9) (v := ?_) rfl (by kernel_rfl) (by kernel_rfl) (by kernel_rfl) (fun _ _ _ h => h) (Or.inl ⟨by rfl, ?_⟩) (by assumption) ?_
        rotate_left
        · intro w hSw; (try dsimp only at hSw); go_simp; all_goals (with_reducible rfl)
        try simp only [Act.put, List.setIfInBounds_toArray, List.set_cons_zero, List.set_cons_succ, List.getElem_toArray, List.getElem_cons_succ, List.getElem_cons_zero]
        refine wpAnyH_ready (rs := [10]) (by kernel_rfl) (by simp) ?_
        refine AllReadyH.cons rfl (fun K hK => ?_) AllReadyH.nil
        go_simp
        refine hK.out _ _ (hld.out _) (fun hHeld => ?_)
        clear hK K
        try simp only [Act.put, List.setIfInBounds_toArray, List.set_cons_zero, List.set_cons_succ, List.getElem_toArray, List.getElem_cons_succ, List.getElem_cons_zero]
        refine wpAnyH_done (by kernel_rfl) ?_ _
        go_wp2
        go_roundw
        case rel => exact (hfin.out _).1
        case measure => exact (hfin.out 0).2
      · have q1 : ¬ (q : Int) < (dl.length : Int) := by omega
        have hu7 : Hid (RowV wr u dl) := n5
        clear n5
        go_wp2_with (go_at_call 24; refine (HR.out _ _ _ hR.out.1 hu7.out).mono ?_; rintro e W8 ⟨rfl, hT8⟩)
        go_ret
        exact ⟨by first | rfl | simp, hEnd.out _ _ (hMX.out.back _ _ _ hT8.out) (by rw [← hS'.out, send_m]; omega)⟩
  · by_cases e1 : dd = 1
    · subst e1
      obtain ⟨D, hD⟩ : ∃ D, Hid (S.giv nn = D) := ⟨_, rfl⟩
      obtain ⟨hv, hhv⟩ : ∃ x, Hid (S.has nn = x) := ⟨_, rfl⟩
      have hSm : ∀ (W : World) (D : Ai.Dg) (v u : Value), RowV W v D.b → RowV W u D.b → Calls Try.prog 17 #[.agg #[.int .i64 D.src, .int .i64 D.dst, v], .agg #[.int .i64 D.src, .int .i64 D.dst, u]] W fun x w' => x = .returned (.bool true) ∧ Bw W w' := fun W D v u h1 h2 => by
        have h3 := same19_any D D h1 h2
        have h4 : Ai.eqb D D = true := by unfold Ai.eqb; rw [decide_eq_true rfl, decide_eq_true rfl, decide_eq_true rfl]; rfl
        rw [h4] at h3
        exact h3
      have HX : Hid (Calls _ _ _ _ _) := hCB.out nn
      rw [hD.out, hhv.out] at HX
      go_enter Try.func11, Try.ntmps11
      go_upto_region 1 with fail
      rw [hW1.out, hz.out]
      go_wp2_with (first
        | (go_at_call 14; refine HX.out.mono ?_; rintro e w2 ⟨v8, z8, W8, X8, rfl, hK8, hx8, HY⟩; obtain ⟨-, y1, -, -, -⟩ := HZ.out X8 hx8.out)
        | (rw [hK8.out.2.1.out, hK8.out.1.out]; refine wpList_store_row rfl 35 _ _ rfl z8 (dcs D.src D.dst v8) rfl rfl 35 _ hK8.out.2.2.1.out (dg_info _ _ _) rfl (dg_all _ _ hK8.out.2.2.2.2.out).out ?_; rw [hK8.out.2.2.2.1.out])
        | (go_at_call 25; refine HY.out.mono ?_; rintro e w3 ⟨v9, z9, W9, X9, rfl, hK9, hT9, hB9⟩; clear y1)
        | (rw [hK9.out.2.1.out, hK9.out.1.out]; refine wpList_store_row rfl 35 _ _ rfl z9 (dcs D.src D.dst v9) rfl rfl 35 _ hK9.out.2.2.1.out (dg_info _ _ _) rfl (dg_all _ _ hK9.out.2.2.2.2.out).out ?_; rw [hK9.out.2.2.2.1.out]; have ho8 := hK8.out.2.2.2.2.out; have ho9 := hK9.out.2.2.2.2.out; have s0 : X9.cell? ⟨z8, 0, none⟩ = some (.int .i64 D.src) := cell_of_row X9 z8 0 _ _ _ hB9.out.1; have s1 : X9.cell? ⟨z8, 1, none⟩ = some (.int .i64 D.dst) := cell_of_row X9 z8 1 _ _ _ hB9.out.1; have s2 : X9.cell? ⟨z8, 2, none⟩ = some v8 := cell_of_row X9 z8 2 _ _ _ hB9.out.1; have r0 : X9.cell? ⟨z9, 0, none⟩ = some (.int .i64 D.src) := cell_of_row X9 z9 0 _ _ _ hB9.out.2.2.1; have r1 : X9.cell? ⟨z9, 1, none⟩ = some (.int .i64 D.dst) := cell_of_row X9 z9 1 _ _ _ hB9.out.2.2.1; have r2 : X9.cell? ⟨z9, 2, none⟩ = some v9 := cell_of_row X9 z9 2 _ _ _ hB9.out.2.2.1)
        | (go_at_call 17; refine (hSm _ _ _ _ hB9.out.2.1 hB9.out.2.2.2).mono ?_; rintro e w5 ⟨rfl, hb5⟩))
      go_ret
      exact ⟨by first | rfl | simp, hEnd.out _ _ (hT9.out.keep hb5) (by rw [lose_m]; omega)⟩
    · by_cases e2 : dd = 2
      · subst e2
        obtain ⟨hv, hhv⟩ : ∃ x, Hid (S.has nn = x) := ⟨_, rfl⟩
        have HX : Hid (Calls Try.prog 18 #[.pointer (some ⟨ga, 0, none⟩), .int .i64 nn] W1 fun e w' => e = .returned (.bool hv) ∧ Hid (TwoF P0 R0 (fun _ => False) W1 w' ga (S.lose nn) gb S)) := by
          have h1 := f_lose hT1.out nn
          rw [hhv.out] at h1
          exact h1
        have HY : Hid (∀ W, TwoF P0 R0 (fun _ => False) W1 W ga (S.lose nn) gb S → Calls Try.prog 26 #[.pointer (some ⟨gb, 0, none⟩), .int .i64 nn] W fun e w' => e = .returned (.bool hv) ∧ Hid (TwoF P0 R0 (fun _ => False) W1 w' ga (S.lose nn) gb (S.lose nn))) := fun W hW => by
          have h1 := r_lose hW nn
          rw [hhv.out] at h1
          exact h1
        go_enter Try.func11, Try.ntmps11
        go_upto_region 1 with fail
        rw [hW1.out, hz.out]
        go_wp2_with (first
          | (go_at_call 18; refine HX.out.mono ?_; rintro e w2 ⟨rfl, hT2⟩; obtain ⟨-, y1, -, -, -⟩ := HZ.out w2 hT2.out.bx)
          | (go_at_call 26; refine (HY.out _ hT2.out).mono ?_; rintro e w3 ⟨rfl, hT3⟩))
        go_ret
        exact ⟨by first | rfl | simp, hEnd.out _ _ hT3.out (by rw [lose_m]; omega)⟩
      · by_cases e3 : dd = 3
        · subst e3
          obtain ⟨hv, hhv⟩ : ∃ x, Hid (S.dbl nn = x) := ⟨_, rfl⟩
          have HX : Hid (Calls Try.prog 19 #[.pointer (some ⟨ga, 0, none⟩), .int .i64 nn] W1 fun e w' => e = .returned (.bool hv) ∧ Hid (TwoF P0 R0 (fun _ => False) W1 w' ga (S.twice nn) gb S)) := by
            have h1 := f_twice hT1.out nn
            rw [hhv.out] at h1
            exact h1
          have HY : Hid (∀ W, TwoF P0 R0 (fun _ => False) W1 W ga (S.twice nn) gb S → Calls Try.prog 27 #[.pointer (some ⟨gb, 0, none⟩), .int .i64 nn] W fun e w' => e = .returned (.bool hv) ∧ Hid (TwoF P0 R0 (fun _ => False) W1 w' ga (S.twice nn) gb (S.twice nn))) := fun W hW => by
            have h1 := r_twice hW nn
            rw [hhv.out] at h1
            exact h1
          go_enter Try.func11, Try.ntmps11
          go_upto_region 1 with fail
          rw [hW1.out, hz.out]
          go_wp2_with (first
            | (go_at_call 19; refine HX.out.mono ?_; rintro e w2 ⟨rfl, hT2⟩; obtain ⟨-, y1, -, -, -⟩ := HZ.out w2 hT2.out.bx)
            | (go_at_call 27; refine (HY.out _ hT2.out).mono ?_; rintro e w3 ⟨rfl, hT3⟩))
          go_ret
          exact ⟨by first | rfl | simp, hEnd.out _ _ hT3.out (by rw [twice_m]; omega)⟩
        · by_cases e4 : dd = 4
          · subst e4
            obtain ⟨hv, hhv⟩ : ∃ x, Hid (S.has nn = x) := ⟨_, rfl⟩
            have HX : Hid (Calls Try.prog 20 #[.pointer (some ⟨ga, 0, none⟩), .int .i64 nn] W1 fun e w' => e = .returned (.bool hv) ∧ Hid (TwoF P0 R0 (fun _ => False) W1 w' ga (S.hold nn) gb S)) := by
              have h1 := f_hold hT1.out nn
              rw [hhv.out] at h1
              exact h1
            have HY : Hid (∀ W, TwoF P0 R0 (fun _ => False) W1 W ga (S.hold nn) gb S → Calls Try.prog 28 #[.pointer (some ⟨gb, 0, none⟩), .int .i64 nn] W fun e w' => e = .returned (.bool hv) ∧ Hid (TwoF P0 R0 (fun _ => False) W1 w' ga (S.hold nn) gb (S.hold nn))) := fun W hW => by
              have h1 := r_hold hW nn
              rw [hhv.out] at h1
              exact h1
            go_enter Try.func11, Try.ntmps11
            go_upto_region 1 with fail
            rw [hW1.out, hz.out]
            go_wp2_with (first
              | (go_at_call 20; refine HX.out.mono ?_; rintro e w2 ⟨rfl, hT2⟩; obtain ⟨-, y1, -, -, -⟩ := HZ.out w2 hT2.out.bx)
              | (go_at_call 28; refine (HY.out _ hT2.out).mono ?_; rintro e w3 ⟨rfl, hT3⟩))
            go_ret
            exact ⟨by first | rfl | simp, hEnd.out _ _ hT3.out (by rw [hold_m]; omega)⟩
          · have f0 : (dd == 0) = false := by rw [beq_eq_false_iff_ne]; exact e0
            have f1 : (dd == 1) = false := by rw [beq_eq_false_iff_ne]; exact e1
            have f2 : (dd == 2) = false := by rw [beq_eq_false_iff_ne]; exact e2
            have f3 : (dd == 3) = false := by rw [beq_eq_false_iff_ne]; exact e3
            have f4 : (dd == 4) = false := by rw [beq_eq_false_iff_ne]; exact e4
            clear e0 e1 e2 e3 e4
            by_cases e5 : dd = 5
            · subst e5
              clear f0 f1 f2 f3 f4
              have HX : Hid (Calls Try.prog 21 #[.pointer (some ⟨ga, 0, none⟩), .int .i64 src, .int .i64 dst, .bool true] W1 fun e w' => e = .returned (.int .i64 (S.cutE src dst)) ∧ Hid (TwoF P0 R0 (fun _ => False) W1 w' ga (S.cutW src dst true) gb S)) := f_cut hT1.out hs64.out ht64.out true (by have := hm.out; omega)
              have HY : Hid (∀ W, TwoF P0 R0 (fun _ => False) W1 W ga (S.cutW src dst true) gb S → Calls Try.prog 29 #[.pointer (some ⟨gb, 0, none⟩), .int .i64 src, .int .i64 dst, .bool true] W fun e w' => e = .returned (.int .i64 (S.cutE src dst)) ∧ Hid (TwoF P0 R0 (fun _ => False) W1 w' ga (S.cutW src dst true) gb (S.cutW src dst true))) := fun W hW => r_cut hW src dst true (by have := hm.out; omega)
              obtain ⟨ce, hce⟩ : ∃ x, Hid (S.cutE src dst = x) := ⟨_, rfl⟩
              rw [hce.out] at HX HY
              go_enter Try.func11, Try.ntmps11
              go_upto_region 1 with fail
              rw [hW1.out, hz.out]
              go_wp2_with (first
                | (go_at_call 21; refine HX.out.mono ?_; rintro e w2 ⟨rfl, hT2⟩; obtain ⟨y0, y1, y2, y3, -⟩ := HZ.out w2 hT2.out.bx)
                | (go_at_call 29; refine (HY.out _ hT2.out).mono ?_; rintro e w3 ⟨rfl, hT3⟩))
              go_ret
              exact ⟨by first | rfl | simp, hEnd.out _ _ hT3.out (cut_m _ _ _ _)⟩
            · by_cases e6 : dd = 6
              · subst e6
                clear f0 f1 f2 f3 f4 e5
                have HX : Hid (Calls Try.prog 21 #[.pointer (some ⟨ga, 0, none⟩), .int .i64 src, .int .i64 dst, .bool false] W1 fun e w' => e = .returned (.int .i64 (S.cutE src dst)) ∧ Hid (TwoF P0 R0 (fun _ => False) W1 w' ga (S.cutW src dst false) gb S)) := f_cut hT1.out hs64.out ht64.out false (by have := hm.out; omega)
                have HY : Hid (∀ W, TwoF P0 R0 (fun _ => False) W1 W ga (S.cutW src dst false) gb S → Calls Try.prog 29 #[.pointer (some ⟨gb, 0, none⟩), .int .i64 src, .int .i64 dst, .bool false] W fun e w' => e = .returned (.int .i64 (S.cutE src dst)) ∧ Hid (TwoF P0 R0 (fun _ => False) W1 w' ga (S.cutW src dst false) gb (S.cutW src dst false))) := fun W hW => r_cut hW src dst false (by have := hm.out; omega)
                obtain ⟨ce, hce⟩ : ∃ x, Hid (S.cutE src dst = x) := ⟨_, rfl⟩
                rw [hce.out] at HX HY
                go_enter Try.func11, Try.ntmps11
                go_upto_region 1 with fail
                rw [hW1.out, hz.out]
                go_wp2_with (first
                  | (go_at_call 21; refine HX.out.mono ?_; rintro e w2 ⟨rfl, hT2⟩; obtain ⟨y0, y1, y2, y3, -⟩ := HZ.out w2 hT2.out.bx)
                  | (go_at_call 29; refine (HY.out _ hT2.out).mono ?_; rintro e w3 ⟨rfl, hT3⟩))
                go_ret
                exact ⟨by first | rfl | simp, hEnd.out _ _ hT3.out (cut_m _ _ _ _)⟩
              · have f5 : (dd == 5) = false := by rw [beq_eq_false_iff_ne]; exact e5
                have f6 : (dd == 6) = false := by rw [beq_eq_false_iff_ne]; exact e6
                clear e5 e6
                go_enter Try.func11, Try.ntmps11
                go_upto_region 1 with fail
                rw [hW1.out, hz.out]
                go_wp2
                go_ret
                exact ⟨rfl, hEnd.out _ _ hT1.out (Nat.le_succ _)⟩
end Go.Proofs.Ytjjnbpbbjaabeaa
