/- Layer 19: the steps of AirOnce. -/
import Derived.Test.YtjjnbpbbjaabeaaTs
namespace Go.Proofs.Ytjjnbpbbjaabeaa
open Go.RowKit Go.Deep
set_option linter.unusedVariables false
set_option linter.unusedSimpArgs false

/-- an air beside two lists and a datagram in block z -/
structure Mid (w W : World) (P : Nat → Prop) (g : Nat) (S : Ai.St) (cv wv : Value) (EC EW : List Raw) (CM WN : List Ai.Dg) (z : Nat) (d : Ai.Dg) (v : Value) : Prop where
  o : OnceP w W P g S cv wv EC EW CM WN
  box : DgAt W z d.src d.dst v
  row : RowV W v d.b
  fz : ¬ P z
  fv : VIn (Free P cv wv) v
/-- an air beside two lists -/
def Once (w W : World) (g : Nat) (S : Ai.St) (cv wv : Value) (CM WN : List Ai.Dg) : Prop := ∃ P EC EW, OnceP w W P g S cv wv EC EW CM WN
/-- a call's answer, kept in a block of its own -/
def Kept (w' : World) (d : Ai.Dg) (v : Value) (z : Nat) (W2 W3 : World) : Prop :=
  Hid (w'.heap.size = z) ∧ Hid (w'.alloc (.cells #[.int .i64 0, .int .i64 0, .slice none 0 0] 35) = W2) ∧ Hid (DgAt W2 z 0 0 (.slice none 0 0)) ∧ Hid (W2.setRow z (dcs d.src d.dst v) = W3) ∧ Hid (v.oneCell' = true)
section
variable {w W W' : World} {P : Nat → Prop} {g : Nat} {S S' : Ai.St} {cv wv : Value} {EC EW : List Raw} {CM WN : List Ai.Dg} {z : Nat} {d : Ai.Dg} {v : Value}
theorem Mid.keep (h : Mid w W P g S cv wv EC EW CM WN z d v) (k : Bw W W') : Mid w W' P g S cv wv EC EW CM WN z d v :=
  ⟨h.o.keep k, (k.block z (Array.getElem?_eq_some_iff.1 h.box).1).trans h.box, h.row.keep k, h.fz, h.fv⟩
theorem Mid.turn (h : Mid w W P g S cv wv EC EW CM WN z d v) (hA : AirAt W' (Gr P W W') g S') (kx : Bx P W W') : Mid w W' (Gr P W W') g S' cv wv EC EW CM WN z d v := by
  have hz := (Array.getElem?_eq_some_iff.1 h.box).1
  have hl := h.row.low
  refine ⟨h.o.turn hA kx, (kx.block z hz h.fz).trans h.box, h.row.keepx kx (h.fv.mono (fun b hb => hb.1)), fun hb => ?_, fun b o n c e h0 => ?_⟩
  · rcases hb with hb | hb
    · exact h.fz hb
    · omega
  · have h3 := h.fv b o n c e h0
    have h4 := hl b o n c e h0
    exact ⟨fun hb => by
      rcases hb with hb | hb
      · exact h3.1 hb
      · omega, h3.2⟩
theorem Mid.turn0 (h : Mid w W P g S cv wv EC EW CM WN z d v) (hA : AirAt W' P g S') (kx : Bx P W W') : Mid w W' P g S' cv wv EC EW CM WN z d v :=
  ⟨h.o.turn0 hA kx, (kx.block z (Array.getElem?_eq_some_iff.1 h.box).1 h.fz).trans h.box, h.row.keepx kx (h.fv.mono (fun b hb => hb.1)), h.fz, h.fv⟩
theorem Mid.once (h : Mid w W P g S cv wv EC EW CM WN z d v) : Once w W g S cv wv CM WN := ⟨P, EC, EW, h.o⟩
theorem OnceP.fresh (h : OnceP w W P g S cv wv EC EW CM WN) (hv : VIn (fun b => W.heap.size ≤ b) v) : VIn (Free P cv wv) v := hv.mono (fun b hb => ⟨fun e => by have := h.air.low b e; omega, fun e => by have := h.cu.lt b e; omega, fun e => by have := h.wu.lt b e; omega⟩)
theorem once_at (h : OnceP w W P g S cv wv EC EW CM WN) (i : Int) :
    Calls Try.prog 13 #[.pointer (some ⟨g, 0, none⟩), .int .i64 i] W fun e w' => ∃ v z W2 W3, e = .returned (.tuple #[.agg #[.int .i64 (S.giv i).src, .int .i64 (S.giv i).dst, v], .bool (S.has i)]) ∧ Hid (Kept w' (S.giv i) v z W2 W3) ∧ Hid (Mid w W3 P g S cv wv EC EW CM WN z (S.giv i) v) := by
  refine (at_at h.air i).mono ?_
  rintro e w' ⟨⟨v, rfl, hr, hv⟩, hb⟩
  obtain ⟨z, W2, W3, q1, q2, q3, q4, q5, q6, q7⟩ := dg_box w' (S.giv i).src (S.giv i).dst (dg_oneCell hr)
  have hs := hb.size
  have hq1 := q1.out
  exact ⟨v, z, W2, W3, rfl, ⟨q1, q2, q3, q4, q5⟩, ⟨h.keep (hb.trans q7.out), q6.out, hr.keep q7.out, fun hz => by have := h.air.low z hz; omega, h.fresh hv⟩⟩
theorem mid_carry (h : Mid w W P g S cv wv EC EW CM WN z d v) (i : Int) :
    Calls Try.prog 14 #[.pointer (some ⟨g, 0, none⟩), .int .i64 i] W fun e w' => ∃ v2 z2 W2 W3, e = .returned (.tuple #[.agg #[.int .i64 (S.giv i).src, .int .i64 (S.giv i).dst, v2], .bool (S.has i)]) ∧ Hid (Kept w' (S.giv i) v2 z2 W2 W3) ∧ Hid (Mid w W3 P g (S.lose i) cv wv EC EW CM WN z2 (S.giv i) v2) ∧ Hid (DgAt W3 z d.src d.dst v ∧ RowV W3 v d.b) := by
  refine (carry_at h.o.air i).mono ?_
  rintro e w' ⟨⟨v2, rfl, hr, hv⟩, hA, hx⟩
  obtain ⟨z2, W2, W3, q1, q2, q3, q4, q5, q6, q7⟩ := dg_box w' (S.giv i).src (S.giv i).dst (dg_oneCell hr)
  have hs := hx.size
  have hq1 := q1.out
  have hm := (h.turn0 hA hx).keep q7.out
  exact ⟨v2, z2, W2, W3, rfl, ⟨q1, q2, q3, q4, q5⟩, ⟨hm.o, q6.out, hr.keep q7.out, fun hz => by have := h.o.air.low z2 hz; omega, h.o.fresh hv⟩, (⟨hm.box, hm.row⟩ : _ ∧ _)⟩
theorem mid_lose (h : Mid w W P g S cv wv EC EW CM WN z d v) (i : Int) :
    Calls Try.prog 18 #[.pointer (some ⟨g, 0, none⟩), .int .i64 i] W fun e w' => e = .returned (.bool (S.has i)) ∧ Hid (Mid w w' P g (S.lose i) cv wv EC EW CM WN z d v) := by
  refine (lose_at h.o.air i).mono ?_
  rintro e w' ⟨rfl, hA, hx⟩
  exact ⟨rfl, h.turn0 hA hx⟩
theorem mid_hold (h : Mid w W P g S cv wv EC EW CM WN z d v) (i : Int) :
    Calls Try.prog 20 #[.pointer (some ⟨g, 0, none⟩), .int .i64 i] W fun e w' => e = .returned (.bool (S.has i)) ∧ Hid (Mid w w' P g (S.hold i) cv wv EC EW CM WN z d v) := by
  refine (hold_at h.o.air i).mono ?_
  rintro e w' ⟨rfl, hA, hx⟩
  exact ⟨rfl, h.turn0 hA hx⟩
theorem mid_twice (h : Mid w W P g S cv wv EC EW CM WN z d v) (i : Int) :
    Calls Try.prog 19 #[.pointer (some ⟨g, 0, none⟩), .int .i64 i] W fun e w' => e = .returned (.bool (S.dbl i)) ∧ Hid (Mid w w' (Gr P W w') g (S.twice i) cv wv EC EW CM WN z d v) := by
  refine (twice_at h.o.air i).mono ?_
  rintro e w' ⟨rfl, hA, hx⟩
  exact ⟨rfl, h.turn hA hx⟩
theorem mid_cut (h : Mid w W P g S cv wv EC EW CM WN z d v) {p q : Int} (hp : In64 p) (hq : In64 q) (off : Bool) (hm : S.m ≤ 1000000) :
    Calls Try.prog 21 #[.pointer (some ⟨g, 0, none⟩), .int .i64 p, .int .i64 q, .bool off] W fun e w' => e = .returned (.int .i64 (S.cutE p q)) ∧ Hid (Mid w w' P g (S.cutW p q off) cv wv EC EW CM WN z d v) := by
  refine (cut_at h.o.air hp hq off hm).mono ?_
  rintro e w' ⟨rfl, hA, hx⟩
  exact ⟨rfl, h.turn0 hA hx⟩
theorem mid_is (h : Mid w W P g S cv wv EC EW CM WN z d v) {p q : Int} (hp : In64 p) (hq : In64 q) :
    Calls Try.prog 22 #[.pointer (some ⟨g, 0, none⟩), .int .i64 p, .int .i64 q] W fun e w' => e = .returned (.bool (S.cut p q)) ∧ Hid (Mid w w' P g S cv wv EC EW CM WN z d v) := by
  refine (is_at h.o.air hp hq).mono ?_
  rintro e w' ⟨rfl, hb⟩
  exact ⟨rfl, h.keep hb⟩
theorem mid_send (h : Mid w W P g S cv wv EC EW CM WN z d v) {x : Ai.Dg} {u : Value} (hs : In64 x.src) (ht : In64 x.dst) (hu : RowV W u x.b) :
    Calls Try.prog 15 #[.pointer (some ⟨g, 0, none⟩), .agg #[.int .i64 x.src, .int .i64 x.dst, u]] W fun e w' => e = .returned (.int .i64 (S.sendE x)) ∧ Hid (Mid w w' (Gr P W w') g (S.send x) cv wv EC EW CM WN z d v) := by
  refine (send_at h.o.air hs ht hu).mono ?_
  rintro e w' ⟨rfl, hA, hx⟩
  exact ⟨rfl, h.turn hA hx⟩
theorem OnceP.once (h : OnceP w W P g S cv wv EC EW CM WN) : Once w W g S cv wv CM WN := ⟨P, EC, EW, h⟩
theorem Once.swap (h : Once w W g S cv wv CM WN) : Once w W g S wv cv WN CM := by obtain ⟨P, EC, EW, h⟩ := h; exact ⟨P, EW, EC, h.swap⟩
theorem Once.bw (h : Once w W g S cv wv CM WN) : Bw w W := by obtain ⟨P, EC, EW, h⟩ := h; exact h.bw
theorem Once.keep (h : Once w W g S cv wv CM WN) (k : Bw W W') : Once w W' g S cv wv CM WN := by obtain ⟨P, EC, EW, h⟩ := h; exact ⟨P, EC, EW, h.keep k⟩
end
/-- what an append onto the first of the two lists asks and gives -/
def PushC (w W : World) (g : Nat) (S : Ai.St) (cv wv : Value) (CM WN : List Ai.Dg) (x y : Int) (u : Value) (d : Ai.Dg) : Prop :=
  ∃ (xs : List Value) (A : Option Addr) (c : Nat), cv = .slice A CM.length c ∧ W.ownsRow 0 35 3 cv CM.length xs ∧ u.oneCell' = true ∧
    ∀ (g2 c2 : Nat) (W2 : World), W2.ownsRow 0 35 3 (.slice (some ⟨g2, 0, none⟩) (CM.length + 1) c2) (CM.length + 1) (xs ++ [.int .i64 x, .int .i64 y, u]) → (W.alloc (.cells #[.int .i64 x, .int .i64 y, u] 35)).grownBy W2 cv.ownBlock → (cv.ownBlock = some g2 ∨ g2 = W.heap.size + 1) →
      Once w W2 g S (.slice (some ⟨g2, 0, none⟩) (CM.length + 1) c2) wv (CM ++ [d]) WN
theorem OnceP.pushC {w W : World} {P : Nat → Prop} {g : Nat} {S : Ai.St} {cv wv : Value} {EC EW : List Raw} {CM WN : List Ai.Dg} (h : OnceP w W P g S cv wv EC EW CM WN) {d : Ai.Dg} {u : Value} (hu : RowV W u d.b) (hf : VIn (Free P cv wv) u) : PushC w W g S cv wv CM WN d.src d.dst u d := by
  have hl := h.cd.1
  obtain ⟨A, c, e⟩ := h.cu.form
  rw [hl] at e
  have ho := h.cu.own (base := 0) (fun _ _ => Nat.zero_le _)
  rw [hl] at ho
  refine ⟨_, A, c, e, ho, dg_oneCell hu, fun g2 c2 W2 own gr at2 => ?_⟩
  exact (h.push (r := ⟨d.src, d.dst, u⟩) rfl rfl hu hf hl own gr at2).1.once
theorem Mid.pushC {w W : World} {P : Nat → Prop} {g : Nat} {S : Ai.St} {cv wv : Value} {EC EW : List Raw} {CM WN : List Ai.Dg} {z : Nat} {d : Ai.Dg} {v : Value} (h : Mid w W P g S cv wv EC EW CM WN z d v) : PushC w W g S cv wv CM WN d.src d.dst v d := h.o.pushC h.row h.fv
theorem Mid.pushW {w W : World} {P : Nat → Prop} {g : Nat} {S : Ai.St} {cv wv : Value} {EC EW : List Raw} {CM WN : List Ai.Dg} {z : Nat} {d : Ai.Dg} {v : Value} (h : Mid w W P g S cv wv EC EW CM WN z d v) : PushC w W g S wv cv WN CM d.src d.dst v d := h.o.swap.pushC h.row (h.fv.mono (fun b hb => ⟨hb.1, hb.2.2, hb.2.1⟩))
theorem wpList_push19 {w W : World} {g : Nat} {S : Ai.St} {cv wv : Value} {CM WN : List Ai.Dg} {x y : Int} {u : Value} {d : Ai.Dg} {ops : Array Oper} {rest : List Oper} {o : Oper} {a : Act} {Q : Exit → Act → World → Prop} (hgd : o.guard = none) (s t : Operand)
    (ho : o.op = .call { callee := .builtin .append, args := #[s, t], argTypes := #[50, 50] }) (h : PushC w W g S cv wv CM WN x y u d) (hn : CM.length ≤ 1000) (hs : a.eval s = cv) (hx : a.eval t = .slice (some ⟨W.heap.size, 0, none⟩) 1 1)
    (hK : ∀ g2 c2 W2, Hid (Once w W2 g S (.slice (some ⟨g2, 0, none⟩) (CM.length + 1) c2) wv (CM ++ [d]) WN) → wpList Try.prog ops Q rest (a.put o.dst (.slice (some ⟨g2, 0, none⟩) (CM.length + 1) c2)) W2) :
    wpList Try.prog ops Q (o :: rest) a (W.alloc (.cells #[.int .i64 x, .int .i64 y, u] 35)) := by
  obtain ⟨i0, hi0, hz0, hz1, hz2⟩ := info_parts infoD
  obtain ⟨xs, A, c, rfl, how, hone, hp⟩ := h
  exact wpList_append_lies _ hgd s t _ ho 0 35 i0 _ 3 40 Try.underlying50 hi0 hz0 hz1 hz2 rfl (by omega) _ _ _ hs (how.alloc _) ⟨W.heap.size, 0, none⟩ 1 1 [.int .i64 x, .int .i64 y, u] hx rfl (World.news_of_block (cs := #[.int .i64 x, .int .i64 y, u]) (t := 35) (fr := (0, 0)) (heap_alloc_new W _)) (by simp [Value.oneCell']; exact hone) (by omega) (by unfold maxLen; omega) (by omega) (Nat.zero_le _) (W.heap.size + 1) (by simp) (fun g2 c2 W2 own gr at2 _ => hK g2 c2 W2 (hp g2 c2 W2 own gr at2))
end Go.Proofs.Ytjjnbpbbjaabeaa
