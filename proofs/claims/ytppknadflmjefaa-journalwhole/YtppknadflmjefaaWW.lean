/- Layer 15: what the rounds of JournalWhole keep. -/
import Derived.Test.YtppknadflmjefaaWV
namespace Go.Proofs.Ytppknadflmjefaa
open Go.RowKit Go.Deep Go.Maps
set_option linter.unusedVariables false
set_option linter.unusedSimpArgs false

def Jl.fus (S : Dsk) (x : Int) : Dsk := { S with fuse := x }
theorem Jl.Inv.fuse {J : Jl.Jn} {S : Dsk} (h : Jl.Inv J S) (x : Int) : Jl.Inv J (Jl.fus S x) := h.congr ⟨h.calm.alive, h.calm.none, h.calm.lb, h.calm.n1⟩ rfl (fun _ _ _ => rfl) (fun _ _ => rfl)
/-- what a round finds, and leaves -/
structure WhI (w wr : World) (g lb gm i : Nat) (S : Dsk) (J : Jl.Jn) (gj : Nat) (R : Nat → Prop) (v : Value) : Prop where
  d : DiskAt wr g lb gm S
  j : JrAt wr w.heap.size gj g R v J
  sep : ∀ b, R b → ¬ dIn g lb gm b
  inv : Jl.Inv J S
  r0 : J.r0 = 2
  rc : J.rc = 16
  n : J.h.n ≤ i
  sn : S.n = 20
  out : ∀ q, q < 128 → S.last q = 0
  bw : Bw w wr
theorem WhI.keep {w wr W : World} {g lb gm i : Nat} {S : Dsk} {J : Jl.Jn} {gj : Nat} {R : Nat → Prop} {v : Value} (h : WhI w wr g lb gm i S J gj R v) (k : Bw wr W) : WhI w W g lb gm i S J gj R v := ⟨h.d.keep k, h.j.keep k, h.sep, h.inv, h.r0, h.rc, h.n, h.sn, h.out, h.bw.trans k⟩
theorem WhI.fuse {w wr W : World} {g lb gm i : Nat} {S : Dsk} {J : Jl.Jn} {gj : Nat} {R : Nat → Prop} {v : Value} (h : WhI w wr g lb gm i S J gj R v) (hge : ∀ b, dIn g lb gm b → w.heap.size ≤ b) (x : Int) (hd : DiskAt W g lb gm (Jl.fus S x)) (k : Bx (· = g) wr W) : WhI w W g lb gm i (Jl.fus S x) J gj R v := by
  have k' : Bx (dIn g lb gm) wr W := k.more (fun b e => .inl e)
  exact ⟨hd, h.j.keepd h.d h.sep k', h.sep, h.inv.fuse x, h.r0, h.rc, h.n, h.sn, h.out, Below.trans h.bw (k'.below h.bw.size hge)⟩
theorem WhI.mat {w wr W : World} {g lb gm i : Nat} {S : Dsk} {J : Jl.Jn} {gj : Nat} {R : Nat → Prop} {v : Value} (h : WhI w wr g lb gm i S J gj R v) (k : Bx (fun b => dIn g lb gm b ∨ jIn gj v b) wr W) {A : Option Addr} {n : Nat} {us : List Value} {L : List (List Nat)} (hM : MatV wr A n us L) (hA : ∀ b, ArgIn A n us b → ¬ (dIn g lb gm b ∨ jIn gj v b)) : MatV W A n us L :=
  hM.keepx k (fun b o e h0 => hA b (.inl ⟨o, e, h0⟩)) (fun u hu b o m c e h0 => hA b (.inr ⟨u, hu, o, m, c, e, h0⟩))
/-- a step done -/
theorem WhI.done {w wr W : World} {g lb gm i : Nat} {S : Dsk} {J : Jl.Jn} {gj : Nat} {R : Nat → Prop} {v v' : Value} {x : Ac15} (h : WhI w wr g lb gm i S J gj R v) (hi : i < 100) (hge : ∀ b, dIn g lb gm b → w.heap.size ≤ b) (hxb : ∀ r ∈ x.recs, Jl.Byt r)
    (hd : DiskAt W g lb gm (stepP x J S).2.1) (hj : JrAt W w.heap.size gj g (fun b => R b ∨ wr.heap.size ≤ b) v' (stepP x J S).2.2) (k : Bx (fun b => dIn g lb gm b ∨ jIn gj v b) wr W) :
    ((stepP x J S).1 = 0 ∧ WhI w W g lb gm (i + 1) (stepP x J S).2.1 (stepP x J S).2.2 gj (fun b => R b ∨ wr.heap.size ≤ b) v' ∧ (stepP x J S).2.2.L = stepL x J) ∨
    (((stepP x J S).1 = 2 ∨ (stepP x J S).1 = 3) ∧ WhI w W g lb gm (i + 1) (stepP x J S).2.1 (stepP x J S).2.2 gj (fun b => R b ∨ wr.heap.size ≤ b) v' ∧ (stepP x J S).2.2.L = J.L) ∨
    ((stepP x J S).1 = 140 ∧ ∀ K m, ∃ J', Jl.Inv J' ((stepP x J S).2.1.again K m) ∧ (J'.L = J.L ∨ J'.L = stepL x J) ∧ J'.r0 = 2 ∧ J'.rc = 16 ∧ J'.h.n ≤ i + 1 ∧ ((stepP x J S).2.1.again K m).n = 20 ∧ ∀ q, q < 128 → ((stepP x J S).2.1.again K m).last q = 0) := by
  have hbw : Bw w W := Below.trans h.bw (k.below h.bw.size (fun b hb => hb.elim (hge b) (h.j.jge b)))
  have hsep : ∀ b, (R b ∨ wr.heap.size ≤ b) → ¬ dIn g lb gm b := fun b hb hi => by
    rcases hb with hb | hb
    · exact h.sep b hb hi
    · have := h.d.low b hi; omega
  have ha : Jl.AddEnds J S (stepL x J) (stepP x J S) := by
    unfold stepL stepP
    by_cases hdo : x.do_ = 1
    · rw [if_pos hdo, if_pos hdo]; exact Jl.rew_inv h.inv (by have := h.n; omega) hxb
    · rw [if_neg hdo, if_neg hdo]; exact Jl.add_inv h.inv (by have := h.n; omega) hxb
  have ho : ∀ q, q < 128 → Jl.Outs J q := fun q hq => .inl (by rw [h.r0]; omega)
  rcases ha with ⟨h1, h2, h3, h4, h5, h6, h7, h8, h9⟩ | ⟨h1, h2, h3⟩ | ⟨h1, h2, h3, h4⟩
  · exact .inl ⟨h1, ⟨hd, hj, hsep, h2, h4.trans h.r0, h5.trans h.rc, by have := h.n; omega, h8.trans h.sn, fun q hq => (h9 q (ho q hq)).trans (h.out q hq), hbw⟩, h3⟩
  · refine .inr (.inl ⟨h1, ⟨hd, hj, hsep, by rw [h2, h3]; exact h.inv, by rw [h3]; exact h.r0, by rw [h3]; exact h.rc, by rw [h3]; have := h.n; omega, by rw [h2]; exact h.sn, by rw [h2]; exact h.out, hbw⟩, by rw [h3]⟩)
  · refine .inr (.inr ⟨h1, fun K m => ?_⟩)
    obtain ⟨J', k1, k2, k3, k4, k5, k6⟩ := h4 K m
    exact ⟨J', k1, k2, k3.trans h.r0, k4.trans h.rc, by have := h.n; omega, h3.trans h.sn, fun q hq => (k6 q (ho q hq)).trans (h.out q hq)⟩
theorem WhI.okay {w wr W : World} {g lb gm i : Nat} {S : Dsk} {J : Jl.Jn} {gj : Nat} {R : Nat → Prop} {v v' : Value} {x : Ac15} (h : WhI w wr g lb gm i S J gj R v) (hi : i < 100) (hge : ∀ b, dIn g lb gm b → w.heap.size ≤ b) (hxb : ∀ r ∈ x.recs, Jl.Byt r)
    (hd : DiskAt W g lb gm (stepP x J S).2.1) (hj : JrAt W w.heap.size gj g (fun b => R b ∨ wr.heap.size ≤ b) v' (stepP x J S).2.2) (k : Bx (fun b => dIn g lb gm b ∨ jIn gj v b) wr W) (e : (stepP x J S).1 = 0) :
    WhI w W g lb gm (i + 1) (stepP x J S).2.1 (stepP x J S).2.2 gj (fun b => R b ∨ wr.heap.size ≤ b) v' ∧ (stepP x J S).2.2.L = stepL x J := by
  rcases h.done hi hge hxb hd hj k with hD | hD | hD
  · exact hD.2
  · have := hD.1; omega
  · have := hD.1; omega
theorem WhI.refused {w wr W : World} {g lb gm i : Nat} {S : Dsk} {J : Jl.Jn} {gj : Nat} {R : Nat → Prop} {v v' : Value} {x : Ac15} (h : WhI w wr g lb gm i S J gj R v) (hi : i < 100) (hge : ∀ b, dIn g lb gm b → w.heap.size ≤ b) (hxb : ∀ r ∈ x.recs, Jl.Byt r)
    (hd : DiskAt W g lb gm (stepP x J S).2.1) (hj : JrAt W w.heap.size gj g (fun b => R b ∨ wr.heap.size ≤ b) v' (stepP x J S).2.2) (k : Bx (fun b => dIn g lb gm b ∨ jIn gj v b) wr W) (e : (stepP x J S).1 = 2 ∨ (stepP x J S).1 = 3) :
    WhI w W g lb gm (i + 1) (stepP x J S).2.1 (stepP x J S).2.2 gj (fun b => R b ∨ wr.heap.size ≤ b) v' ∧ (stepP x J S).2.2.L = J.L := by
  rcases h.done hi hge hxb hd hj k with hD | hD | hD
  · have := hD.1; omega
  · exact hD.2
  · have := hD.1; omega
theorem WhI.ints {w wr W : World} {g lb gm i : Nat} {S : Dsk} {J : Jl.Jn} {gj : Nat} {R : Nat → Prop} {v : Value} {x : Ac15} (h : WhI w wr g lb gm i S J gj R v) (hge : ∀ b, dIn g lb gm b → w.heap.size ≤ b) (hx : AcIn15 w x) (k : Bx (fun b => dIn g lb gm b ∨ jIn gj v b) wr W) : IntsAt W x.F x.m x.K ∧ ∀ b o, x.F = some ⟨b, o, none⟩ → 0 < x.m → ¬ dIn g lb gm b := by
  have hin := (hx.keep h.bw).ints
  have hlow : ∀ b o, x.F = some ⟨b, o, none⟩ → 0 < x.m → b < w.heap.size := fun b o e h0 => by
    have h2 := hx.ints.row
    obtain ⟨b', o', e', hc'⟩ := h2.at h0
    rw [e] at e'
    cases e'
    exact block_lt_of_cell hc'
  refine ⟨hin.row.keepx k (fun b o e h0 hb => ?_), fun b o e h0 hb => ?_⟩
  · have := hlow b o e h0
    rcases hb with hb | hb
    · have := hge b hb; omega
    · have := h.j.jge b hb; omega
  · have := hlow b o e h0; have := hge b hb; omega
theorem WhI.cut {w wr W W7 : World} {g lb gm i : Nat} {S : Dsk} {J : Jl.Jn} {gj : Nat} {R : Nat → Prop} {v v' : Value} {x : Ac15} (h : WhI w wr g lb gm i S J gj R v) (hi : i < 100) (hge : ∀ b, dIn g lb gm b → w.heap.size ≤ b) (hxb : ∀ r ∈ x.recs, Jl.Byt r)
    (hd : DiskAt W g lb gm (stepP x J S).2.1) (hj : JrAt W w.heap.size gj g (fun b => R b ∨ wr.heap.size ≤ b) v' (stepP x J S).2.2) (k : Bx (fun b => dIn g lb gm b ∨ jIn gj v b) wr W) (e : (stepP x J S).1 = 140) (k7 : Bx (dIn g lb gm) W W7)
    {A4 A6 : Option Addr} {n4 n6 : Nat} {us4 us6 : List Value} (h4 : MatV W A4 n4 us4 J.L) (a4 : ∀ b, ArgIn A4 n4 us4 b → ¬ (dIn g lb gm b ∨ jIn gj v b)) (h6 : MatV W A6 n6 us6 (stepL x J)) (a6 : ∀ b, ArgIn A6 n6 us6 b → b < w.heap.size ∨ wr.heap.size ≤ b) (K : Nat → Int) (m : Nat) :
    Bw w W7 ∧ MatV W7 A4 n4 us4 J.L ∧ MatV W7 A6 n6 us6 (stepL x J) ∧ ∃ J', Jl.Inv J' ((stepP x J S).2.1.again K m) ∧ (J'.L = J.L ∨ J'.L = stepL x J) ∧ J'.r0 = 2 ∧ J'.rc = 16 ∧ J'.h.n ≤ i + 1 ∧ ((stepP x J S).2.1.again K m).n = 20 ∧ ∀ q, q < 128 → ((stepP x J S).2.1.again K m).last q = 0 := by
  have hbw : Bw w W := Below.trans h.bw (k.below h.bw.size (fun b hb => hb.elim (hge b) (h.j.jge b)))
  have a6' : ∀ b, ArgIn A6 n6 us6 b → ¬ dIn g lb gm b := fun b hb hi => by
    have h1 := hge b hi
    have h2 := h.d.low b hi
    rcases a6 b hb with h3 | h3 <;> omega
  refine ⟨Below.trans hbw (k7.below hbw.size hge), h4.keepx k7 (fun b o e h0 hb => a4 b (.inl ⟨o, e, h0⟩) (.inl hb)) (fun u hu b o m c e h0 hb => a4 b (.inr ⟨u, hu, o, m, c, e, h0⟩) (.inl hb)), h6.keepx k7 (fun b o e h0 => a6' b (.inl ⟨o, e, h0⟩)) (fun u hu b o m c e h0 => a6' b (.inr ⟨u, hu, o, m, c, e, h0⟩)), ?_⟩
  rcases h.done hi hge hxb hd hj k with hD | hD | hD
  · have := hD.1; omega
  · have := hD.1; omega
  · exact hD.2 K m
theorem WhI.was {w wr W : World} {g lb gm i : Nat} {S : Dsk} {J : Jl.Jn} {gj : Nat} {R : Nat → Prop} {v : Value} (h : WhI w wr g lb gm i S J gj R v) {n g4 : Nat} {us : List Value} (ho : W.ownsRow wr.heap.size 37 1 (.slice (some ⟨g4, 0, none⟩) n n) n us) (hi : RIn (fun b => wr.heap.size ≤ b) us) : ∀ b, ArgIn (some ⟨g4, 0, none⟩) n us b → ¬ (dIn g lb gm b ∨ jIn gj v b) := fun b hb hc => by
  have h1 : wr.heap.size ≤ b := by
    rcases hb with ⟨o, e, _⟩ | ⟨u, hu, o, m, c, e, h0⟩
    · cases e; exact own_ge ho _ rfl
    · exact hi u hu b o m c e h0
  rcases hc with hc | hc
  · have := h.d.low b hc; omega
  · have := h.j.jlow b hc; omega
theorem step_case {J : Jl.Jn} {S : Dsk} {x : Ac15} (h : Jl.Inv J S) (hn : J.h.n + 1 < 1000000) (hxb : ∀ r ∈ x.recs, Jl.Byt r) : (stepP x J S).1 = 0 ∨ ((stepP x J S).1 = 2 ∨ (stepP x J S).1 = 3) ∨ (stepP x J S).1 = 140 := by
  have ha : Jl.AddEnds J S (stepL x J) (stepP x J S) := by
    unfold stepL stepP
    by_cases hdo : x.do_ = 1
    · rw [if_pos hdo, if_pos hdo]; exact Jl.rew_inv h hn hxb
    · rw [if_neg hdo, if_neg hdo]; exact Jl.add_inv h hn hxb
  rcases ha with ha | ha | ha
  · exact .inl ha.1
  · exact .inr (.inl ha.1)
  · exact .inr (.inr ha.1)
theorem recs_byt {w : World} {x : Ac15} (h : AcIn15 w x) : ∀ r ∈ x.recs, Jl.Byt r := h.mat.matV.rows.byt
end Go.Proofs.Ytppknadflmjefaa
