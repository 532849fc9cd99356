/- Layer 19: both airs tell the same (written by mkve2.py out of ve2.base). -/
import Derived.Test.YtjjnbpbbjaabeaaUd2
namespace Go.Proofs.Ytjjnbpbbjaabeaa
open Go.RowKit Go.Deep
set_option linter.unusedVariables false
set_option linter.unusedSimpArgs false

theorem same_self {W : World} {D : Ai.Dg} {v u : Value} (h1 : RowV W v D.b) (h2 : RowV W u D.b) : Calls Try.prog 17 #[.agg #[.int .i64 D.src, .int .i64 D.dst, v], .agg #[.int .i64 D.src, .int .i64 D.dst, u]] W fun x w' => x = .returned (.bool true) ∧ Bw W w' := by
  have h3 := same19_any D D h1 h2
  have h4 : Ai.eqb D D = true := by unfold Ai.eqb; rw [decide_eq_true rfl, decide_eq_true rfl, decide_eq_true rfl]; rfl
  rw [h4] at h3
  exact h3
/-- what At answers, boxed -/
structure BoxF (W X : World) (D : Ai.Dg) (z : Nat) (v : Value) : Prop where
  bw : Bw W X
  box : DgAt X z D.src D.dst v
  row : RowF X v D.b
  new : VIn (fun b => W.heap.size ≤ b) v
  znew : W.heap.size ≤ z
  apart : VIn (fun b => b ≠ z) v
theorem at_boxF {w W : World} {P : Nat → Prop} {g : Nat} {S : Ai.St} (h : AirAt w P g S) (k : Bw w W) (i : Int) :
    Calls Try.prog 13 #[.pointer (some ⟨g, 0, none⟩), .int .i64 i] W fun e w' => ∃ v z W2 X, e = .returned (.tuple #[.agg #[.int .i64 (S.giv i).src, .int .i64 (S.giv i).dst, v], .bool (S.has i)]) ∧ Hid (Kept w' (S.giv i) v z W2 X) ∧ Hid (BoxF W X (S.giv i) z v) := by
  refine (at_own (h.keep k) i).mono ?_
  rintro e w' ⟨⟨v, rfl, hr, hv⟩, hb⟩
  obtain ⟨z, W2, X, q1, q2, q3, q4, q5, q6, q7⟩ := dg_box w' (S.giv i).src (S.giv i).dst (dg_oneCell hr.1)
  have hs := hb.size
  have h1 := q1.out
  exact ⟨v, z, W2, X, rfl, ⟨q1, q2, q3, q4, q5⟩, ⟨hb.trans q7.out, q6.out, hr.keep q7.out, hv, by omega, fun b o n c e h0 => by have := hr.1.low b o n c e h0; omega⟩⟩
structure BoxR (w W X : World) (D : Ai.Dg) (z : Nat) (v : Value) : Prop where
  bw : Bw W X
  box : DgAt X z D.src D.dst v
  row : RowV X v D.b
  old : VIn (fun b => b < w.heap.size) v
  znew : W.heap.size ≤ z
theorem rat_box {w W : World} {R : Nat → Prop} {g : Nat} {S : Ai.St} (h : RefAt w R g S) (k : Bw w W) (i : Int) :
    Calls Try.prog 31 #[.pointer (some ⟨g, 0, none⟩), .int .i64 i] W fun e w' => ∃ v z W2 X, e = .returned (.tuple #[.agg #[.int .i64 (S.giv i).src, .int .i64 (S.giv i).dst, v], .bool (S.has i)]) ∧ Hid (Kept w' (S.giv i) v z W2 X) ∧ Hid (BoxR w W X (S.giv i) z v) := by
  refine (rat_at (h.keep k) i).mono ?_
  rintro e w' ⟨⟨v, rfl, hr, hv⟩, hb⟩
  obtain ⟨z, W2, X, q1, q2, q3, q4, q5, q6, q7⟩ := dg_box w' (S.giv i).src (S.giv i).dst (dg_oneCell hr)
  have hs := hb.size
  have h1 := q1.out
  exact ⟨v, z, W2, X, rfl, ⟨q1, q2, q3, q4, q5⟩, ⟨hb.trans q7.out, q6.out, hr.keep q7.out, hv.mono (fun b hb => h.low b hb), by omega⟩⟩
/-- while the first answer's bytes are written over -/
structure SameI (w wr : World) (D : Ai.Dg) (z8 z9 g2 : Nat) (v8 v9 : Value) : Prop where
  bw : Bw w wr
  d : DgAt wr z8 D.src D.dst v8
  c : DgAt wr z9 D.src D.dst v9
  row : RowV wr v9 D.b
  own : 0 < D.b.length → ∃ f', Own wr g2 D.b.length f'
  old : VIn (fun b => b < w.heap.size) v9
  n0 : 0 < D.b.length → w.heap.size ≤ g2 ∧ g2 ≠ z8 ∧ g2 ≠ z9
theorem SameI.start {w W X8 X9 : World} {D : Ai.Dg} {z8 z9 : Nat} {v8 v9 : Value} (k : Bw w W) (h8 : BoxF W X8 D z8 v8) (h9 : BoxR w X8 X9 D z9 v9) : ∃ A g2 c, v8 = .slice A D.b.length c ∧ D.b.length ≤ 140737488355328 ∧ (0 < D.b.length → A = some ⟨g2, 0, none⟩) ∧ SameI w X9 D z8 z9 g2 v8 v9 := by
  obtain ⟨A, c, e, h1, h2, ⟨h3, -⟩, h4⟩ := id h8.row.1
  have hz8 : z8 < X8.heap.size := (Array.getElem?_eq_some_iff.1 h8.box).1
  have hd := (h9.bw.block z8 hz8).trans h8.box
  by_cases h0 : 0 < D.b.length
  · obtain ⟨g2, c2, e2, ho⟩ := h8.row.2 h0
    rw [e] at e2
    cases e2
    have hl := ho.lt
    refine ⟨_, g2, c, e, h3, fun _ => rfl, ⟨(k.trans h8.bw).trans h9.bw, hd, h9.box, h9.row, fun _ => ⟨_, ho.keep h9.bw⟩, h9.old, fun _ => ⟨?_, ?_, ?_⟩⟩⟩
    · have := h8.new g2 0 _ _ e h0; have := k.size; omega
    · exact h8.apart g2 0 _ _ e h0
    · have := h9.znew; omega
  · exact ⟨A, 0, c, e, h3, fun h => absurd h h0, ⟨(k.trans h8.bw).trans h9.bw, hd, h9.box, h9.row, fun h => absurd h h0, h9.old, fun h => absurd h h0⟩⟩
theorem SameI.keep {w wr w' : World} {D : Ai.Dg} {z8 z9 g2 : Nat} {v8 v9 : Value} (h : SameI w wr D z8 z9 g2 v8 v9) (k : Bw wr w') : SameI w w' D z8 z9 g2 v8 v9 :=
  ⟨h.bw.trans k, (k.block z8 (Array.getElem?_eq_some_iff.1 h.d).1).trans h.d, (k.block z9 (Array.getElem?_eq_some_iff.1 h.c).1).trans h.c, h.row.keep k, fun h0 => (h.own h0).imp (fun _ ho => ho.keep k), h.old, h.n0⟩
theorem SameI.put {w wr : World} {D : Ai.Dg} {z8 z9 g2 q : Nat} {v8 v9 : Value} (h : SameI w wr D z8 z9 g2 v8 v9) (hq : q < D.b.length) (e : Int) : SameI w ((wr.setCell ⟨g2, q, none⟩ (.int .u8 e)).drew) D z8 z9 g2 v8 v9 := by
  have h0 : 0 < D.b.length := by omega
  obtain ⟨n1, n2, n3⟩ := h.n0 h0
  obtain ⟨f', ho⟩ := h.own h0
  have k : Bx (· = g2) wr ((wr.setCell ⟨g2, q, none⟩ (.int .u8 e)).drew) := ((Bx.refl (· = g2) wr).put (show g2 = g2 from rfl)).drew
  exact ⟨(Bw.put h.bw n1 _ _).drew, (k.block z8 (Array.getElem?_eq_some_iff.1 h.d).1 (fun e => n2 (show g2 = z8 from (show z8 = g2 from e).symm))).trans h.d, (k.block z9 (Array.getElem?_eq_some_iff.1 h.c).1 (fun e => n3 (show g2 = z9 from (show z9 = g2 from e).symm))).trans h.c, h.row.keepx k (fun b o n c e h0 e' => by have := h.old b o n c e h0; have e2 : b = g2 := e'; omega), fun _ => ⟨fun c => if c = q then e else f' c, (ho.set hq (if_pos rfl) (fun c _ hc => if_neg hc)).keep (Bw.refl _).drew⟩, h.old, fun _ => ⟨n1, n2, n3⟩⟩
set_option maxRecDepth 100000 in
set_option maxHeartbeats 16000000 in
theorem sameA_any {w : World} {P R : Nat → Prop} {ga gb : Nat} {S : Ai.St} (hA : AirAt w P ga S) (hB : RefAt w R gb S) (hL0 : S.L.length ≤ 1000000) (hm0 : S.m ≤ 1000000) :
    Calls Try.prog 12 #[.pointer (some ⟨ga, 0, none⟩), .pointer (some ⟨gb, 0, none⟩)] w fun e w' => e = .returned (.bool true) ∧ Bw w w' := by
  obtain ⟨L, hL⟩ : ∃ L, Hid (S.L.length = L) := ⟨_, rfl⟩
  have hLb : L ≤ 1000000 := by rw [← hL.out]; exact hL0
  have HCA : Hid (∀ W, Bw w W → Calls Try.prog 16 #[.pointer (some ⟨ga, 0, none⟩)] W fun e w' => e = .returned (.int .i64 (L : Int)) ∧ w' = W) := fun W k => by
    have h1 := count_at (hA.keep k)
    rw [hL.out] at h1
    exact h1
  have HCB : Hid (∀ W, Bw w W → Calls Try.prog 30 #[.pointer (some ⟨gb, 0, none⟩)] W fun e w' => e = .returned (.int .i64 (L : Int)) ∧ w' = W) := fun W k => by
    have h1 := rcount_at (hB.keep k)
    rw [hL.out] at h1
    exact h1
  have HA : Hid (AirAt w P ga S) := hA
  have HB : Hid (RefAt w R gb S) := hB
  have hm : Hid (S.m ≤ 1000000) := hm0
  clear hA hB hL0 hm0
  go_enter Try.func12, Try.ntmps12
  go_wp2_with (first
    | (go_at_call 16; refine (HCA.out _ (Bw.refl _)).mono ?_; rintro e w1 ⟨rfl, hw⟩; subst w1)
    | (go_at_call 30; refine (HCB.out _ (Bw.refl _)).mono ?_; rintro e w1 ⟨rfl, hw⟩; subst w1))
  go_loopw [5] (fun s5 wr => ∃ k : Nat, k ≤ L + 2 ∧ s5 = .int .i64 ((k : Int) - 1) ∧ Hid (Bw w wr)) (fun s5 _ => L + 2 - (intOf s5 + 1).toNat)
  case atStart => exact ⟨0, Nat.zero_le _, rfl, Bw.refl _⟩
  case round =>
    obtain ⟨k, hk, rfl, hb⟩ := hrel
    obtain ⟨i, hi⟩ : ∃ i : Int, Hid ((k : Int) - 1 = i) := ⟨_, rfl⟩
    have i0 : -1 ≤ i := by have := hi.out; omega
    have i9 : i ≤ (L : Int) + 1 := by have := hi.out; omega
    rw [hi.out]
    by_cases hlt : i ≤ (L : Int)
    · obtain ⟨D, hD⟩ : ∃ D, Hid (S.giv i = D) := ⟨_, rfl⟩
      obtain ⟨hv, hhv⟩ : ∃ x, Hid (S.has i = x) := ⟨_, rfl⟩
      have p4 : IntKind.i64.wrap (i + 1) = i + 1 := by rw [IntKind.wrap_i64]; omega
      have HX : Hid (∀ W, Bw w W → Calls Try.prog 13 #[.pointer (some ⟨ga, 0, none⟩), .int .i64 i] W fun e w' => ∃ v z W2 X, e = .returned (.tuple #[.agg #[.int .i64 D.src, .int .i64 D.dst, v], .bool hv]) ∧ Hid (Kept w' D v z W2 X) ∧ Hid (BoxF W X D z v)) := fun W k => by
        have h1 := at_boxF HA.out k i
        rw [hD.out, hhv.out] at h1
        exact h1
      have HY : Hid (∀ W, Bw w W → Calls Try.prog 31 #[.pointer (some ⟨gb, 0, none⟩), .int .i64 i] W fun e w' => ∃ v z W2 X, e = .returned (.tuple #[.agg #[.int .i64 D.src, .int .i64 D.dst, v], .bool hv]) ∧ Hid (Kept w' D v z W2 X) ∧ Hid (BoxR w W X D z v)) := fun W k => by
        have h1 := rat_box HB.out k i
        rw [hD.out, hhv.out] at h1
        exact h1
      go_wp2_with (first
        | (go_at_call 30; refine (HCB.out _ hb.out).mono ?_; rintro e w1 ⟨rfl, hw⟩; subst w1)
        | (go_at_call 13; refine (HX.out _ hb.out).mono ?_; rintro e w2 ⟨v8, z8, W8, X8, rfl, hK8, hB8⟩)
        | (rw [hK8.out.2.1.out, hK8.out.1.out]; refine wpList_store_row rfl 35 _ _ rfl z8 (dcs D.src D.dst v8) rfl rfl 35 _ hK8.out.2.2.1.out (dg_info _ _ _) rfl (dg_all _ _ hK8.out.2.2.2.2.out).out ?_; rw [hK8.out.2.2.2.1.out])
        | (go_at_call 31; refine (HY.out _ (hb.out.trans hB8.out.bw)).mono ?_; rintro e w3 ⟨v9, z9, W9, X9, rfl, hK9, hB9⟩)
        | (rw [hK9.out.2.1.out, hK9.out.1.out]; refine wpList_store_row rfl 35 _ _ rfl z9 (dcs D.src D.dst v9) rfl rfl 35 _ hK9.out.2.2.1.out (dg_info _ _ _) rfl (dg_all _ _ hK9.out.2.2.2.2.out).out ?_; rw [hK9.out.2.2.2.1.out]; obtain ⟨A, g2, c, ev, hlen, hA2, hI⟩ := SameI.start hb.out hB8.out hB9.out; have hIh : Hid (SameI w X9 D z8 z9 g2 v8 v9) := hI; have evh : Hid (v8 = .slice A D.b.length c ∧ D.b.length ≤ 140737488355328 ∧ (0 < D.b.length → A = some ⟨g2, 0, none⟩)) := (⟨ev, hlen, hA2⟩ : _ ∧ _); clear hI ev hlen hA2; have s0 : X9.cell? ⟨z8, 0, none⟩ = some (.int .i64 D.src) := cell_of_row X9 z8 0 _ _ _ hIh.out.d; have s1 : X9.cell? ⟨z8, 1, none⟩ = some (.int .i64 D.dst) := cell_of_row X9 z8 1 _ _ _ hIh.out.d; have s2 : X9.cell? ⟨z8, 2, none⟩ = some v8 := cell_of_row X9 z8 2 _ _ _ hIh.out.d; have r0 : X9.cell? ⟨z9, 0, none⟩ = some (.int .i64 D.src) := cell_of_row X9 z9 0 _ _ _ hIh.out.c; have r1 : X9.cell? ⟨z9, 1, none⟩ = some (.int .i64 D.dst) := cell_of_row X9 z9 1 _ _ _ hIh.out.c; have r2 : X9.cell? ⟨z9, 2, none⟩ = some v9 := cell_of_row X9 z9 2 _ _ _ hIh.out.c; have ho8 := hK8.out.2.2.2.2.out; have ho9 := hK9.out.2.2.2.2.out; have hr8 : Hid (RowV X9 v8 D.b) := hB8.out.row.1.keep hB9.out.bw)
        | (go_at_call 17; refine (same_self hr8.out hIh.out.row).mono ?_; rintro e w5 ⟨rfl, hb5⟩))
      have hlenH : Hid (D.b.length ≤ 140737488355328) := evh.out.2.1
      have hAH : Hid (0 < D.b.length → A = some ⟨g2, 0, none⟩) := evh.out.2.2
      have ev := evh.out.1
      clear evh s0 s1 s2 r0 r1 r2 ho8 ho9 hK8 hK9 hr8
      subst ev
      have hI5 : Hid (SameI w w5 D z8 z9 g2 (.slice A D.b.length c) v9) := hIh.out.keep hb5
      clear hIh hB8 hB9 hb5
      go_loopw [10] (fun s10 wr => ∃ q : Nat, q ≤ D.b.length ∧ s10 = .int .i64 (q : Int) ∧ Hid (SameI w wr D z8 z9 g2 (.slice A D.b.length c) v9)) (fun s10 _ => D.b.length - (intOf s10).toNat)
      case atStart => exact ⟨0, Nat.zero_le _, rfl, hI5⟩
      case round =>
        obtain ⟨wq, rfl⟩ : ∃ x, x = wr := ⟨_, rfl⟩
        obtain ⟨q, hq, rfl, hJ⟩ := hrel
        have q0 : (0 : Int) ≤ (q : Int) := Int.natCast_nonneg _
        have m2 : wq.cell? ⟨z8, 2, none⟩ = some (.slice A D.b.length c) := cell_of_row wq z8 2 _ _ _ hJ.out.d
        clear hI5
        by_cases hql : q < D.b.length
        · have q1 : (q : Int) < (D.b.length : Int) := by omega
          obtain rfl := hAH.out (by omega)
          obtain ⟨f', hof⟩ := hJ.out.own (by omega)
          obtain ⟨l1, l2⟩ := hof.cell hql
          have p5 : IntKind.i64.wrap ((q : Int) + 1) = (q : Int) + 1 := by have := hlenH.out; rw [IntKind.wrap_i64]; omega
          have hne : g2 ≠ z8 := (hJ.out.n0 (by omega)).2.1
          have d1 : wq.drew.cell? ⟨z8, 2, none⟩ = some (.slice (some ⟨g2, 0, none⟩) D.b.length c) := m2
          have z0 : wq.drew.cell? ⟨g2, q, none⟩ = some (.int .u8 (f' q)) := l1
          have z1 : wq.drew.frozen? ⟨g2, q, none⟩ = false := l2
          have hld : Hid (∀ e : Int, ((wq.setCell ⟨g2, q, none⟩ (.int .u8 e)).drew).cell? ⟨z8, 2, none⟩ = some (.slice (some ⟨g2, 0, none⟩) D.b.length c)) := fun e => (World.cell?_setCell_far _ _ _ _ hne).trans m2
          have hfin : Hid (∀ e : Int, SameI w ((wq.setCell ⟨g2, q, none⟩ (.int .u8 e)).drew) D z8 z9 g2 (.slice (some ⟨g2, 0, none⟩) D.b.length c) v9) := fun e => hJ.out.put hql e
          clear hof hJ HX HY
          go_upto_region 13 with fail
          refine wp_region_held_drew (S := fun w' => w'.cell? ⟨z8, 2, none⟩ = some (.slice (some ⟨g2, 0, none⟩) D.b.length c)) (by kernel_rfl) (d1) (fun hHeld => ?_)
          refine wpAnyH_take (i := 0) (v := ?_) rfl (by kernel_rfl) (by kernel_rfl) (by kernel_rfl) (fun _ _ _ h => h) (Or.inl ⟨by rfl, ?_⟩) (by assumption) ?_
          rotate_left
          · intro w hSw; (try dsimp only at hSw); go_simp; all_goals (with_reducible rfl)
          try simp only [Act.put, List.setIfInBounds_toArray, List.set_cons_zero, List.set_cons_succ, List.getElem_toArray, List.getElem_cons_succ, List.getElem_cons_zero]
          refine wpAnyH_take (i := 1) (v := ?_) rfl (by kernel_rfl) (by kernel_rfl) (by kernel_rfl) (fun _ _ _ h => h) (Or.inl ⟨by rfl, ?_⟩) (by assumption) ?_
          rotate_left
          · intro w hSw; (try dsimp only at hSw); go_simp; all_goals (with_reducible rfl)
          try simp only [Act.put, List.setIfInBounds_toArray, List.set_cons_zero, List.set_cons_succ, List.getElem_toArray, List.getElem_cons_succ, List.getElem_cons_zero]
          refine wpAnyH_take (i := 2) (v := ?_) rfl (by kernel_rfl) (by kernel_rfl) (by kernel_rfl) (fun _ _ _ h => h) (Or.inl ⟨by rfl, ?_⟩) (by assumption) ?_
          rotate_left
          · intro w hSw; (try dsimp only at hSw); go_simp; all_goals (with_reducible rfl)
          try simp only [Act.put, List.setIfInBounds_toArray, List.set_cons_zero, List.set_cons_succ, List.getElem_toArray, List.getElem_cons_succ, List.getElem_cons_zero]
          refine wpAnyH_take (i := 3) (v := ?_) rfl (by kernel_rfl) (by kernel_rfl) (by kernel_rfl) (fun _ _ _ h => h) (Or.inl ⟨by rfl, ?_⟩) (by assumption) ?_
          rotate_left
          · intro w hSw; (try dsimp only at hSw); go_simp; all_goals (with_reducible rfl)
          try simp only [Act.put, List.setIfInBounds_toArray, List.set_cons_zero, List.set_cons_succ, List.getElem_toArray, List.getElem_cons_succ, List.getElem_cons_zero]
          refine wpAnyH_take (i := 4) (v := ?_) rfl (by kernel_rfl) (by kernel_rfl) (by kernel_rfl) (fun _ _ _ h => h) (Or.inl ⟨by rfl, ?_⟩) (by assumption) ?_
          rotate_left
          · intro w hSw; (try dsimp only at hSw); go_simp; all_goals (with_reducible rfl)
          try simp only [Act.put, List.setIfInBounds_toArray, List.set_cons_zero, List.set_cons_succ, List.getElem_toArray, List.getElem_cons_succ, List.getElem_cons_zero]
          refine wpAnyH_take (i := 5) (v := ?_) rfl (by kernel_rfl) (by kernel_rfl) (by kernel_rfl) (fun _ _ _ h => h) (Or.inl ⟨by rfl, ?_⟩) (by assumption) ?_
          rotate_left
          · intro w hSw; (try dsimp only at hSw); go_simp; all_goals (with_reducible rfl)
          try simp only [Act.put, List.setIfInBounds_toArray, List.set_cons_zero, List.set_cons_succ, List.getElem_toArray, List.getElem_cons_succ, List.getElem_cons_zero]
          refine wpAnyH_take (i := 6) (v := ?_) rfl (by kernel_rfl) (by kernel_rfl) (by kernel_rfl) (fun _ _ _ h => h) (Or.inl ⟨by rfl, ?_⟩) (by assumption) ?_
          rotate_left
          · intro w hSw; (try dsimp only at hSw); go_simp; all_goals (with_reducible rfl)
          try simp only [Act.put, List.setIfInBounds_toArray, List.set_cons_zero, List.set_cons_succ, List.getElem_toArray, List.getElem_cons_succ, List.getElem_cons_zero]
          refine wpAnyH_ready (rs := [7]) (by kernel_rfl) (by simp) ?_
          refine AllReadyH.cons rfl (fun K hK => ?_) AllReadyH.nil
          go_simp
          refine hK.out _ _ (d1) (fun hHeld => ?_)
          clear hK K
          try simp only [Act.put, List.setIfInBounds_toArray, List.set_cons_zero, List.set_cons_succ, List.getElem_toArray, List.getElem_cons_succ, List.getElem_cons_zero]
          refine wpAnyH_take (i := 8) (v := ?_) rfl (by kernel_rfl) (by kernel_rfl) (by kernel_rfl) (fun _ _ _ h => h) (Or.inl ⟨by rfl, ?_⟩) (by assumption) ?_
          rotate_left
          · intro w hSw; (try dsimp only at hSw); go_simp; all_goals (with_reducible rfl)
          try simp only [Act.put, List.setIfInBounds_toArray, List.set_cons_zero, List.set_cons_succ, List.getElem_toArray, List.getElem_cons_succ, List.getElem_cons_zero]
          refine wpAnyH_take (i := 9) (v := ?_) rfl (by kernel_rfl) (by kernel_rfl) (by kernel_rfl) (fun _ _ _ h => h) (Or.inl ⟨by rfl, ?_⟩) (by assumption) ?_
          rotate_left
          · intro w hSw; (try dsimp only at hSw); go_simp; all_goals (with_reducible rfl)
          try simp only [Act.put, List.setIfInBounds_toArray, List.set_cons_zero, List.set_cons_succ, List.getElem_toArray, List.getElem_cons_succ, List.getElem_cons_zero]
          refine wpAnyH_ready (rs := [10]) (by kernel_rfl) (by simp) ?_
          refine AllReadyH.cons rfl (fun K hK => ?_) AllReadyH.nil
          go_simp
          refine hK.out _ _ (hld.out _) (fun hHeld => ?_)
          clear hK K
          try simp only [Act.put, List.setIfInBounds_toArray, List.set_cons_zero, List.set_cons_succ, List.getElem_toArray, List.getElem_cons_succ, List.getElem_cons_zero]
          refine wpAnyH_done (by kernel_rfl) ?_ _
          go_wp2
          go_roundw
          case rel => exact ⟨q + 1, by omega, by go_num, hfin.out _⟩
          case measure => simp [intOf]; omega
        · have q1 : ¬ (q : Int) < (D.b.length : Int) := by omega
          clear hlenH hAH
          go_wp2_with (first
            | (go_at_call 13; refine (HX.out _ hJ.out.bw).mono ?_; rintro e w6 ⟨v7, z7, W7, X7, rfl, hK7, hB7⟩)
            | (rw [hK7.out.2.1.out, hK7.out.1.out]; refine wpList_store_row rfl 35 _ _ rfl z7 (dcs D.src D.dst v7) rfl rfl 35 _ hK7.out.2.2.1.out (dg_info _ _ _) rfl (dg_all _ _ hK7.out.2.2.2.2.out).out ?_; rw [hK7.out.2.2.2.1.out]; have hc7 : Hid (DgAt X7 z9 D.src D.dst v9 ∧ RowV X7 v9 D.b) := (⟨(hB7.out.bw.block z9 (Array.getElem?_eq_some_iff.1 hJ.out.c).1).trans hJ.out.c, hJ.out.row.keep hB7.out.bw⟩ : _ ∧ _); have s0 : X7.cell? ⟨z7, 0, none⟩ = some (.int .i64 D.src) := cell_of_row X7 z7 0 _ _ _ hB7.out.box; have s1 : X7.cell? ⟨z7, 1, none⟩ = some (.int .i64 D.dst) := cell_of_row X7 z7 1 _ _ _ hB7.out.box; have s2 : X7.cell? ⟨z7, 2, none⟩ = some v7 := cell_of_row X7 z7 2 _ _ _ hB7.out.box; have r0 : X7.cell? ⟨z9, 0, none⟩ = some (.int .i64 D.src) := cell_of_row X7 z9 0 _ _ _ hc7.out.1; have r1 : X7.cell? ⟨z9, 1, none⟩ = some (.int .i64 D.dst) := cell_of_row X7 z9 1 _ _ _ hc7.out.1; have r2 : X7.cell? ⟨z9, 2, none⟩ = some v9 := cell_of_row X7 z9 2 _ _ _ hc7.out.1; have ho7 := hK7.out.2.2.2.2.out; have ho9 := dg_oneCell hc7.out.2)
            | (go_at_call 17; refine (same_self hB7.out.row.1 hc7.out.2).mono ?_; rintro e w8 ⟨rfl, hb8⟩))
          go_roundw
          case rel => exact ⟨k + 1, by have := hi.out; omega, by have := hi.out; (try rw [p4]); first | (congr 1; omega) | (simp; omega), hJ.out.bw.trans (hB7.out.bw.trans hb8)⟩
          case measure => have := hi.out; (try rw [p4]); simp [intOf]; omega
    · skip
      have HN : Hid (∀ W, Bw w W → W.cell? ⟨gb, 0, none⟩ = some (.int .i64 (S.n : Int))) := fun W kw => by
        obtain ⟨lv, ov, E, Z, h1, _⟩ := HB.out.keep kw
        exact cell_of_row W gb 0 _ _ _ h1.cells
      have HIA : Hid (∀ W p q, Bw w W → -1 ≤ p → p ≤ 9 → -1 ≤ q → q ≤ 9 → Calls Try.prog 22 #[.pointer (some ⟨ga, 0, none⟩), .int .i64 p, .int .i64 q] W fun e w' => e = .returned (.bool (S.cut p q)) ∧ Bw W w') := fun W p q kw h1 h2 h3 h4 => is_at (HA.out.keep kw) (by unfold In64; omega) (by unfold In64; omega)
      have HIB : Hid (∀ W p q, Bw w W → Calls Try.prog 32 #[.pointer (some ⟨gb, 0, none⟩), .int .i64 p, .int .i64 q] W fun e w' => e = .returned (.bool (S.cut p q)) ∧ w' = W) := fun W p q kw => ris_at (HB.out.keep kw) hm.out p q
      go_wp2_with (go_at_call 30; refine (HCB.out _ hb.out).mono ?_; rintro e w1 ⟨rfl, hw⟩; subst w1)
      clear HCA HCB hlt i0 i9 hi hk
      go_loopw [13] (fun s13 wr => ∃ a : Nat, a ≤ 7 ∧ s13 = .int .i64 ((a : Int) - 1) ∧ Hid (Bw w wr)) (fun s13 _ => 7 - (intOf s13 + 1).toNat)
      case atStart => exact ⟨0, Nat.zero_le _, rfl, hb⟩
      case round =>
        clear hb
        obtain ⟨wq, rfl⟩ : ∃ x, x = wr := ⟨_, rfl⟩
        obtain ⟨a, ha, rfl, hb⟩ := hrel
        obtain ⟨p, hp⟩ : ∃ p : Int, Hid ((a : Int) - 1 = p) := ⟨_, rfl⟩
        have p0 : -1 ≤ p := by have := hp.out; omega
        have p9 : p ≤ 6 := by have := hp.out; omega
        rw [hp.out]
        have n1 := HN.out _ hb.out
        by_cases hpn : p ≤ (S.n : Int)
        · by_cases hp6 : p < 6
          · have p4 : IntKind.i64.wrap (p + 1) = p + 1 := by rw [IntKind.wrap_i64]; omega
            go_wp2
            go_loopw [14] (fun s14 wr => ∃ a2 : Nat, a2 ≤ 7 ∧ s14 = .int .i64 ((a2 : Int) - 1) ∧ Hid (Bw w wr)) (fun s14 _ => 7 - (intOf s14 + 1).toNat)
            case atStart => exact ⟨0, Nat.zero_le _, rfl, hb⟩
            case round =>
              clear hb n1
              obtain ⟨wz, rfl⟩ : ∃ x, x = wr := ⟨_, rfl⟩
              obtain ⟨a2, ha2, rfl, hb⟩ := hrel
              obtain ⟨q, hq⟩ : ∃ q : Int, Hid ((a2 : Int) - 1 = q) := ⟨_, rfl⟩
              have q0 : -1 ≤ q := by have := hq.out; omega
              have q9 : q ≤ 6 := by have := hq.out; omega
              rw [hq.out]
              have n1 := HN.out _ hb.out
              by_cases hqn : q ≤ (S.n : Int)
              · by_cases hq6 : q < 6
                · have q4 : IntKind.i64.wrap (q + 1) = q + 1 := by rw [IntKind.wrap_i64]; omega
                  obtain ⟨bc, hbc⟩ : ∃ x, Hid (S.cut p q = x) := ⟨_, rfl⟩
                  go_wp2_with (first
                    | (go_at_call 22; refine (HIA.out _ p q hb.out p0 (by omega) q0 (by omega)).mono ?_; rw [hbc.out]; rintro e w4 ⟨rfl, hb4⟩)
                    | (go_at_call 32; refine (HIB.out _ p q (hb.out.trans hb4)).mono ?_; rw [hbc.out]; rintro e w5 ⟨rfl, hw⟩; subst w5))
                  go_roundw
                  case rel => exact ⟨a2 + 1, by have := hq.out; omega, by have := hq.out; first | (congr 1; omega) | (simp; omega), hb.out.trans hb4⟩
                  case measure => have := hq.out; simp [intOf]; omega
                · go_wp2
                  go_roundw
                  case rel => exact ⟨a + 1, by have := hp.out; omega, by have := hp.out; first | (congr 1; omega) | (simp; omega), hb⟩
                  case measure => have := hp.out; simp [intOf]; omega
              · go_wp2
                go_roundw
                case rel => exact ⟨a + 1, by have := hp.out; omega, by have := hp.out; first | (congr 1; omega) | (simp; omega), hb⟩
                case measure => have := hp.out; simp [intOf]; omega
          · go_wp2
            go_ret
            exact ⟨rfl, hb.out⟩
        · go_wp2
          go_ret
          exact ⟨rfl, hb.out⟩
end Go.Proofs.Ytjjnbpbbjaabeaa
