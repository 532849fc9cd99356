/- Layer 19: what At answers is the caller's own. -/
import Derived.Test.YtjjnbpbbjaabeaaUc2
namespace Go.Proofs.Ytjjnbpbbjaabeaa
open Go.RowKit Go.Deep
set_option linter.unusedVariables false
set_option linter.unusedSimpArgs false

/-- bytes in a block of their own -/
def RowF (w : World) (v : Value) (l : List Nat) : Prop := RowV w v l ∧ (0 < l.length → ∃ b c, v = .slice (some ⟨b, 0, none⟩) l.length c ∧ Own w b l.length (rowL l))
theorem RowF.keepx {P : Nat → Prop} {w w' : World} {v : Value} {l : List Nat} (h : RowF w v l) (k : Bx P w w') (hv : VIn (fun b => ¬ P b) v) : RowF w' v l := by
  refine ⟨h.1.keepx k hv, fun h0 => ?_⟩
  obtain ⟨b, c, e, cur, h1, h2⟩ := h.2 h0
  exact ⟨b, c, e, cur, (k.block b (Array.getElem?_eq_some_iff.1 h1).1 (hv b 0 _ _ e h0)).trans h1, h2⟩
theorem RowF.keep {w w' : World} {v : Value} {l : List Nat} (h : RowF w v l) (k : Bw w w') : RowF w' v l := by
  refine ⟨h.1.keep k, fun h0 => ?_⟩
  obtain ⟨b, c, e, ho⟩ := h.2 h0
  exact ⟨b, c, e, ho.keep k⟩
theorem RowF.nil (w : World) : RowF w (.slice none 0 0) [] := ⟨RowV.nil w, fun h0 => absurd h0 (Nat.lt_irrefl 0)⟩
theorem clone_own {w : World} {v : Value} {l : List Nat} (h : RowV w v l) (hl : l.length ≤ 1000000) :
    Calls Try.prog 37 #[v] w fun e w' => ∃ v', e = .returned v' ∧ RowF w' v' l ∧ VIn (fun b => w.heap.size ≤ b) v' ∧ Bw w w' := by
  obtain ⟨A, ca, rfl, h1, hnil, ⟨hL, hL2⟩, hrow⟩ := h
  clear hL hL2
  obtain ⟨i0, hi0, hz0, hz1, hz2⟩ := info_parts info_u8
  have hmx : 0 + l.length ≤ maxLen := by unfold maxLen; omega
  have hnl := eql_nil19
  cases A with
  | none =>
    have hL0 : l.length = 0 := by
      rcases hrow.1 with h0 | ⟨b, off, e', _⟩
      · exact h0
      · cases e'
    obtain rfl := hnil rfl
    obtain rfl : l = [] := List.length_eq_zero_iff.1 hL0
    have hr : Hid (RowAt w none 0 (rowL [])) := hrow
    clear hrow h1 hL0 hmx hl
    go_enter Try.func37, Try.ntmps37
    go_wp2
    go_ret
    exact ⟨_, rfl, ⟨⟨none, 0, rfl, Nat.le_refl _, fun _ => rfl, ⟨Nat.zero_le _, Nat.zero_le _⟩, hr.out⟩, fun h0 => absurd h0 (Nat.lt_irrefl 0)⟩, fun b o n c e h0 => (by cases e), Bw.refl _⟩
  | some a =>
    obtain ⟨L, hLe⟩ : ∃ L, Hid (l.length = L) := ⟨_, rfl⟩
    obtain ⟨f, hf⟩ : ∃ f, Hid (rowL l = f) := ⟨_, rfl⟩
    unfold RowF RowV
    rw [hLe.out] at h1 hrow hmx hl ⊢
    rw [hf.out] at hrow ⊢
    go_enter Try.func37, Try.ntmps37
    go_wp2_with (at_builtin; refine wpList_append_rowat _ (by rfl) (.tmp 5) (.tmp 6) _ (by rfl) w.heap.size 5 i0 _ 1 Try.underlying33 hi0 hz0 hz1 hz2 rfl _ _ _ (by rfl) (own_empty w w.heap.size _ (Nat.le_refl _)) (some a) L ca f (by rfl) (hrow.keep ((Below.refl _ _).alloc (Nat.le_refl _) _)) hnil hmx (by omega) (by simp) ?_; intro v2 w2 hown2 hgrow2; simp only [Nat.zero_add, List.nil_append] at hown2; have bw2 := bw_fresh hgrow2)
    obtain ⟨A1, c1, e1, hc1, hc2, hr1, hA1⟩ := row_of_own hrow.2 hown2
    have hn1 : A1 = none → c1 = 0 := fun e => by
      rcases hown2.2 with ⟨e2, _⟩ | ⟨g, cap, cur, e2, _⟩
      · rw [e1] at e2; cases e2; rfl
      · rw [e1] at e2; cases e2; cases e
    subst e1
    have hof : 0 < L → ∃ b c, Value.slice A1 L c1 = .slice (some ⟨b, 0, none⟩) L c ∧ Own w2 b L f := fun h0 => by
      obtain ⟨g, cap, e, _, _, _, ho⟩ := Own.of hown2 h0
      exact ⟨g, cap, e, ho⟩
    have hofH : Hid (0 < L → ∃ b c, Value.slice A1 L c1 = .slice (some ⟨b, 0, none⟩) L c ∧ Own w2 b L f) := hof
    clear hof
    go_ret
    exact ⟨_, rfl, ⟨⟨A1, c1, rfl, hc1, hn1, ⟨by omega, by unfold maxLen at hc2; omega⟩, hr1⟩, hofH.out⟩, fun b o n c e h0 => by cases e; exact (hA1 _ rfl).1, bw2⟩
set_option maxRecDepth 100000 in
theorem twin_own {w : World} (x y : Int) {v : Value} {l : List Nat} (h : RowV w v l) (hl : l.length ≤ 1000000) :
    Calls Try.prog 34 #[.agg #[.int .i64 x, .int .i64 y, v]] w fun e w' => ∃ v', e = .returned (.agg #[.int .i64 x, .int .i64 y, v']) ∧ RowF w' v' l ∧ VIn (fun b => w.heap.size ≤ b) v' ∧ Bw w w' := by
  obtain ⟨z, hz⟩ : ∃ z, Hid (w.heap.size = z) := ⟨_, rfl⟩
  obtain ⟨W1, hW1⟩ : ∃ W, Hid ((w.alloc (.cells #[.int .i64 x, .int .i64 y, v] 35)).alloc (.cells #[.int .i64 0, .int .i64 0, .slice none 0 0] 35) = W) := ⟨_, rfl⟩
  have kW : Bw w W1 := by rw [← hW1.out]; exact bw_allocx (bw_allocx (Bw.refl _))
  have hD : DgAt W1 z x y v := by
    rw [← hW1.out, ← hz.out]
    exact ((MapKept.heap_alloc _ _).2 _ (by rw [size_alloc]; omega)).trans (heap_alloc_new _ _)
  have hR : DgAt W1 (z + 1) 0 0 (.slice none 0 0) := by
    rw [← hW1.out, ← hz.out]
    have := heap_alloc_new (w.alloc (.cells #[.int .i64 x, .int .i64 y, v] 35)) (.cells #[.int .i64 0, .int .i64 0, .slice none 0 0] 35)
    rwa [size_alloc] at this
  have hs : z < W1.heap.size := (Array.getElem?_eq_some_iff.1 hD).1
  have hs2 : z + 1 < W1.heap.size := (Array.getElem?_eq_some_iff.1 hR).1
  have HC : Hid (Calls Try.prog 37 #[v] W1 fun e w' => ∃ v', e = .returned v' ∧ RowF w' v' l ∧ VIn (fun b => W1.heap.size ≤ b) v' ∧ Bw W1 w') := clone_own (h.keep kW) hl
  have d2 : W1.cell? ⟨z, 2, none⟩ = some v := cell_of_row W1 z 2 _ _ _ hD
  have hz0 : Hid (w.heap.size ≤ z) := Nat.le_of_eq hz.out
  clear h hl
  go_enter Try.func34, Try.ntmps34
  go_upto_region 1 with fail
  rw [hW1.out, hz.out]
  go_upto_region 2 with (go_at_call 37; refine HC.out.mono ?_; rintro e w1 ⟨v1', rfl, hr1, hv1, hb1⟩; obtain ⟨A1, c1, e1, -⟩ := id hr1.1; subst e1; have c2 := (hb1.cell (p := ⟨z, 2, none⟩) hs).trans d2; have f2 := frozen_of_row w1 z 2 _ _ ((hb1.block z hs).trans hD))
  obtain ⟨v1, ev1⟩ : ∃ x, Value.slice A1 l.length c1 = x := ⟨_, rfl⟩
  rw [ev1] at hr1 hv1 ⊢
  have hb2 : Bw w (w1.setCell ⟨z, 2, none⟩ v1) := Bw.put (kW.trans hb1) hz0.out _ _
  obtain ⟨W2, hW2⟩ : ∃ W, Hid (w1.setCell ⟨z, 2, none⟩ v1 = W) := ⟨_, rfl⟩
  have hD2 : DgAt W2 z x y v1 := by rw [← hW2.out]; exact heap_setCell_same w1 z 2 _ _ _ ((hb1.block z hs).trans hD)
  have hR2 : DgAt W2 (z + 1) 0 0 (.slice none 0 0) := by
    rw [← hW2.out]
    show (w1.setCell ⟨z, 2, none⟩ v1).heap[z + 1]? = _
    rw [RowKit.Below.heap_setCell _ _ _ _ (show z + 1 ≠ z by omega)]
    exact (hb1.block (z + 1) hs2).trans hR
  have hr2 : RowF W2 v1 l := by
    rw [← hW2.out]
    exact hr1.keepx (P := (· = z)) ((Bx.refl _ _).put rfl) (fun b o n c e h0 e' => by have := hv1 b o n c e h0; have e2 : b = z := e'; omega)
  have ho := dg_oneCell hr2.1
  rw [hW2.out] at hb2 ⊢
  go_wp2_with (first
    | refine wpList_load_row rfl 35 _ rfl z rfl 35 (dcs x y v1) (0, 0) _ hD2 Try.underlying35 rfl (dg_info _ _ _) ?_
    | refine wpList_store_row rfl 35 _ _ rfl (z + 1) (dcs x y v1) rfl rfl 35 _ hR2 (dg_info _ _ _) rfl (dg_all _ _ ho).out ?_)
  try simp only [Exit.inBlock, Exit.then]
  refine bodyPost_ret (results_cell_row rfl _ _ (z + 1) _ (dcs x y v1) _ _ (by rfl) (setRow_heap _ _ _ _ _ _ hR2) Try.underlying35 rfl (dg_info _ _ _)) rfl ?_
  refine ⟨v1, rfl, hr2.keepx (P := (· = z + 1)) (bx_setRow (S := (· = z + 1)) (Bx.refl _ _) rfl _) (fun b o n c e h0 e' => by have := hv1 b o n c e h0; have e2 : b = z + 1 := e'; omega), hv1.mono (fun b hb => Nat.le_trans kW.size hb), bw_setRow hb2 (by have := hz0.out; omega) _⟩
set_option maxRecDepth 100000 in
theorem at_yes_own {w : World} {g : Nat} {v : Value} {gm : Nat} {E : List Raw} {S : Ai.St} (h : AirX w g v gm E S) {k : Nat} (hk : k < S.L.length) :
    Calls Try.prog 13 #[.pointer (some ⟨g, 0, none⟩), .int .i64 (k : Int)] w fun e w' => ∃ v', e = .returned (.tuple #[.agg #[.int .i64 S.L[k].src, .int .i64 S.L[k].dst, v'], .bool true]) ∧ RowF w' v' S.L[k].b ∧ VIn (fun b => w.heap.size ≤ b) v' ∧ Bw w w' := by
  obtain ⟨z, hz⟩ : ∃ z, Hid (w.heap.size = z) := ⟨_, rfl⟩
  obtain ⟨W1, hW1⟩ : ∃ W, Hid (w.alloc (.cells #[.int .i64 0, .int .i64 0, .slice none 0 0] 35) = W) := ⟨_, rfl⟩
  have kW : Bw w W1 := by rw [← hW1.out]; exact bw_allocx (Bw.refl _)
  have hD : DgAt W1 z 0 0 (.slice none 0 0) := by rw [← hW1.out, ← hz.out]; exact heap_alloc_new _ _
  have hs : z < W1.heap.size := (Array.getElem?_eq_some_iff.1 hD).1
  have HH1 : Hid (Calls Try.prog 33 #[.pointer (some ⟨g, 0, none⟩), .int .i64 (k : Int)] W1 fun e w' => e = .returned (.bool true) ∧ w' = W1) := by
    have := has_any (h.keep kW) (k : Int)
    rw [Ai.has_of hk] at this
    exact this
  have hz0 : Hid (w.heap.size ≤ z) := Nat.le_of_eq hz.out
  obtain ⟨r, d, hr, hd, e1, e2, hrow⟩ := h.dgs.get hk
  have hd' : S.L[k] = d := by rw [List.getElem?_eq_getElem hk] at hd; exact Option.some.inj hd
  rw [hd', ← e1, ← e2]
  obtain ⟨ub, uc, rfl, hB⟩ := h.und.pos (by rw [h.len]; omega)
  have hkn := bnd hk
  rw [← h.len] at hkn
  obtain ⟨n, hn⟩ : ∃ n, Hid (E.length = n) := ⟨_, rfl⟩
  have c1 : W1.cell? ⟨g, 1, none⟩ = some (.slice (some ⟨ub, 0, none⟩) E.length uc) := (h.keep kW).c1
  rw [hn.out] at hkn c1
  obtain ⟨k0, k1⟩ := hkn
  have hR := (hB.keep kW).range hr
  have HT : Hid (Calls Try.prog 34 #[.agg #[.int .i64 r.src, .int .i64 r.dst, r.v]] W1 fun e w' => ∃ v', e = .returned (.agg #[.int .i64 r.src, .int .i64 r.dst, v']) ∧ RowF w' v' d.b ∧ VIn (fun b => W1.heap.size ≤ b) v' ∧ Bw W1 w') :=
    twin_own r.src r.dst (hrow.keep kW) (by have := (h.ok.dgs d (List.mem_of_getElem? hd)).2; omega)
  clear h hB hr hd hd' e1 e2 hrow hk
  go_enter Try.func13, Try.ntmps13
  go_upto_region 1 with fail
  rw [hW1.out, hz.out]
  go_wp2_with (first
    | (go_at_call 33; refine HH1.out.mono ?_; rintro e w2 ⟨rfl, hw⟩; subst w2)
    | refine wpList_load_mid rfl 35 _ rfl ub (k * 3) (by rfl) r.cells _ hR Try.underlying35 rfl (dg_info _ _ r.v) ?_
    | (go_at_call 34; refine HT.out.mono ?_; rintro e w2 ⟨v1, rfl, hr1, hv1, hb1⟩; have hD1 : DgAt w2 z 0 0 (.slice none 0 0) := (hb1.block z hs).trans hD; have ho := dg_oneCell hr1.1)
    | refine wpList_store_row rfl 35 _ _ rfl z (dcs r.src r.dst v1) rfl rfl 35 _ hD1 (dg_info _ _ _) rfl (dg_all _ _ ho).out ?_)
  try simp only [Exit.inBlock, Exit.then]
  refine bodyPost_ret (results_row_tmp (p := 4) (u := 5) (by rfl) _ _ z 35 (dcs r.src r.dst v1) (0, 0) _ (by rfl) (setRow_heap _ _ _ _ _ _ hD1) Try.underlying35 rfl (dg_info _ _ _)) rfl ?_
  exact ⟨v1, rfl, hr1.keepx (P := (· = z)) (bx_setRow (S := (· = z)) (Bx.refl _ _) rfl _) (fun b o n c e h0 e' => by have := hv1 b o n c e h0; have e2 : b = z := e'; omega), hv1.mono (fun b hb => Nat.le_trans kW.size hb), bw_setRow (kW.trans hb1) hz0.out _⟩
/-- what At answers, in memory of the caller's own -/
def GaveF (w w' : World) (d : Ai.Dg) (b : Bool) (e : Ending) : Prop := ∃ v, e = .returned (.tuple #[.agg #[.int .i64 d.src, .int .i64 d.dst, v], .bool b]) ∧ RowF w' v d.b ∧ VIn (fun b => w.heap.size ≤ b) v
theorem at_own {w : World} {P : Nat → Prop} {g : Nat} {S : Ai.St} (h : AirAt w P g S) (i : Int) :
    Calls Try.prog 13 #[.pointer (some ⟨g, 0, none⟩), .int .i64 i] w fun e w' => GaveF w w' (S.giv i) (S.has i) e ∧ Bw w w' := by
  obtain ⟨v, gm, E, h1, h2, h3, h4⟩ := h
  unfold Ai.St.giv
  by_cases hi : S.has i = true
  · rw [if_pos hi, hi]
    obtain ⟨k, rfl, hk⟩ := Ai.has_nat hi
    rw [Ai.at_of hk]
    refine (at_yes_own h1 hk).mono ?_
    rintro e w' ⟨v', rfl, hr, hv, hb⟩
    exact ⟨⟨v', rfl, hr, hv⟩, hb⟩
  · have hi' : S.has i = false := by cases e : S.has i; rfl; exact absurd e hi
    rw [if_neg hi, hi']
    refine (at_no (some ⟨g, 0, none⟩) i (fun u hu => by have HH := has_any (h1.keep hu) i; rw [hi'] at HH; exact HH)).mono ?_
    rintro e w' ⟨rfl, hb⟩
    exact ⟨⟨_, rfl, RowF.nil _, VIn.nil _⟩, hb⟩
end Go.Proofs.Ytjjnbpbbjaabeaa
