/- Layer 19: slices.Clone, twin, At. -/
import Derived.Test.YtjjnbpbbjaabeaaTd
import Derived.Deep.MidRow
import Derived.Deep.CutRange
import Derived.Deep.CutBlock
namespace Go.Proofs.Ytjjnbpbbjaabeaa
open Go.RowKit Go.Deep
set_option linter.unusedVariables false
set_option linter.unusedSimpArgs false

/-- a function's results, the first of which lies in memory -/
theorem results_row_tmp {P : Program} {fn : Func} {p u : Tmp} {ty : TypeId} (h : fn.results = #[.cell p ty, .tmp u]) (tmps : Array Value) (w : World) (g : Nat) (t : TypeId) (cs : Array Value) (fr : Nat × Nat) (d : TypeDesc)
    (hp : tmps.getD p undef = .pointer (some ⟨g, 0, none⟩)) (hg : w.heap[g]? = some (.cells cs t fr))
    (hu : P.underlying ty = some d) (hd : (match d with | .struct _ | .array _ _ => true | _ => false) = true) (hi : (P.info? ty).map (·.size) = some cs.size) :
    (results fn tmps).run P w = .ok (.tuple #[.agg cs, tmps.getD u undef]) w := by
  rw [results_cell_tmp h, hp]
  simp [asAddr, run_loadVar_row w g t ty cs fr d hg hu hd hi, Result.andThen]
def dcs (x y : Int) (v : Value) : Array Value := #[.int .i64 x, .int .i64 y, v]
/-- a datagram in a block of its own -/
abbrev DgAt (w : World) (z : Nat) (x y : Int) (v : Value) : Prop := w.heap[z]? = some (.cells (dcs x y v) 35 (0, 0))
theorem dg_info (x y : Int) (v : Value) : (Try.prog.info? 35).map (·.size) = some (dcs x y v).size := by kernel_rfl
theorem dg_all (x y : Int) {v : Value} (hv : v.oneCell' = true) : Hid ((dcs x y v).all (·.oneCell') = true) := by
  show _ = _
  have h1 : (Value.int .i64 x).oneCell' = true := rfl
  have h2 : (Value.int .i64 y).oneCell' = true := rfl
  simp [dcs, hv, h1, h2]
theorem bw_setRow {w w' : World} (h : Bw w w') {g : Nat} (hg : w.heap.size ≤ g) (cs : Array Value) : Bw w (w'.setRow g cs) :=
  ⟨h.os, h.tape, h.output, by rw [size_setRow]; exact h.size, fun b hb => (setRow_other w' g b cs (by omega)).trans (h.block b hb)⟩
theorem bx_setRow {S : Nat → Prop} {w w' : World} (h : Bx S w w') {g : Nat} (hg : S g) (cs : Array Value) : Bx S w (w'.setRow g cs) :=
  ⟨h.os, h.tape, h.output, by rw [size_setRow]; exact h.size, fun b hb hn => (setRow_other w' g b cs (fun e => hn (by first | (rw [e]; exact hg) | (rw [← e]; exact hg)))).trans (h.block b hb hn)⟩
theorem equalIn_nil19 (w : World) (d : Nat) (A : Option Addr) (n c : Nat) : (Op.equalIn (d + 1) 33 (.slice A n c) (.slice none 0 0)).run Try.prog w = .ok A.isNone w := by
  cases A <;> simp [Op.equalIn, run_underlying Try.underlying33]
theorem eql_nil19 (w : World) (A : Option Addr) (n c : Nat) : (binOp .eql 33 (.slice A n c) (.slice none 0 0)).run Try.prog w = .ok (.bool A.isNone) w := by
  have h : (Op.equal 33 (.slice A n c) (.slice none 0 0)).run Try.prog w = .ok A.isNone w := equalIn_nil19 w 9999 A n c
  simp only [binOp]
  simp [h]
theorem clone_any {w : World} {v : Value} {l : List Nat} (h : RowV w v l) (hl : l.length ≤ 1000000) :
    Calls Try.prog 37 #[v] w fun e w' => ∃ v', e = .returned v' ∧ RowV w' v' l ∧ VIn (fun b => w.heap.size ≤ b) v' ∧ Bw w w' := by
  obtain ⟨A, ca, rfl, h1, hnil, ⟨hL, hL2⟩, hrow⟩ := h
  clear hL hL2
  obtain ⟨i0, hi0, hz0, hz1, hz2⟩ := info_parts info_u8
  have hmx : 0 + l.length ≤ maxLen := by unfold maxLen; omega
  have hnl := eql_nil19
  cases A with
  | none =>
    have hL0 : l.length = 0 := by
      rcases hrow.1 with h0 | ⟨b, off, e', _⟩
      · exact h0
      · cases e'
    obtain rfl := hnil rfl
    obtain rfl : l = [] := List.length_eq_zero_iff.1 hL0
    have hr : Hid (RowAt w none 0 (rowL [])) := hrow
    clear hrow h1 hL0 hmx hl
    go_enter Try.func37, Try.ntmps37
    go_wp2
    go_ret
    exact ⟨_, rfl, ⟨none, 0, rfl, Nat.le_refl _, fun _ => rfl, ⟨Nat.zero_le _, Nat.zero_le _⟩, hr.out⟩, fun b o n c e h0 => (by cases e), Bw.refl _⟩
  | some a =>
    obtain ⟨L, hLe⟩ : ∃ L, Hid (l.length = L) := ⟨_, rfl⟩
    obtain ⟨f, hf⟩ : ∃ f, Hid (rowL l = f) := ⟨_, rfl⟩
    unfold RowV
    rw [hLe.out] at h1 hrow hmx hl ⊢
    rw [hf.out] at hrow ⊢
    go_enter Try.func37, Try.ntmps37
    go_wp2_with (at_builtin; refine wpList_append_rowat _ (by rfl) (.tmp 5) (.tmp 6) _ (by rfl) w.heap.size 5 i0 _ 1 Try.underlying33 hi0 hz0 hz1 hz2 rfl _ _ _ (by rfl) (own_empty w w.heap.size _ (Nat.le_refl _)) (some a) L ca f (by rfl) (hrow.keep ((Below.refl _ _).alloc (Nat.le_refl _) _)) hnil hmx (by omega) (by simp) ?_; intro v2 w2 hown2 hgrow2; simp only [Nat.zero_add, List.nil_append] at hown2; have bw2 := bw_fresh hgrow2)
    obtain ⟨A1, c1, e1, hc1, hc2, hr1, hA1⟩ := row_of_own hrow.2 hown2
    have hn1 : A1 = none → c1 = 0 := fun e => by
      rcases hown2.2 with ⟨e2, _⟩ | ⟨g, cap, cur, e2, _⟩
      · rw [e1] at e2; cases e2; rfl
      · rw [e1] at e2; cases e2; cases e
    subst e1
    go_ret
    exact ⟨_, rfl, ⟨A1, c1, rfl, hc1, hn1, ⟨by omega, by unfold maxLen at hc2; omega⟩, hr1⟩, fun b o n c e h0 => by cases e; exact (hA1 _ rfl).1, bw2⟩
theorem dg_oneCell {w : World} {v : Value} {l : List Nat} (h : RowV w v l) : v.oneCell' = true := by obtain ⟨A, c, rfl, _⟩ := h; rfl
set_option maxRecDepth 100000 in
theorem twin_any {w : World} (x y : Int) {v : Value} {l : List Nat} (h : RowV w v l) (hl : l.length ≤ 1000000) :
    Calls Try.prog 34 #[.agg #[.int .i64 x, .int .i64 y, v]] w fun e w' => ∃ v', e = .returned (.agg #[.int .i64 x, .int .i64 y, v']) ∧ RowV w' v' l ∧ VIn (fun b => w.heap.size ≤ b) v' ∧ Bw w w' := by
  obtain ⟨z, hz⟩ : ∃ z, Hid (w.heap.size = z) := ⟨_, rfl⟩
  obtain ⟨W1, hW1⟩ : ∃ W, Hid ((w.alloc (.cells #[.int .i64 x, .int .i64 y, v] 35)).alloc (.cells #[.int .i64 0, .int .i64 0, .slice none 0 0] 35) = W) := ⟨_, rfl⟩
  have kW : Bw w W1 := by rw [← hW1.out]; exact bw_allocx (bw_allocx (Bw.refl _))
  have hD : DgAt W1 z x y v := by
    rw [← hW1.out, ← hz.out]
    exact ((MapKept.heap_alloc _ _).2 _ (by rw [size_alloc]; omega)).trans (heap_alloc_new _ _)
  have hR : DgAt W1 (z + 1) 0 0 (.slice none 0 0) := by
    rw [← hW1.out, ← hz.out]
    have := heap_alloc_new (w.alloc (.cells #[.int .i64 x, .int .i64 y, v] 35)) (.cells #[.int .i64 0, .int .i64 0, .slice none 0 0] 35)
    rwa [size_alloc] at this
  have hs : z < W1.heap.size := (Array.getElem?_eq_some_iff.1 hD).1
  have hs2 : z + 1 < W1.heap.size := (Array.getElem?_eq_some_iff.1 hR).1
  have HC : Hid (Calls Try.prog 37 #[v] W1 fun e w' => ∃ v', e = .returned v' ∧ RowV w' v' l ∧ VIn (fun b => W1.heap.size ≤ b) v' ∧ Bw W1 w') := clone_any (h.keep kW) hl
  have d2 : W1.cell? ⟨z, 2, none⟩ = some v := cell_of_row W1 z 2 _ _ _ hD
  have hz0 : Hid (w.heap.size ≤ z) := Nat.le_of_eq hz.out
  clear h hl
  go_enter Try.func34, Try.ntmps34
  go_upto_region 1 with fail
  rw [hW1.out, hz.out]
  go_upto_region 2 with (go_at_call 37; refine HC.out.mono ?_; rintro e w1 ⟨v1', rfl, hr1, hv1, hb1⟩; obtain ⟨A1, c1, e1, -⟩ := id hr1; subst e1; have c2 := (hb1.cell (p := ⟨z, 2, none⟩) hs).trans d2; have f2 := frozen_of_row w1 z 2 _ _ ((hb1.block z hs).trans hD))
  obtain ⟨v1, ev1⟩ : ∃ x, Value.slice A1 l.length c1 = x := ⟨_, rfl⟩
  rw [ev1] at hr1 hv1 ⊢
  have hb2 : Bw w (w1.setCell ⟨z, 2, none⟩ v1) := Bw.put (kW.trans hb1) hz0.out _ _
  obtain ⟨W2, hW2⟩ : ∃ W, Hid (w1.setCell ⟨z, 2, none⟩ v1 = W) := ⟨_, rfl⟩
  have hD2 : DgAt W2 z x y v1 := by rw [← hW2.out]; exact heap_setCell_same w1 z 2 _ _ _ ((hb1.block z hs).trans hD)
  have hR2 : DgAt W2 (z + 1) 0 0 (.slice none 0 0) := by
    rw [← hW2.out]
    show (w1.setCell ⟨z, 2, none⟩ v1).heap[z + 1]? = _
    rw [RowKit.Below.heap_setCell _ _ _ _ (show z + 1 ≠ z by omega)]
    exact (hb1.block (z + 1) hs2).trans hR
  have hr2 : RowV W2 v1 l := by
    rw [← hW2.out]
    exact hr1.keepx (P := (· = z)) ((Bx.refl _ _).put rfl) (fun b o n c e h0 e' => by have := hv1 b o n c e h0; have e2 : b = z := e'; omega)
  have ho := dg_oneCell hr2
  rw [hW2.out] at hb2 ⊢
  go_wp2_with (first
    | refine wpList_load_row rfl 35 _ rfl z rfl 35 (dcs x y v1) (0, 0) _ hD2 Try.underlying35 rfl (dg_info _ _ _) ?_
    | refine wpList_store_row rfl 35 _ _ rfl (z + 1) (dcs x y v1) rfl rfl 35 _ hR2 (dg_info _ _ _) rfl (dg_all _ _ ho).out ?_)
  try simp only [Exit.inBlock, Exit.then]
  refine bodyPost_ret (results_cell_row rfl _ _ (z + 1) _ (dcs x y v1) _ _ (by rfl) (setRow_heap _ _ _ _ _ _ hR2) Try.underlying35 rfl (dg_info _ _ _)) rfl ?_
  refine ⟨v1, rfl, hr2.keepx (P := (· = z + 1)) (bx_setRow (S := (· = z + 1)) (Bx.refl _ _) rfl _) (fun b o n c e h0 e' => by have := hv1 b o n c e h0; have e2 : b = z + 1 := e'; omega), hv1.mono (fun b hb => Nat.le_trans kW.size hb), bw_setRow hb2 (by have := hz0.out; omega) _⟩
theorem DB.range {w : World} {b c : Nat} {L : List Raw} (h : DB w b c L) {i : Nat} {r : Raw} (hr : L[i]? = some r) : w.rangeAt b (i * 3) r.cells := fun j v hv => by
  obtain ⟨h1, h2, h3⟩ := h.cells hr
  match j with
  | 0 => cases hv; exact h1
  | 1 => cases hv; exact h2
  | 2 => cases hv; exact h3
  | j + 3 => simp [Raw.cells] at hv
theorem DB.there {w : World} {b c : Nat} {L : List Raw} (h : DB w b c L) {i : Nat} (hi : i < L.length) : w.there b (i * 3) 3 := fun j hj => by
  refine ⟨?_, h.free _⟩
  obtain ⟨cur, h1, h2, h3, h4, h5⟩ := h
  rw [cell_of_row w b _ cur _ _ h1, Array.getElem?_eq_getElem (by omega)]
  rfl
theorem set3 (l : List Value) (o : Nat) (x y z : Value) (h : o + 3 ≤ l.length) : ((l.set o x).set (o + 1) y).set (o + 2) z = l.take o ++ [x, y, z] ++ l.drop (o + 3) := by
  apply List.ext_getElem?
  intro j
  simp only [List.getElem?_set, List.length_set, List.getElem?_append, List.length_append, List.length_take, List.length_cons, List.length_nil, List.getElem?_take, List.getElem?_drop]
  rw [show min o l.length = o by omega]
  by_cases c1 : j < o
  · rw [if_neg (by omega), if_neg (by omega), if_neg (by omega), if_pos (by omega), if_pos c1, if_pos c1]
  · by_cases c2 : j = o
    · subst c2
      rw [if_neg (by omega), if_neg (by omega), if_pos rfl, if_pos (by omega), if_pos (by omega), if_neg (by omega), Nat.sub_self]; rfl
    · by_cases c3 : j = o + 1
      · subst c3
        rw [if_neg (by omega), if_pos rfl, if_pos (by omega), if_pos (by omega), if_neg (by omega), Nat.add_sub_cancel_left]; rfl
      · by_cases c4 : j = o + 2
        · subst c4
          rw [if_pos rfl, if_pos (by omega), if_pos (by omega), if_neg (by omega), Nat.add_sub_cancel_left]; rfl
        · rw [if_neg (by omega), if_neg (by omega), if_neg (by omega), if_neg (by omega), show o + 3 + (j - (o + (0 + 1 + 1 + 1))) = j by omega]
/-- a datagram laid over one -/
theorem DB.put {w : World} {b c : Nat} {L : List Raw} (h : DB w b c L) {i : Nat} (hi : i < L.length) (r : Raw) : DB (w.setCells b (i * 3) r.cells) b c (L.set i r) ∧ Bx (· = b) w (w.setCells b (i * 3) r.cells) := by
  obtain ⟨cur, h1, h2, h3, h4, h5⟩ := h
  have e : w.setCells b (i * 3) r.cells = ((w.setCell ⟨b, i * 3, none⟩ (.int .i64 r.src)).setCell ⟨b, i * 3 + 1, none⟩ (.int .i64 r.dst)).setCell ⟨b, i * 3 + 2, none⟩ r.v := rfl
  rw [e]
  refine ⟨⟨_, heap_setCell_same _ b _ _ _ _ (heap_setCell_same _ b _ _ _ _ (heap_setCell_same _ b _ _ _ _ h1)), by simpa using h2, by rw [List.length_set]; exact h3, h4, ?_⟩, (((Bx.refl (fun x => x = b) w).put rfl).put rfl).put rfl⟩
  have hl : cur.toList.length = c * 3 := by simpa using h2
  rw [Array.toList_setIfInBounds, Array.toList_setIfInBounds, Array.toList_setIfInBounds, set3 _ _ _ _ _ (by omega), List.length_set]
  have e2 : L.set i r = L.take i ++ [r] ++ L.drop (i + 1) := by rw [List.set_eq_take_append_cons_drop, if_pos hi, List.append_assoc]; rfl
  rw [e2, flat_append, flat_append, flat_take, flat_drop, ← h5]
  apply List.ext_getElem?
  intro j
  simp only [flat, List.getElem?_take, List.getElem?_append, List.length_append, List.length_take, hl, List.length_cons, List.length_nil, List.getElem?_drop]
  rw [show min (i * 3) (c * 3) = i * 3 by omega, show min (i * 3) (min (L.length * 3) (c * 3)) = i * 3 by omega, show (i + 1) * 3 = i * 3 + 3 by omega]
  by_cases c1 : j < i * 3
  · rw [if_pos (by omega), if_pos (by omega), if_pos c1, if_pos c1, if_pos (by omega), if_pos c1, if_pos c1, if_pos (by omega)]
  · by_cases c2 : j < i * 3 + 3
    · rw [if_pos (by omega), if_pos (by omega), if_neg c1, if_pos (by omega), if_neg c1]
    · by_cases c3 : j < L.length * 3
      · rw [if_pos c3, if_neg (by omega), if_neg (by omega), if_pos (by omega)]
      · rw [if_neg c3, if_neg (by omega), if_neg (by omega)]
end Go.Proofs.Ytjjnbpbbjaabeaa
