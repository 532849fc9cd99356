/- Layer 19: the document's Carry, Lose, Hold (written by mkty.py out of ty.base). -/
import Derived.Test.YtjjnbpbbjaabeaaTx
namespace Go.Proofs.Ytjjnbpbbjaabeaa
open Go.RowKit Go.Deep
set_option linter.unusedVariables false
set_option linter.unusedSimpArgs false

theorem step_append_dgs {w : World} {ops : Array Oper} {o : Oper} {a : Act} {K : Act → World → Prop} {Q : Exit → Act → World → Prop} {E' : Prop} (hgd : o.guard = none) (s x : Operand)
    (ho : o.op = .call { callee := .builtin .append, args := #[s, x], argTypes := #[50, 50] })
    (base : Nat) (v : Value) (n : Nat) (xs : List Value) (hs : a.eval s = v) (hown : w.ownsRow base 35 3 v n xs)
    (ad : Addr) (m c : Nat) (V : List Raw) (hx : a.eval x = .slice (some ad) m c) (hV : V.length = m) (hD : DsAt w (some ad) V) (h1 : ∀ r ∈ V, r.v.oneCell' = true)
    (hb : n + m ≤ 1000000) (hbase : base ≤ w.heap.size)
    (h : ∀ v' w', w'.ownsRow base 35 3 v' (n + m) (xs ++ flat V) → w.grownBy w' v.ownBlock → K (a.put o.dst v') w') :
    if Region.wanted o (yielded ops a.tmps) = true then Oper.wp Try.prog o a w K Q else E' := by
  have hw : Region.wanted o (yielded ops a.tmps) = true := by simp [Region.wanted, hgd]
  rw [if_pos hw]
  obtain ⟨i0, hi0, hz0, hz1, hz2⟩ := info_parts infoD
  refine wp_append_own w s x _ ho base _ i0 _ 3 40 Try.underlying50 hi0 hz0 hz1 hz2 rfl (by decide) v n xs hs hown ad m c (flat V) hx (by rw [flat_len, hV]) (fun j u hu => ?_) (flat_one h1) (by unfold maxLen; omega) (by omega) hbase (fun v' w' h1 h2 _ => h v' w' h1 h2)
  rcases hD with h0 | ⟨b, o', e, hD⟩
  · rw [h0] at hu; simp [flat] at hu
  · cases e
    rw [Addr.add_lit]
    exact hD j u hu
/-- how the document's Carry ends -/
def RCarry (w : World) (g : Nat) (lv ov : Value) (E : List Raw) (Z : List (Int × Int)) (S : Ai.St) (k : Nat) (r : Raw) (w' : World) : Prop := ∃ lv', RefX w' g lv' ov (E.eraseIdx k) Z (S.lose (k : Int)) ∧ (∀ b, lv'.ownBlock = some b → w.heap.size ≤ b) ∧ Bx (rIn g lv ov) w w'
set_option maxRecDepth 100000 in
set_option maxHeartbeats 16000000 in
theorem rcarry_yes {w : World} {g : Nat} {lv ov : Value} {E : List Raw} {Z : List (Int × Int)} {S : Ai.St} (h : RefX w g lv ov E Z S) {k : Nat} {r : Raw} (hr : E[k]? = some r) :
    Calls Try.prog 25 #[.pointer (some ⟨g, 0, none⟩), .int .i64 (k : Int)] w fun e w' => e = .returned (.tuple #[.agg #[.int .i64 r.src, .int .i64 r.dst, r.v], .bool true]) ∧ RCarry w g lv ov E Z S k r w' := by
  have hkE := (List.getElem?_eq_some_iff.1 hr).1
  have hk : k < S.L.length := by rw [← h.len]; exact hkE
  have ho := h.dgs.cellOne r (List.mem_of_getElem? hr)
  have hones := h.dgs.cellOne
  have hlose : S.lose (k : Int) = { S with L := S.L.eraseIdx k } := by unfold Ai.St.lose; rw [if_pos (Ai.has_of hk), Int.toNat_natCast]
  have hok : ({ S with L := S.L.eraseIdx k } : Ai.St).Ok := by rw [← hlose]; exact Ai.lose_ok h.ok _
  obtain ⟨ub, uc, elv, hB⟩ := h.und.pos (by omega)
  obtain ⟨n, hn⟩ : ∃ n, Hid (E.length = n) := ⟨_, rfl⟩
  have hn4 : n ≤ 4096 := by rw [← hn.out, h.len]; exact h.ok.few
  have hcap : Hid (n ≤ uc ∧ uc ≤ maxLen) := ⟨by rw [← hn.out]; exact hB.le, hB.cap⟩
  rw [hn.out] at elv hkE
  obtain ⟨k0, k1⟩ := bnd hkE
  have k2 : (k : Int) ≤ 4096 := by omega
  have c9 : w.cell? ⟨g, 1, none⟩ = some (.slice (some ⟨ub, 0, none⟩) n uc) := by rw [h.c1, elv]
  have HC1 : Hid (∀ u, Bw w u → u.cell? ⟨g, 1, none⟩ = some (.slice (some ⟨ub, 0, none⟩) n uc)) := fun u ku => (ku.cell (p := ⟨g, 1, none⟩) (block_lt_of_cell c9)).trans c9
  obtain ⟨zr, hzr⟩ : ∃ z, Hid (w.heap.size = z) := ⟨_, rfl⟩
  obtain ⟨W1, hW1⟩ : ∃ W, Hid (w.alloc (.cells #[.int .i64 0, .int .i64 0, .slice none 0 0] 35) = W) := ⟨_, rfl⟩
  have kW : Bw w W1 := by rw [← hW1.out]; exact bw_allocx (Bw.refl _)
  have hDr : DgAt W1 zr 0 0 (.slice none 0 0) := by rw [← hW1.out, ← hzr.out]; exact heap_alloc_new _ _
  have hzw : Hid (w.heap.size ≤ zr) := Nat.le_of_eq hzr.out
  have HA : Hid (Calls Try.prog 31 #[.pointer (some ⟨g, 0, none⟩), .int .i64 (k : Int)] W1 fun e w' => e = .returned (.tuple #[.agg #[.int .i64 r.src, .int .i64 r.dst, r.v], .bool true]) ∧ Bw W1 w') := rat_yes (h.keep kW) hr
  have HBx : Hid (∀ w1, Bw W1 w1 → ∃ z W2 W3, Hid (w1.heap.size = z) ∧ Hid (w1.alloc (.cells #[.int .i64 0, .int .i64 0, .slice none 0 0] 35) = W2) ∧ Hid (DgAt W2 z 0 0 (.slice none 0 0)) ∧ Hid (W2.setRow z (dcs r.src r.dst r.v) = W3) ∧ Hid (r.v.oneCell' = true) ∧ Hid (DgAt W3 z r.src r.dst r.v ∧ DgAt W3 zr 0 0 (.slice none 0 0) ∧ w.heap.size ≤ z ∧ zr < z) ∧ Hid (Bw w W3)) := fun w1 k1 => by
    obtain ⟨z, W2, W3, q1, q2, q3, q4, q5, q6, q7⟩ := dg_box w1 r.src r.dst ho
    have hl := (Array.getElem?_eq_some_iff.1 hDr).1
    have h1 := k1.size
    have h2 := kW.size
    have h3 := q1.out
    exact ⟨z, W2, W3, q1, q2, q3, q4, q5, (⟨q6.out, (((k1.trans q7.out)).block zr hl).trans hDr, by omega, by omega⟩ : _ ∧ _), kW.trans (k1.trans q7.out)⟩
  have HD : Hid (∀ u, Bw w u → DsAt u (some ⟨ub, 0, none⟩) (E.take k)) := fun u ku => ((hB.keep ku).take k).src0
  have htk : Hid ((E.take k).length = k) := by show _ = _; rw [List.length_take]; have := hn.out; omega
  have hdk : Hid ((E.drop (k + 1)).length = n - (k + 1)) := by show _ = _; rw [List.length_drop, hn.out]
  have hok1 : Hid (∀ x ∈ E.take k, x.v.oneCell' = true) := fun x hx => hones x (List.mem_of_mem_take hx)
  have hok2 : Hid (∀ x ∈ E.drop (k + 1), x.v.oneCell' = true) := fun x hx => hones x (List.mem_of_mem_drop hx)
  obtain ⟨A2, hA2⟩ : ∃ A2, Hid ((if uc = k + 1 then some (⟨ub, 0, none⟩ : Addr) else some ⟨ub, (k + 1) * 3, none⟩) = some A2) := by
    by_cases e : uc = k + 1
    · exact ⟨_, by show _ = _; rw [if_pos e]⟩
    · exact ⟨_, by show _ = _; rw [if_neg e]⟩
  have HD2 : Hid (∀ u, Bw w u → DsAt u (some A2) (E.drop (k + 1))) := fun u ku => by
    by_cases e : uc = k + 1
    · exact .inl (List.drop_eq_nil_of_le (by have h1 := hn.out; have h2 := hcap.out.1; omega))
    · have h1 := hA2.out
      rw [if_neg e] at h1
      rw [← h1]
      exact (hB.keep ku).src (k + 1)
  have hwr : Hid (IntKind.i64.wrap ((k : Int) + 1) = (k : Int) + 1) := by
    refine (?_ : _ = _)
    rw [IntKind.wrap_i64]; omega
  have hfin1 : Hid (∀ (z : Nat) (u : World), Bw w u → w.heap.size ≤ z → zr < z → DgAt u z r.src r.dst r.v → DgAt u zr 0 0 (.slice none 0 0) → ∀ (v2 : Value) (w2 : World), Bw u w2 → w2.ownsRow u.heap.size 35 3 v2 (k + (n - (k + 1))) (flat (E.take k) ++ flat (E.drop (k + 1))) → ∃ A' n' c', v2 = .slice A' n' c' ∧ (w2.cell? ⟨g, 1, none⟩ = some (.slice (some ⟨ub, 0, none⟩) n uc) ∧ w2.frozen? ⟨g, 1, none⟩ = false) ∧ Hid (DgAt (w2.setCell ⟨g, 1, none⟩ v2) z r.src r.dst r.v ∧ DgAt (w2.setCell ⟨g, 1, none⟩ v2) zr 0 0 (.slice none 0 0) ∧ RCarry w g lv ov E Z S k r ((w2.setCell ⟨g, 1, none⟩ v2).setRow zr (dcs r.src r.dst r.v)))) := fun z u ku hz hzz hz1 hz2 v2 w2 k2w own2 => by
    have kw2 := ku.trans k2w
    have hgl := h.lt
    have hcells : w2.heap[g]? = some (.cells (rcells S.n lv ov) 57 (0, 0)) := (kw2.block g hgl).trans h.cells
    have e4 : flat (E.take k) ++ flat (E.drop (k + 1)) = flat (E.eraseIdx k) := by rw [← flat_append, List.eraseIdx_eq_take_drop_succ]
    have e5 : k + (n - (k + 1)) = (E.eraseIdx k).length := by rw [List.length_eraseIdx, hn.out, if_pos hkE]; omega
    rw [e4, e5] at own2
    obtain ⟨hU2, hge⟩ := UndAt.of_own own2
    obtain ⟨A', c', ev2⟩ := hU2.form
    have hwu := ku.size
    have hzl := (Array.getElem?_eq_some_iff.1 hz1).1
    have hzrl := (Array.getElem?_eq_some_iff.1 hz2).1
    have hX : Bx (· = g) w2 (w2.setCell ⟨g, 1, none⟩ v2) := (Bx.refl _ _).put rfl
    have hz3 : DgAt (w2.setCell ⟨g, 1, none⟩ v2) z r.src r.dst r.v := (hX.block z (Array.getElem?_eq_some_iff.1 ((k2w.block z hzl).trans hz1)).1 (fun e => by omega)).trans ((k2w.block z hzl).trans hz1)
    have hz4 : DgAt (w2.setCell ⟨g, 1, none⟩ v2) zr 0 0 (.slice none 0 0) := (hX.block zr (Array.getElem?_eq_some_iff.1 ((k2w.block zr hzrl).trans hz2)).1 (fun e => by have := hzw.out; omega)).trans ((k2w.block zr hzrl).trans hz2)
    have hX2 : Bx (· = zr) (w2.setCell ⟨g, 1, none⟩ v2) ((w2.setCell ⟨g, 1, none⟩ v2).setRow zr (dcs r.src r.dst r.v)) := bx_setRow (S := (· = zr)) (Bx.refl _ _) rfl _
    have hzr0 := hzw.out
    have hX3 : Bx (fun b => b = g ∨ b = zr) w2 ((w2.setCell ⟨g, 1, none⟩ v2).setRow zr (dcs r.src r.dst r.v)) := (hX.more (fun b hb => .inl hb)).trans (hX2.more (fun b hb => .inr hb))
    have hall2 : Bx (fun b => b = g ∨ b = zr) w ((w2.setCell ⟨g, 1, none⟩ v2).setRow zr (dcs r.src r.dst r.v)) := (Bx.of_bw kw2).trans hX3
    have hall : Bx (rIn g lv ov) w ((w2.setCell ⟨g, 1, none⟩ v2).setRow zr (dcs r.src r.dst r.v)) := by
      have h1 : Bx (fun b => b = g ∨ b = zr) w ((w2.setCell ⟨g, 1, none⟩ v2).setRow zr (dcs r.src r.dst r.v)) := (Bx.of_bw kw2).trans hX3
      exact ⟨h1.os, h1.tape, h1.output, h1.size, fun b hb hn' => h1.block b hb (fun e => e.elim (fun e => hn' (.inl e)) (fun e => by omega))⟩
    have hsz := k2w.size
    refine ⟨A', _, c', ev2, ⟨by rw [← elv]; exact cell_of_row w2 g 1 _ _ _ hcells, frozen_of_row w2 g 1 _ _ hcells⟩, (?_ : _ ∧ _)⟩
    refine ⟨hz3, hz4, v2, ?_, fun b hb => Nat.le_trans hwu (hge b hb), hall⟩
    rw [hlose]
    refine ⟨?_, hU2.keepx hX3 (fun b hb e => ?_), (h.dgs.erase k).keepx hall (h.sep.erase k), h.off.keepx hall2 (fun b hb e => e.elim (fun e => h.neo (by rw [hb, e])) (fun e => by have := h.off.lt b hb; omega)), h.cutz, h.few, hok, fun x hx b o m c e h0 hb => ?_⟩
    · exact (hX2.block g (by show g < (w2.setCell _ _).heap.size; have := hX.size; have := kw2.size; omega) (fun e => by omega)).trans (heap_setCell_same w2 g 1 _ _ _ hcells)
    · have := hge b hb
      rcases e with e | e
      · omega
      · omega
    · have h1 := h.sep.erase k x hx b o m c e h0
      have h2 := (h.dgs.erase k).low x hx b o m c e h0
      rcases hb with hb | hb | hb
      · exact h1 (.inl hb)
      · have := hge b hb; omega
      · exact h1 (.inr (.inr hb))
  have k3 : k ≤ uc := by have := hcap.out.1; omega
  have k4 : (k : Int) ≤ (uc : Int) := by omega
  have hkn : k + 1 ≤ n := hkE
  have hun := hcap.out.1
  clear h hr hk ho hones hlose hok hB elv c9 kW hDr hkE
  go_enter Try.func25, Try.ntmps25
  go_upto_region 1 with fail
  rw [hW1.out, hzr.out]
  go_upto_region 3 with (first
    | (go_at_call 31; refine HA.out.mono ?_; rintro e w1 ⟨rfl, kk1⟩; obtain ⟨z, W2, X, hz, hW2, hD2, hX, ho2, hE2, hkX⟩ := HBx.out w1 kk1)
    | (rw [hW2.out, hz.out]; refine wpList_store_row rfl 35 _ _ rfl z (dcs r.src r.dst r.v) rfl rfl 35 _ hD2.out (dg_info _ _ _) rfl (dg_all _ _ ho2.out).out ?_; rw [hX.out]))
  have hF : Hid (∀ (u : World), Bw X u → ∀ (v2 : Value) (w2 : World), Bw u w2 → w2.ownsRow u.heap.size 35 3 v2 (k + (n - (k + 1))) (flat (E.take k) ++ flat (E.drop (k + 1))) → ∃ A' n' c', v2 = .slice A' n' c' ∧ (w2.cell? ⟨g, 1, none⟩ = some (.slice (some ⟨ub, 0, none⟩) n uc) ∧ w2.frozen? ⟨g, 1, none⟩ = false) ∧ Hid (DgAt (w2.setCell ⟨g, 1, none⟩ v2) z r.src r.dst r.v ∧ DgAt (w2.setCell ⟨g, 1, none⟩ v2) zr 0 0 (.slice none 0 0) ∧ RCarry w g lv ov E Z S k r ((w2.setCell ⟨g, 1, none⟩ v2).setRow zr (dcs r.src r.dst r.v)))) := fun u ku =>
    hfin1.out z u (hkX.out.trans ku) hE2.out.2.2.1 hE2.out.2.2.2 ((ku.block z (Array.getElem?_eq_some_iff.1 hE2.out.1).1).trans hE2.out.1) ((ku.block zr (Array.getElem?_eq_some_iff.1 hE2.out.2.1).1).trans hE2.out.2.1)
  clear hfin1 HA HBx hz hW2 hD2 hX kk1
  have kwd : Bw X X.drew := (Bw.refl X).drew
  refine wp_region_held_drew (S := fun _ => True) (by kernel_rfl) trivial (fun hHeld => ?_)
  generalize X.drew = wd at kwd hHeld ⊢
  refine wpAnyH_take (i := 0) (v := ?_) rfl (by kernel_rfl) (by kernel_rfl) (by kernel_rfl) (fun _ _ _ h => h) (Or.inl ⟨by rfl, ?_⟩) trivial ?_
  rotate_left
  · intro w hSw; clear hSw; go_simp; all_goals (with_reducible rfl)
  try simp only [Act.put, List.setIfInBounds_toArray, List.set_cons_zero, List.set_cons_succ, List.getElem_toArray, List.getElem_cons_succ, List.getElem_cons_zero]
  refine wpAnyH_take (i := 2) (v := ?_) rfl (by kernel_rfl) (by kernel_rfl) (by kernel_rfl) (fun _ _ _ h => h) (Or.inl ⟨by rfl, ?_⟩) trivial ?_
  rotate_left
  · intro w hSw; clear hSw; go_simp; all_goals (with_reducible rfl)
  try simp only [Act.put, List.setIfInBounds_toArray, List.set_cons_zero, List.set_cons_succ, List.getElem_toArray, List.getElem_cons_succ, List.getElem_cons_zero]
  refine wpAnyH_take (i := 3) (v := ?_) rfl (by kernel_rfl) (by kernel_rfl) (by kernel_rfl) (fun _ _ _ h => h) (Or.inl ⟨by rfl, ?_⟩) trivial ?_
  rotate_left
  · intro w hSw; clear hSw; go_simp; all_goals (with_reducible rfl)
  try simp only [Act.put, List.setIfInBounds_toArray, List.set_cons_zero, List.set_cons_succ, List.getElem_toArray, List.getElem_cons_succ, List.getElem_cons_zero]
  refine wpAnyH_take (i := 4) (v := ?_) rfl (by kernel_rfl) (by kernel_rfl) (by kernel_rfl) (fun _ _ _ h => h) (Or.inl ⟨by rfl, ?_⟩) trivial ?_
  rotate_left
  · intro w hSw; clear hSw; go_simp; all_goals (with_reducible rfl)
  try simp only [Act.put, List.setIfInBounds_toArray, List.set_cons_zero, List.set_cons_succ, List.getElem_toArray, List.getElem_cons_succ, List.getElem_cons_zero]
  refine wpAnyH_take (i := 6) (v := ?_) rfl (by kernel_rfl) (by kernel_rfl) (by kernel_rfl) (fun _ _ _ h => h) (Or.inl ⟨by rfl, ?_⟩) trivial ?_
  rotate_left
  · intro w hSw; clear hSw; go_simp; all_goals (with_reducible rfl)
  try simp only [Act.put, List.setIfInBounds_toArray, List.set_cons_zero, List.set_cons_succ, List.getElem_toArray, List.getElem_cons_succ, List.getElem_cons_zero]
  refine wpAnyH_take (i := 9) (v := ?_) rfl (by kernel_rfl) (by kernel_rfl) (by kernel_rfl) (fun _ _ _ h => h) (Or.inl ⟨by rfl, ?_⟩) trivial ?_
  rotate_left
  · intro w hSw; clear hSw; go_simp; all_goals (with_reducible rfl)
  try simp only [Act.put, List.setIfInBounds_toArray, List.set_cons_zero, List.set_cons_succ, List.getElem_toArray, List.getElem_cons_succ, List.getElem_cons_zero]
  refine wpAnyH_take (i := 10) (v := ?_) rfl (by kernel_rfl) (by kernel_rfl) (by kernel_rfl) (fun _ _ _ h => h) (Or.inl ⟨by rfl, ?_⟩) trivial ?_
  rotate_left
  · intro w hSw; clear hSw; go_simp; all_goals (with_reducible rfl)
  try simp only [Act.put, List.setIfInBounds_toArray, List.set_cons_zero, List.set_cons_succ, List.getElem_toArray, List.getElem_cons_succ, List.getElem_cons_zero]
  refine wpAnyH_take (i := 11) (v := ?_) rfl (by kernel_rfl) (by kernel_rfl) (by kernel_rfl) (fun _ _ _ h => h) (Or.inl ⟨by rfl, ?_⟩) trivial ?_
  rotate_left
  · intro w hSw; clear hSw; go_simp; all_goals (with_reducible rfl)
  try simp only [Act.put, List.setIfInBounds_toArray, List.set_cons_zero, List.set_cons_succ, List.getElem_toArray, List.getElem_cons_succ, List.getElem_cons_zero]
  refine wpAnyH_take (i := 13) (v := ?_) rfl (by kernel_rfl) (by kernel_rfl) (by kernel_rfl) (fun _ _ _ h => h) (Or.inl ⟨by rfl, ?_⟩) trivial ?_
  rotate_left
  · intro w hSw; clear hSw; go_simp; all_goals (with_reducible rfl)
  try simp only [Act.put, List.setIfInBounds_toArray, List.set_cons_zero, List.set_cons_succ, List.getElem_toArray, List.getElem_cons_succ, List.getElem_cons_zero]
  refine wpAnyH_take (i := 14) (v := .int .i64 ((k : Int) + 1)) rfl (by kernel_rfl) (by kernel_rfl) (by kernel_rfl) (fun _ _ _ h => h) (Or.inl ⟨by rfl, ?_⟩) trivial ?_
  · intro w hSw; clear hSw; go_simp; rw [hwr.out]
  try simp only [Act.put, List.setIfInBounds_toArray, List.set_cons_zero, List.set_cons_succ, List.getElem_toArray, List.getElem_cons_succ, List.getElem_cons_zero]
  refine wpAnyH_ready (rs := [1, 5, 12]) (by kernel_rfl) (by simp) ?_
  refine (AllReadyH.cons rfl (fun K hK => ?_) (AllReadyH.cons rfl (fun K hK => ?_) (AllReadyH.cons rfl (fun K hK => ?_) AllReadyH.nil)))
  · skip
    go_simp
    refine hK.out _ _ trivial (fun hHeld => ?_)
    clear hK K
    try simp only [Act.put, List.setIfInBounds_toArray, List.set_cons_zero, List.set_cons_succ, List.getElem_toArray, List.getElem_cons_succ, List.getElem_cons_zero]
    refine wpAnyH_ready (rs := [5, 12]) (by kernel_rfl) (by simp) ?_
    refine (AllReadyH.cons rfl (fun K hK => ?_) (AllReadyH.cons rfl (fun K hK => ?_) AllReadyH.nil))
    · skip
      have c1 : ∀ o, (wd.alloc o).cell? ⟨g, 1, none⟩ = _ := fun o => HC1.out _ (bw_allocx (hkX.out.trans kwd))
      go_simp
      refine hK.out _ _ trivial (fun hHeld => ?_)
      clear hK K
      try simp only [Act.put, List.setIfInBounds_toArray, List.set_cons_zero, List.set_cons_succ, List.getElem_toArray, List.getElem_cons_succ, List.getElem_cons_zero]
      clear c1
      refine wpAnyH_take (i := 7) (v := .slice (some ⟨ub, 0, none⟩) k uc) rfl (by kernel_rfl) (by kernel_rfl) (by kernel_rfl) (fun _ _ _ h => h) (Or.inl ⟨by rfl, ?_⟩) trivial ?_
      · intro w hSw; clear hSw; go_simp; first | rfl | rw [if_pos k3] | skip
      try simp only [Act.put, List.setIfInBounds_toArray, List.set_cons_zero, List.set_cons_succ, List.getElem_toArray, List.getElem_cons_succ, List.getElem_cons_zero]
      refine wpAnyH_ready (rs := [8, 12]) (by kernel_rfl) (by simp) ?_
      refine (AllReadyH.cons rfl (fun K hK => ?_) (AllReadyH.cons rfl (fun K hK => ?_) AllReadyH.nil))
      · skip
        refine step_append_dgs (by rfl) (.tmp 16) (.tmp 22) (by rfl) wd.heap.size _ 0 [] (by rfl) ⟨rfl, .inr ⟨wd.heap.size, 0, #[], rfl, Nat.le_refl _, heap_alloc_new _ _, Nat.le_refl _, Nat.zero_le _, rfl, rfl⟩⟩ ⟨ub, 0, none⟩ k uc (E.take k) (by rfl) htk.out (HD.out _ (bw_allocx (hkX.out.trans kwd))) hok1.out (by omega) (by rw [size_alloc]; omega) ?_
        intro v1 w1 own1 gr1
        have kw1 : Bw wd w1 := bw_fresh gr1
        rw [Nat.zero_add, List.nil_append] at own1
        replace own1 := (show Hid (w1.ownsRow wd.heap.size 35 3 v1 k (flat (E.take k))) from own1)
        clear gr1
        refine hK.out _ _ trivial (fun hHeld => ?_)
        clear hK K
        try simp only [Act.put, List.setIfInBounds_toArray, List.set_cons_zero, List.set_cons_succ, List.getElem_toArray, List.getElem_cons_succ, List.getElem_cons_zero]
        refine wpAnyH_ready (rs := [12]) (by kernel_rfl) (by simp) ?_
        refine (AllReadyH.cons rfl (fun K hK => ?_) AllReadyH.nil)
        have c1 := HC1.out w1 (hkX.out.trans (kwd.trans kw1))
        go_simp
        refine hK.out _ _ trivial (fun hHeld => ?_)
        clear hK K
        try simp only [Act.put, List.setIfInBounds_toArray, List.set_cons_zero, List.set_cons_succ, List.getElem_toArray, List.getElem_cons_succ, List.getElem_cons_zero]
        clear c1
        refine wpAnyH_take (i := 15) (v := .slice (some A2) (n - (k + 1)) (uc - (k + 1))) rfl (by kernel_rfl) (by kernel_rfl) (by kernel_rfl) (fun _ _ _ h => h) (Or.inl ⟨by rfl, ?_⟩) trivial ?_
        · intro w hSw; clear hSw; go_simp; rw [if_pos ⟨by omega, by omega⟩, hA2.out]
        try simp only [Act.put, List.setIfInBounds_toArray, List.set_cons_zero, List.set_cons_succ, List.getElem_toArray, List.getElem_cons_succ, List.getElem_cons_zero]
        refine wpAnyH_ready (rs := [16]) (by kernel_rfl) (by simp) ?_
        refine (AllReadyH.cons rfl (fun K hK => ?_) AllReadyH.nil)
        refine step_append_dgs (by rfl) (.tmp 23) (.tmp 30) (by rfl) wd.heap.size _ k (flat (E.take k)) (by rfl) own1.out A2 (n - (k + 1)) (uc - (k + 1)) (E.drop (k + 1)) (by rfl) hdk.out (HD2.out _ (hkX.out.trans (kwd.trans kw1))) hok2.out (by omega) kw1.size ?_
        intro v2 w2 own2 gr2
        have kw2 : Bw wd w2 := bw_grow gr2 kw1 kw1.size own1.out
        obtain ⟨A9, n9, c9, ev9, ⟨d1, f1⟩, hE9⟩ := hF.out wd kwd v2 w2 kw2 own2
        subst ev9
        clear own2 gr2
        refine hK.out _ _ trivial (fun hHeld => ?_)
        clear hK K
        try simp only [Act.put, List.setIfInBounds_toArray, List.set_cons_zero, List.set_cons_succ, List.getElem_toArray, List.getElem_cons_succ, List.getElem_cons_zero]
        refine wpAnyH_take (i := 17) (v := ?_) rfl (by kernel_rfl) (by kernel_rfl) (by kernel_rfl) (fun _ _ _ h => h) (Or.inl ⟨by rfl, ?_⟩) trivial ?_
        rotate_left
        · intro w hSw; clear hSw; go_simp; all_goals (with_reducible rfl)
        try simp only [Act.put, List.setIfInBounds_toArray, List.set_cons_zero, List.set_cons_succ, List.getElem_toArray, List.getElem_cons_succ, List.getElem_cons_zero]
        refine wpAnyH_take (i := 18) (v := ?_) rfl (by kernel_rfl) (by kernel_rfl) (by kernel_rfl) (fun _ _ _ h => h) (Or.inl ⟨by rfl, ?_⟩) trivial ?_
        rotate_left
        · intro w hSw; clear hSw; go_simp; all_goals (with_reducible rfl)
        try simp only [Act.put, List.setIfInBounds_toArray, List.set_cons_zero, List.set_cons_succ, List.getElem_toArray, List.getElem_cons_succ, List.getElem_cons_zero]
        refine wpAnyH_ready (rs := [19]) (by kernel_rfl) (by simp) ?_
        refine (AllReadyH.cons rfl (fun K hK => ?_) AllReadyH.nil)
        go_simp
        refine hK.out _ _ trivial (fun hHeld => ?_)
        clear hK K
        try simp only [Act.put, List.setIfInBounds_toArray, List.set_cons_zero, List.set_cons_succ, List.getElem_toArray, List.getElem_cons_succ, List.getElem_cons_zero]
        refine wpAnyH_done (by kernel_rfl) ?_ _
        obtain ⟨Y, hY⟩ : ∃ Y, Hid (w2.setCell ⟨g, 1, none⟩ (.slice A9 n9 c9) = Y) := ⟨_, rfl⟩
        rw [hY.out] at hE9 ⊢
        clear d1 f1
        go_wp2_with (first
          | refine wpList_load_row rfl 35 _ rfl z rfl 35 (dcs r.src r.dst r.v) (0, 0) _ hE9.out.1 Try.underlying35 rfl (dg_info _ _ _) ?_
          | refine wpList_store_row rfl 35 _ _ rfl zr (dcs r.src r.dst r.v) rfl rfl 35 _ hE9.out.2.1 (dg_info _ _ _) rfl (dg_all _ _ ho2.out).out ?_)
        try simp only [Exit.inBlock, Exit.then]
        refine bodyPost_ret (results_row_tmp (p := 4) (u := 5) (by rfl) _ _ zr 35 (dcs r.src r.dst r.v) (0, 0) _ (by rfl) (setRow_heap _ _ _ _ _ _ hE9.out.2.1) Try.underlying35 rfl (dg_info _ _ _)) rfl ?_
        exact ⟨rfl, hE9.out.2.2⟩
      · skip
        have c1 : ∀ o, (wd.alloc o).cell? ⟨g, 1, none⟩ = _ := fun o => HC1.out _ (bw_allocx (hkX.out.trans kwd))
        go_simp
        refine hK.out _ _ trivial (fun hHeld => ?_)
        clear hK K
        try simp only [Act.put, List.setIfInBounds_toArray, List.set_cons_zero, List.set_cons_succ, List.getElem_toArray, List.getElem_cons_succ, List.getElem_cons_zero]
        clear c1
        refine wpAnyH_take (i := 15) (v := .slice (some A2) (n - (k + 1)) (uc - (k + 1))) rfl (by kernel_rfl) (by kernel_rfl) (by kernel_rfl) (fun _ _ _ h => h) (Or.inl ⟨by rfl, ?_⟩) trivial ?_
        · intro w hSw; clear hSw; go_simp; rw [if_pos ⟨by omega, by omega⟩, hA2.out]
        try simp only [Act.put, List.setIfInBounds_toArray, List.set_cons_zero, List.set_cons_succ, List.getElem_toArray, List.getElem_cons_succ, List.getElem_cons_zero]
        refine wpAnyH_ready (rs := [8]) (by kernel_rfl) (by simp) ?_
        refine (AllReadyH.cons rfl (fun K hK => ?_) AllReadyH.nil)
        refine step_append_dgs (by rfl) (.tmp 16) (.tmp 22) (by rfl) wd.heap.size _ 0 [] (by rfl) ⟨rfl, .inr ⟨wd.heap.size, 0, #[], rfl, Nat.le_refl _, heap_alloc_new _ _, Nat.le_refl _, Nat.zero_le _, rfl, rfl⟩⟩ ⟨ub, 0, none⟩ k uc (E.take k) (by rfl) htk.out (HD.out _ (bw_allocx (hkX.out.trans kwd))) hok1.out (by omega) (by rw [size_alloc]; omega) ?_
        intro v1 w1 own1 gr1
        have kw1 : Bw wd w1 := bw_fresh gr1
        rw [Nat.zero_add, List.nil_append] at own1
        replace own1 := (show Hid (w1.ownsRow wd.heap.size 35 3 v1 k (flat (E.take k))) from own1)
        clear gr1
        refine hK.out _ _ trivial (fun hHeld => ?_)
        clear hK K
        try simp only [Act.put, List.setIfInBounds_toArray, List.set_cons_zero, List.set_cons_succ, List.getElem_toArray, List.getElem_cons_succ, List.getElem_cons_zero]
        refine wpAnyH_ready (rs := [16]) (by kernel_rfl) (by simp) ?_
        refine (AllReadyH.cons rfl (fun K hK => ?_) AllReadyH.nil)
        refine step_append_dgs (by rfl) (.tmp 23) (.tmp 30) (by rfl) wd.heap.size _ k (flat (E.take k)) (by rfl) own1.out A2 (n - (k + 1)) (uc - (k + 1)) (E.drop (k + 1)) (by rfl) hdk.out (HD2.out _ (hkX.out.trans (kwd.trans kw1))) hok2.out (by omega) kw1.size ?_
        intro v2 w2 own2 gr2
        have kw2 : Bw wd w2 := bw_grow gr2 kw1 kw1.size own1.out
        obtain ⟨A9, n9, c9, ev9, ⟨d1, f1⟩, hE9⟩ := hF.out wd kwd v2 w2 kw2 own2
        subst ev9
        clear own2 gr2
        refine hK.out _ _ trivial (fun hHeld => ?_)
        clear hK K
        try simp only [Act.put, List.setIfInBounds_toArray, List.set_cons_zero, List.set_cons_succ, List.getElem_toArray, List.getElem_cons_succ, List.getElem_cons_zero]
        refine wpAnyH_take (i := 17) (v := ?_) rfl (by kernel_rfl) (by kernel_rfl) (by kernel_rfl) (fun _ _ _ h => h) (Or.inl ⟨by rfl, ?_⟩) trivial ?_
        rotate_left
        · intro w hSw; clear hSw; go_simp; all_goals (with_reducible rfl)
        try simp only [Act.put, List.setIfInBounds_toArray, List.set_cons_zero, List.set_cons_succ, List.getElem_toArray, List.getElem_cons_succ, List.getElem_cons_zero]
        refine wpAnyH_take (i := 18) (v := ?_) rfl (by kernel_rfl) (by kernel_rfl) (by kernel_rfl) (fun _ _ _ h => h) (Or.inl ⟨by rfl, ?_⟩) trivial ?_
        rotate_left
        · intro w hSw; clear hSw; go_simp; all_goals (with_reducible rfl)
        try simp only [Act.put, List.setIfInBounds_toArray, List.set_cons_zero, List.set_cons_succ, List.getElem_toArray, List.getElem_cons_succ, List.getElem_cons_zero]
        refine wpAnyH_ready (rs := [19]) (by kernel_rfl) (by simp) ?_
        refine (AllReadyH.cons rfl (fun K hK => ?_) AllReadyH.nil)
        go_simp
        refine hK.out _ _ trivial (fun hHeld => ?_)
        clear hK K
        try simp only [Act.put, List.setIfInBounds_toArray, List.set_cons_zero, List.set_cons_succ, List.getElem_toArray, List.getElem_cons_succ, List.getElem_cons_zero]
        refine wpAnyH_done (by kernel_rfl) ?_ _
        obtain ⟨Y, hY⟩ : ∃ Y, Hid (w2.setCell ⟨g, 1, none⟩ (.slice A9 n9 c9) = Y) := ⟨_, rfl⟩
        rw [hY.out] at hE9 ⊢
        clear d1 f1
        go_wp2_with (first
          | refine wpList_load_row rfl 35 _ rfl z rfl 35 (dcs r.src r.dst r.v) (0, 0) _ hE9.out.1 Try.underlying35 rfl (dg_info _ _ _) ?_
          | refine wpList_store_row rfl 35 _ _ rfl zr (dcs r.src r.dst r.v) rfl rfl 35 _ hE9.out.2.1 (dg_info _ _ _) rfl (dg_all _ _ ho2.out).out ?_)
        try simp only [Exit.inBlock, Exit.then]
        refine bodyPost_ret (results_row_tmp (p := 4) (u := 5) (by rfl) _ _ zr 35 (dcs r.src r.dst r.v) (0, 0) _ (by rfl) (setRow_heap _ _ _ _ _ _ hE9.out.2.1) Try.underlying35 rfl (dg_info _ _ _)) rfl ?_
        exact ⟨rfl, hE9.out.2.2⟩
    · skip
      have c1 : ∀ o, (wd.alloc o).cell? ⟨g, 1, none⟩ = _ := fun o => HC1.out _ (bw_allocx (hkX.out.trans kwd))
      go_simp
      refine hK.out _ _ trivial (fun hHeld => ?_)
      clear hK K
      try simp only [Act.put, List.setIfInBounds_toArray, List.set_cons_zero, List.set_cons_succ, List.getElem_toArray, List.getElem_cons_succ, List.getElem_cons_zero]
      clear c1
      refine wpAnyH_take (i := 15) (v := .slice (some A2) (n - (k + 1)) (uc - (k + 1))) rfl (by kernel_rfl) (by kernel_rfl) (by kernel_rfl) (fun _ _ _ h => h) (Or.inl ⟨by rfl, ?_⟩) trivial ?_
      · intro w hSw; clear hSw; go_simp; rw [if_pos ⟨by omega, by omega⟩, hA2.out]
      try simp only [Act.put, List.setIfInBounds_toArray, List.set_cons_zero, List.set_cons_succ, List.getElem_toArray, List.getElem_cons_succ, List.getElem_cons_zero]
      refine wpAnyH_ready (rs := [5]) (by kernel_rfl) (by simp) ?_
      refine (AllReadyH.cons rfl (fun K hK => ?_) AllReadyH.nil)
      have c1 : ∀ o, (wd.alloc o).cell? ⟨g, 1, none⟩ = _ := fun o => HC1.out _ (bw_allocx (hkX.out.trans kwd))
      go_simp
      refine hK.out _ _ trivial (fun hHeld => ?_)
      clear hK K
      try simp only [Act.put, List.setIfInBounds_toArray, List.set_cons_zero, List.set_cons_succ, List.getElem_toArray, List.getElem_cons_succ, List.getElem_cons_zero]
      clear c1
      refine wpAnyH_take (i := 7) (v := .slice (some ⟨ub, 0, none⟩) k uc) rfl (by kernel_rfl) (by kernel_rfl) (by kernel_rfl) (fun _ _ _ h => h) (Or.inl ⟨by rfl, ?_⟩) trivial ?_
      · intro w hSw; clear hSw; go_simp; first | rfl | rw [if_pos k3] | skip
      try simp only [Act.put, List.setIfInBounds_toArray, List.set_cons_zero, List.set_cons_succ, List.getElem_toArray, List.getElem_cons_succ, List.getElem_cons_zero]
      refine wpAnyH_ready (rs := [8]) (by kernel_rfl) (by simp) ?_
      refine (AllReadyH.cons rfl (fun K hK => ?_) AllReadyH.nil)
      refine step_append_dgs (by rfl) (.tmp 16) (.tmp 22) (by rfl) wd.heap.size _ 0 [] (by rfl) ⟨rfl, .inr ⟨wd.heap.size, 0, #[], rfl, Nat.le_refl _, heap_alloc_new _ _, Nat.le_refl _, Nat.zero_le _, rfl, rfl⟩⟩ ⟨ub, 0, none⟩ k uc (E.take k) (by rfl) htk.out (HD.out _ (bw_allocx (hkX.out.trans kwd))) hok1.out (by omega) (by rw [size_alloc]; omega) ?_
      intro v1 w1 own1 gr1
      have kw1 : Bw wd w1 := bw_fresh gr1
      rw [Nat.zero_add, List.nil_append] at own1
      replace own1 := (show Hid (w1.ownsRow wd.heap.size 35 3 v1 k (flat (E.take k))) from own1)
      clear gr1
      refine hK.out _ _ trivial (fun hHeld => ?_)
      clear hK K
      try simp only [Act.put, List.setIfInBounds_toArray, List.set_cons_zero, List.set_cons_succ, List.getElem_toArray, List.getElem_cons_succ, List.getElem_cons_zero]
      refine wpAnyH_ready (rs := [16]) (by kernel_rfl) (by simp) ?_
      refine (AllReadyH.cons rfl (fun K hK => ?_) AllReadyH.nil)
      refine step_append_dgs (by rfl) (.tmp 23) (.tmp 30) (by rfl) wd.heap.size _ k (flat (E.take k)) (by rfl) own1.out A2 (n - (k + 1)) (uc - (k + 1)) (E.drop (k + 1)) (by rfl) hdk.out (HD2.out _ (hkX.out.trans (kwd.trans kw1))) hok2.out (by omega) kw1.size ?_
      intro v2 w2 own2 gr2
      have kw2 : Bw wd w2 := bw_grow gr2 kw1 kw1.size own1.out
      obtain ⟨A9, n9, c9, ev9, ⟨d1, f1⟩, hE9⟩ := hF.out wd kwd v2 w2 kw2 own2
      subst ev9
      clear own2 gr2
      refine hK.out _ _ trivial (fun hHeld => ?_)
      clear hK K
      try simp only [Act.put, List.setIfInBounds_toArray, List.set_cons_zero, List.set_cons_succ, List.getElem_toArray, List.getElem_cons_succ, List.getElem_cons_zero]
      refine wpAnyH_take (i := 17) (v := ?_) rfl (by kernel_rfl) (by kernel_rfl) (by kernel_rfl) (fun _ _ _ h => h) (Or.inl ⟨by rfl, ?_⟩) trivial ?_
      rotate_left
      · intro w hSw; clear hSw; go_simp; all_goals (with_reducible rfl)
      try simp only [Act.put, List.setIfInBounds_toArray, List.set_cons_zero, List.set_cons_succ, List.getElem_toArray, List.getElem_cons_succ, List.getElem_cons_zero]
      refine wpAnyH_take (i := 18) (v := ?_) rfl (by kernel_rfl) (by kernel_rfl) (by kernel_rfl) (fun _ _ _ h => h) (Or.inl ⟨by rfl, ?_⟩) trivial ?_
      rotate_left
      · intro w hSw; clear hSw; go_simp; all_goals (with_reducible rfl)
      try simp only [Act.put, List.setIfInBounds_toArray, List.set_cons_zero, List.set_cons_succ, List.getElem_toArray, List.getElem_cons_succ, List.getElem_cons_zero]
      refine wpAnyH_ready (rs := [19]) (by kernel_rfl) (by simp) ?_
      refine (AllReadyH.cons rfl (fun K hK => ?_) AllReadyH.nil)
      go_simp
      refine hK.out _ _ trivial (fun hHeld => ?_)
      clear hK K
      try simp only [Act.put, List.setIfInBounds_toArray, List.set_cons_zero, List.set_cons_succ, List.getElem_toArray, List.getElem_cons_succ, List.getElem_cons_zero]
      refine wpAnyH_done (by kernel_rfl) ?_ _
      obtain ⟨Y, hY⟩ : ∃ Y, Hid (w2.setCell ⟨g, 1, none⟩ (.slice A9 n9 c9) = Y) := ⟨_, rfl⟩
      rw [hY.out] at hE9 ⊢
      clear d1 f1
      go_wp2_with (first
        | refine wpList_load_row rfl 35 _ rfl z rfl 35 (dcs r.src r.dst r.v) (0, 0) _ hE9.out.1 Try.underlying35 rfl (dg_info _ _ _) ?_
        | refine wpList_store_row rfl 35 _ _ rfl zr (dcs r.src r.dst r.v) rfl rfl 35 _ hE9.out.2.1 (dg_info _ _ _) rfl (dg_all _ _ ho2.out).out ?_)
      try simp only [Exit.inBlock, Exit.then]
      refine bodyPost_ret (results_row_tmp (p := 4) (u := 5) (by rfl) _ _ zr 35 (dcs r.src r.dst r.v) (0, 0) _ (by rfl) (setRow_heap _ _ _ _ _ _ hE9.out.2.1) Try.underlying35 rfl (dg_info _ _ _)) rfl ?_
      exact ⟨rfl, hE9.out.2.2⟩
  · skip
    have c1 := HC1.out wd (hkX.out.trans kwd)
    go_simp
    refine hK.out _ _ trivial (fun hHeld => ?_)
    clear hK K
    try simp only [Act.put, List.setIfInBounds_toArray, List.set_cons_zero, List.set_cons_succ, List.getElem_toArray, List.getElem_cons_succ, List.getElem_cons_zero]
    clear c1
    refine wpAnyH_take (i := 7) (v := .slice (some ⟨ub, 0, none⟩) k uc) rfl (by kernel_rfl) (by kernel_rfl) (by kernel_rfl) (fun _ _ _ h => h) (Or.inl ⟨by rfl, ?_⟩) trivial ?_
    · intro w hSw; clear hSw; go_simp; first | rfl | rw [if_pos k3] | skip
    try simp only [Act.put, List.setIfInBounds_toArray, List.set_cons_zero, List.set_cons_succ, List.getElem_toArray, List.getElem_cons_succ, List.getElem_cons_zero]
    refine wpAnyH_ready (rs := [1, 12]) (by kernel_rfl) (by simp) ?_
    refine (AllReadyH.cons rfl (fun K hK => ?_) (AllReadyH.cons rfl (fun K hK => ?_) AllReadyH.nil))
    · skip
      go_simp
      refine hK.out _ _ trivial (fun hHeld => ?_)
      clear hK K
      try simp only [Act.put, List.setIfInBounds_toArray, List.set_cons_zero, List.set_cons_succ, List.getElem_toArray, List.getElem_cons_succ, List.getElem_cons_zero]
      refine wpAnyH_ready (rs := [8, 12]) (by kernel_rfl) (by simp) ?_
      refine (AllReadyH.cons rfl (fun K hK => ?_) (AllReadyH.cons rfl (fun K hK => ?_) AllReadyH.nil))
      · skip
        refine step_append_dgs (by rfl) (.tmp 16) (.tmp 22) (by rfl) wd.heap.size _ 0 [] (by rfl) ⟨rfl, .inr ⟨wd.heap.size, 0, #[], rfl, Nat.le_refl _, heap_alloc_new _ _, Nat.le_refl _, Nat.zero_le _, rfl, rfl⟩⟩ ⟨ub, 0, none⟩ k uc (E.take k) (by rfl) htk.out (HD.out _ (bw_allocx (hkX.out.trans kwd))) hok1.out (by omega) (by rw [size_alloc]; omega) ?_
        intro v1 w1 own1 gr1
        have kw1 : Bw wd w1 := bw_fresh gr1
        rw [Nat.zero_add, List.nil_append] at own1
        replace own1 := (show Hid (w1.ownsRow wd.heap.size 35 3 v1 k (flat (E.take k))) from own1)
        clear gr1
        refine hK.out _ _ trivial (fun hHeld => ?_)
        clear hK K
        try simp only [Act.put, List.setIfInBounds_toArray, List.set_cons_zero, List.set_cons_succ, List.getElem_toArray, List.getElem_cons_succ, List.getElem_cons_zero]
        refine wpAnyH_ready (rs := [12]) (by kernel_rfl) (by simp) ?_
        refine (AllReadyH.cons rfl (fun K hK => ?_) AllReadyH.nil)
        have c1 := HC1.out w1 (hkX.out.trans (kwd.trans kw1))
        go_simp
        refine hK.out _ _ trivial (fun hHeld => ?_)
        clear hK K
        try simp only [Act.put, List.setIfInBounds_toArray, List.set_cons_zero, List.set_cons_succ, List.getElem_toArray, List.getElem_cons_succ, List.getElem_cons_zero]
        clear c1
        refine wpAnyH_take (i := 15) (v := .slice (some A2) (n - (k + 1)) (uc - (k + 1))) rfl (by kernel_rfl) (by kernel_rfl) (by kernel_rfl) (fun _ _ _ h => h) (Or.inl ⟨by rfl, ?_⟩) trivial ?_
        · intro w hSw; clear hSw; go_simp; rw [if_pos ⟨by omega, by omega⟩, hA2.out]
        try simp only [Act.put, List.setIfInBounds_toArray, List.set_cons_zero, List.set_cons_succ, List.getElem_toArray, List.getElem_cons_succ, List.getElem_cons_zero]
        refine wpAnyH_ready (rs := [16]) (by kernel_rfl) (by simp) ?_
        refine (AllReadyH.cons rfl (fun K hK => ?_) AllReadyH.nil)
        refine step_append_dgs (by rfl) (.tmp 23) (.tmp 30) (by rfl) wd.heap.size _ k (flat (E.take k)) (by rfl) own1.out A2 (n - (k + 1)) (uc - (k + 1)) (E.drop (k + 1)) (by rfl) hdk.out (HD2.out _ (hkX.out.trans (kwd.trans kw1))) hok2.out (by omega) kw1.size ?_
        intro v2 w2 own2 gr2
        have kw2 : Bw wd w2 := bw_grow gr2 kw1 kw1.size own1.out
        obtain ⟨A9, n9, c9, ev9, ⟨d1, f1⟩, hE9⟩ := hF.out wd kwd v2 w2 kw2 own2
        subst ev9
        clear own2 gr2
        refine hK.out _ _ trivial (fun hHeld => ?_)
        clear hK K
        try simp only [Act.put, List.setIfInBounds_toArray, List.set_cons_zero, List.set_cons_succ, List.getElem_toArray, List.getElem_cons_succ, List.getElem_cons_zero]
        refine wpAnyH_take (i := 17) (v := ?_) rfl (by kernel_rfl) (by kernel_rfl) (by kernel_rfl) (fun _ _ _ h => h) (Or.inl ⟨by rfl, ?_⟩) trivial ?_
        rotate_left
        · intro w hSw; clear hSw; go_simp; all_goals (with_reducible rfl)
        try simp only [Act.put, List.setIfInBounds_toArray, List.set_cons_zero, List.set_cons_succ, List.getElem_toArray, List.getElem_cons_succ, List.getElem_cons_zero]
        refine wpAnyH_take (i := 18) (v := ?_) rfl (by kernel_rfl) (by kernel_rfl) (by kernel_rfl) (fun _ _ _ h => h) (Or.inl ⟨by rfl, ?_⟩) trivial ?_
        rotate_left
        · intro w hSw; clear hSw; go_simp; all_goals (with_reducible rfl)
        try simp only [Act.put, List.setIfInBounds_toArray, List.set_cons_zero, List.set_cons_succ, List.getElem_toArray, List.getElem_cons_succ, List.getElem_cons_zero]
        refine wpAnyH_ready (rs := [19]) (by kernel_rfl) (by simp) ?_
        refine (AllReadyH.cons rfl (fun K hK => ?_) AllReadyH.nil)
        go_simp
        refine hK.out _ _ trivial (fun hHeld => ?_)
        clear hK K
        try simp only [Act.put, List.setIfInBounds_toArray, List.set_cons_zero, List.set_cons_succ, List.getElem_toArray, List.getElem_cons_succ, List.getElem_cons_zero]
        refine wpAnyH_done (by kernel_rfl) ?_ _
        obtain ⟨Y, hY⟩ : ∃ Y, Hid (w2.setCell ⟨g, 1, none⟩ (.slice A9 n9 c9) = Y) := ⟨_, rfl⟩
        rw [hY.out] at hE9 ⊢
        clear d1 f1
        go_wp2_with (first
          | refine wpList_load_row rfl 35 _ rfl z rfl 35 (dcs r.src r.dst r.v) (0, 0) _ hE9.out.1 Try.underlying35 rfl (dg_info _ _ _) ?_
          | refine wpList_store_row rfl 35 _ _ rfl zr (dcs r.src r.dst r.v) rfl rfl 35 _ hE9.out.2.1 (dg_info _ _ _) rfl (dg_all _ _ ho2.out).out ?_)
        try simp only [Exit.inBlock, Exit.then]
        refine bodyPost_ret (results_row_tmp (p := 4) (u := 5) (by rfl) _ _ zr 35 (dcs r.src r.dst r.v) (0, 0) _ (by rfl) (setRow_heap _ _ _ _ _ _ hE9.out.2.1) Try.underlying35 rfl (dg_info _ _ _)) rfl ?_
        exact ⟨rfl, hE9.out.2.2⟩
      · skip
        have c1 : ∀ o, (wd.alloc o).cell? ⟨g, 1, none⟩ = _ := fun o => HC1.out _ (bw_allocx (hkX.out.trans kwd))
        go_simp
        refine hK.out _ _ trivial (fun hHeld => ?_)
        clear hK K
        try simp only [Act.put, List.setIfInBounds_toArray, List.set_cons_zero, List.set_cons_succ, List.getElem_toArray, List.getElem_cons_succ, List.getElem_cons_zero]
        clear c1
        refine wpAnyH_take (i := 15) (v := .slice (some A2) (n - (k + 1)) (uc - (k + 1))) rfl (by kernel_rfl) (by kernel_rfl) (by kernel_rfl) (fun _ _ _ h => h) (Or.inl ⟨by rfl, ?_⟩) trivial ?_
        · intro w hSw; clear hSw; go_simp; rw [if_pos ⟨by omega, by omega⟩, hA2.out]
        try simp only [Act.put, List.setIfInBounds_toArray, List.set_cons_zero, List.set_cons_succ, List.getElem_toArray, List.getElem_cons_succ, List.getElem_cons_zero]
        refine wpAnyH_ready (rs := [8]) (by kernel_rfl) (by simp) ?_
        refine (AllReadyH.cons rfl (fun K hK => ?_) AllReadyH.nil)
        refine step_append_dgs (by rfl) (.tmp 16) (.tmp 22) (by rfl) wd.heap.size _ 0 [] (by rfl) ⟨rfl, .inr ⟨wd.heap.size, 0, #[], rfl, Nat.le_refl _, heap_alloc_new _ _, Nat.le_refl _, Nat.zero_le _, rfl, rfl⟩⟩ ⟨ub, 0, none⟩ k uc (E.take k) (by rfl) htk.out (HD.out _ (bw_allocx (hkX.out.trans kwd))) hok1.out (by omega) (by rw [size_alloc]; omega) ?_
        intro v1 w1 own1 gr1
        have kw1 : Bw wd w1 := bw_fresh gr1
        rw [Nat.zero_add, List.nil_append] at own1
        replace own1 := (show Hid (w1.ownsRow wd.heap.size 35 3 v1 k (flat (E.take k))) from own1)
        clear gr1
        refine hK.out _ _ trivial (fun hHeld => ?_)
        clear hK K
        try simp only [Act.put, List.setIfInBounds_toArray, List.set_cons_zero, List.set_cons_succ, List.getElem_toArray, List.getElem_cons_succ, List.getElem_cons_zero]
        refine wpAnyH_ready (rs := [16]) (by kernel_rfl) (by simp) ?_
        refine (AllReadyH.cons rfl (fun K hK => ?_) AllReadyH.nil)
        refine step_append_dgs (by rfl) (.tmp 23) (.tmp 30) (by rfl) wd.heap.size _ k (flat (E.take k)) (by rfl) own1.out A2 (n - (k + 1)) (uc - (k + 1)) (E.drop (k + 1)) (by rfl) hdk.out (HD2.out _ (hkX.out.trans (kwd.trans kw1))) hok2.out (by omega) kw1.size ?_
        intro v2 w2 own2 gr2
        have kw2 : Bw wd w2 := bw_grow gr2 kw1 kw1.size own1.out
        obtain ⟨A9, n9, c9, ev9, ⟨d1, f1⟩, hE9⟩ := hF.out wd kwd v2 w2 kw2 own2
        subst ev9
        clear own2 gr2
        refine hK.out _ _ trivial (fun hHeld => ?_)
        clear hK K
        try simp only [Act.put, List.setIfInBounds_toArray, List.set_cons_zero, List.set_cons_succ, List.getElem_toArray, List.getElem_cons_succ, List.getElem_cons_zero]
        refine wpAnyH_take (i := 17) (v := ?_) rfl (by kernel_rfl) (by kernel_rfl) (by kernel_rfl) (fun _ _ _ h => h) (Or.inl ⟨by rfl, ?_⟩) trivial ?_
        rotate_left
        · intro w hSw; clear hSw; go_simp; all_goals (with_reducible rfl)
        try simp only [Act.put, List.setIfInBounds_toArray, List.set_cons_zero, List.set_cons_succ, List.getElem_toArray, List.getElem_cons_succ, List.getElem_cons_zero]
        refine wpAnyH_take (i := 18) (v := ?_) rfl (by kernel_rfl) (by kernel_rfl) (by kernel_rfl) (fun _ _ _ h => h) (Or.inl ⟨by rfl, ?_⟩) trivial ?_
        rotate_left
        · intro w hSw; clear hSw; go_simp; all_goals (with_reducible rfl)
        try simp only [Act.put, List.setIfInBounds_toArray, List.set_cons_zero, List.set_cons_succ, List.getElem_toArray, List.getElem_cons_succ, List.getElem_cons_zero]
        refine wpAnyH_ready (rs := [19]) (by kernel_rfl) (by simp) ?_
        refine (AllReadyH.cons rfl (fun K hK => ?_) AllReadyH.nil)
        go_simp
        refine hK.out _ _ trivial (fun hHeld => ?_)
        clear hK K
        try simp only [Act.put, List.setIfInBounds_toArray, List.set_cons_zero, List.set_cons_succ, List.getElem_toArray, List.getElem_cons_succ, List.getElem_cons_zero]
        refine wpAnyH_done (by kernel_rfl) ?_ _
        obtain ⟨Y, hY⟩ : ∃ Y, Hid (w2.setCell ⟨g, 1, none⟩ (.slice A9 n9 c9) = Y) := ⟨_, rfl⟩
        rw [hY.out] at hE9 ⊢
        clear d1 f1
        go_wp2_with (first
          | refine wpList_load_row rfl 35 _ rfl z rfl 35 (dcs r.src r.dst r.v) (0, 0) _ hE9.out.1 Try.underlying35 rfl (dg_info _ _ _) ?_
          | refine wpList_store_row rfl 35 _ _ rfl zr (dcs r.src r.dst r.v) rfl rfl 35 _ hE9.out.2.1 (dg_info _ _ _) rfl (dg_all _ _ ho2.out).out ?_)
        try simp only [Exit.inBlock, Exit.then]
        refine bodyPost_ret (results_row_tmp (p := 4) (u := 5) (by rfl) _ _ zr 35 (dcs r.src r.dst r.v) (0, 0) _ (by rfl) (setRow_heap _ _ _ _ _ _ hE9.out.2.1) Try.underlying35 rfl (dg_info _ _ _)) rfl ?_
        exact ⟨rfl, hE9.out.2.2⟩
    · skip
      have c1 := HC1.out wd (hkX.out.trans kwd)
      go_simp
      refine hK.out _ _ trivial (fun hHeld => ?_)
      clear hK K
      try simp only [Act.put, List.setIfInBounds_toArray, List.set_cons_zero, List.set_cons_succ, List.getElem_toArray, List.getElem_cons_succ, List.getElem_cons_zero]
      clear c1
      refine wpAnyH_take (i := 15) (v := .slice (some A2) (n - (k + 1)) (uc - (k + 1))) rfl (by kernel_rfl) (by kernel_rfl) (by kernel_rfl) (fun _ _ _ h => h) (Or.inl ⟨by rfl, ?_⟩) trivial ?_
      · intro w hSw; clear hSw; go_simp; rw [if_pos ⟨by omega, by omega⟩, hA2.out]
      try simp only [Act.put, List.setIfInBounds_toArray, List.set_cons_zero, List.set_cons_succ, List.getElem_toArray, List.getElem_cons_succ, List.getElem_cons_zero]
      refine wpAnyH_ready (rs := [1]) (by kernel_rfl) (by simp) ?_
      refine (AllReadyH.cons rfl (fun K hK => ?_) AllReadyH.nil)
      go_simp
      refine hK.out _ _ trivial (fun hHeld => ?_)
      clear hK K
      try simp only [Act.put, List.setIfInBounds_toArray, List.set_cons_zero, List.set_cons_succ, List.getElem_toArray, List.getElem_cons_succ, List.getElem_cons_zero]
      refine wpAnyH_ready (rs := [8]) (by kernel_rfl) (by simp) ?_
      refine (AllReadyH.cons rfl (fun K hK => ?_) AllReadyH.nil)
      refine step_append_dgs (by rfl) (.tmp 16) (.tmp 22) (by rfl) wd.heap.size _ 0 [] (by rfl) ⟨rfl, .inr ⟨wd.heap.size, 0, #[], rfl, Nat.le_refl _, heap_alloc_new _ _, Nat.le_refl _, Nat.zero_le _, rfl, rfl⟩⟩ ⟨ub, 0, none⟩ k uc (E.take k) (by rfl) htk.out (HD.out _ (bw_allocx (hkX.out.trans kwd))) hok1.out (by omega) (by rw [size_alloc]; omega) ?_
      intro v1 w1 own1 gr1
      have kw1 : Bw wd w1 := bw_fresh gr1
      rw [Nat.zero_add, List.nil_append] at own1
      replace own1 := (show Hid (w1.ownsRow wd.heap.size 35 3 v1 k (flat (E.take k))) from own1)
      clear gr1
      refine hK.out _ _ trivial (fun hHeld => ?_)
      clear hK K
      try simp only [Act.put, List.setIfInBounds_toArray, List.set_cons_zero, List.set_cons_succ, List.getElem_toArray, List.getElem_cons_succ, List.getElem_cons_zero]
      refine wpAnyH_ready (rs := [16]) (by kernel_rfl) (by simp) ?_
      refine (AllReadyH.cons rfl (fun K hK => ?_) AllReadyH.nil)
      refine step_append_dgs (by rfl) (.tmp 23) (.tmp 30) (by rfl) wd.heap.size _ k (flat (E.take k)) (by rfl) own1.out A2 (n - (k + 1)) (uc - (k + 1)) (E.drop (k + 1)) (by rfl) hdk.out (HD2.out _ (hkX.out.trans (kwd.trans kw1))) hok2.out (by omega) kw1.size ?_
      intro v2 w2 own2 gr2
      have kw2 : Bw wd w2 := bw_grow gr2 kw1 kw1.size own1.out
      obtain ⟨A9, n9, c9, ev9, ⟨d1, f1⟩, hE9⟩ := hF.out wd kwd v2 w2 kw2 own2
      subst ev9
      clear own2 gr2
      refine hK.out _ _ trivial (fun hHeld => ?_)
      clear hK K
      try simp only [Act.put, List.setIfInBounds_toArray, List.set_cons_zero, List.set_cons_succ, List.getElem_toArray, List.getElem_cons_succ, List.getElem_cons_zero]
      refine wpAnyH_take (i := 17) (v := ?_) rfl (by kernel_rfl) (by kernel_rfl) (by kernel_rfl) (fun _ _ _ h => h) (Or.inl ⟨by rfl, ?_⟩) trivial ?_
      rotate_left
      · intro w hSw; clear hSw; go_simp; all_goals (with_reducible rfl)
      try simp only [Act.put, List.setIfInBounds_toArray, List.set_cons_zero, List.set_cons_succ, List.getElem_toArray, List.getElem_cons_succ, List.getElem_cons_zero]
      refine wpAnyH_take (i := 18) (v := ?_) rfl (by kernel_rfl) (by kernel_rfl) (by kernel_rfl) (fun _ _ _ h => h) (Or.inl ⟨by rfl, ?_⟩) trivial ?_
      rotate_left
      · intro w hSw; clear hSw; go_simp; all_goals (with_reducible rfl)
      try simp only [Act.put, List.setIfInBounds_toArray, List.set_cons_zero, List.set_cons_succ, List.getElem_toArray, List.getElem_cons_succ, List.getElem_cons_zero]
      refine wpAnyH_ready (rs := [19]) (by kernel_rfl) (by simp) ?_
      refine (AllReadyH.cons rfl (fun K hK => ?_) AllReadyH.nil)
      go_simp
      refine hK.out _ _ trivial (fun hHeld => ?_)
      clear hK K
      try simp only [Act.put, List.setIfInBounds_toArray, List.set_cons_zero, List.set_cons_succ, List.getElem_toArray, List.getElem_cons_succ, List.getElem_cons_zero]
      refine wpAnyH_done (by kernel_rfl) ?_ _
      obtain ⟨Y, hY⟩ : ∃ Y, Hid (w2.setCell ⟨g, 1, none⟩ (.slice A9 n9 c9) = Y) := ⟨_, rfl⟩
      rw [hY.out] at hE9 ⊢
      clear d1 f1
      go_wp2_with (first
        | refine wpList_load_row rfl 35 _ rfl z rfl 35 (dcs r.src r.dst r.v) (0, 0) _ hE9.out.1 Try.underlying35 rfl (dg_info _ _ _) ?_
        | refine wpList_store_row rfl 35 _ _ rfl zr (dcs r.src r.dst r.v) rfl rfl 35 _ hE9.out.2.1 (dg_info _ _ _) rfl (dg_all _ _ ho2.out).out ?_)
      try simp only [Exit.inBlock, Exit.then]
      refine bodyPost_ret (results_row_tmp (p := 4) (u := 5) (by rfl) _ _ zr 35 (dcs r.src r.dst r.v) (0, 0) _ (by rfl) (setRow_heap _ _ _ _ _ _ hE9.out.2.1) Try.underlying35 rfl (dg_info _ _ _)) rfl ?_
      exact ⟨rfl, hE9.out.2.2⟩
  · skip
    have c1 := HC1.out wd (hkX.out.trans kwd)
    go_simp
    refine hK.out _ _ trivial (fun hHeld => ?_)
    clear hK K
    try simp only [Act.put, List.setIfInBounds_toArray, List.set_cons_zero, List.set_cons_succ, List.getElem_toArray, List.getElem_cons_succ, List.getElem_cons_zero]
    clear c1
    refine wpAnyH_take (i := 15) (v := .slice (some A2) (n - (k + 1)) (uc - (k + 1))) rfl (by kernel_rfl) (by kernel_rfl) (by kernel_rfl) (fun _ _ _ h => h) (Or.inl ⟨by rfl, ?_⟩) trivial ?_
    · intro w hSw; clear hSw; go_simp; rw [if_pos ⟨by omega, by omega⟩, hA2.out]
    try simp only [Act.put, List.setIfInBounds_toArray, List.set_cons_zero, List.set_cons_succ, List.getElem_toArray, List.getElem_cons_succ, List.getElem_cons_zero]
    refine wpAnyH_ready (rs := [1, 5]) (by kernel_rfl) (by simp) ?_
    refine (AllReadyH.cons rfl (fun K hK => ?_) (AllReadyH.cons rfl (fun K hK => ?_) AllReadyH.nil))
    · skip
      go_simp
      refine hK.out _ _ trivial (fun hHeld => ?_)
      clear hK K
      try simp only [Act.put, List.setIfInBounds_toArray, List.set_cons_zero, List.set_cons_succ, List.getElem_toArray, List.getElem_cons_succ, List.getElem_cons_zero]
      refine wpAnyH_ready (rs := [5]) (by kernel_rfl) (by simp) ?_
      refine (AllReadyH.cons rfl (fun K hK => ?_) AllReadyH.nil)
      have c1 : ∀ o, (wd.alloc o).cell? ⟨g, 1, none⟩ = _ := fun o => HC1.out _ (bw_allocx (hkX.out.trans kwd))
      go_simp
      refine hK.out _ _ trivial (fun hHeld => ?_)
      clear hK K
      try simp only [Act.put, List.setIfInBounds_toArray, List.set_cons_zero, List.set_cons_succ, List.getElem_toArray, List.getElem_cons_succ, List.getElem_cons_zero]
      clear c1
      refine wpAnyH_take (i := 7) (v := .slice (some ⟨ub, 0, none⟩) k uc) rfl (by kernel_rfl) (by kernel_rfl) (by kernel_rfl) (fun _ _ _ h => h) (Or.inl ⟨by rfl, ?_⟩) trivial ?_
      · intro w hSw; clear hSw; go_simp; first | rfl | rw [if_pos k3] | skip
      try simp only [Act.put, List.setIfInBounds_toArray, List.set_cons_zero, List.set_cons_succ, List.getElem_toArray, List.getElem_cons_succ, List.getElem_cons_zero]
      refine wpAnyH_ready (rs := [8]) (by kernel_rfl) (by simp) ?_
      refine (AllReadyH.cons rfl (fun K hK => ?_) AllReadyH.nil)
      refine step_append_dgs (by rfl) (.tmp 16) (.tmp 22) (by rfl) wd.heap.size _ 0 [] (by rfl) ⟨rfl, .inr ⟨wd.heap.size, 0, #[], rfl, Nat.le_refl _, heap_alloc_new _ _, Nat.le_refl _, Nat.zero_le _, rfl, rfl⟩⟩ ⟨ub, 0, none⟩ k uc (E.take k) (by rfl) htk.out (HD.out _ (bw_allocx (hkX.out.trans kwd))) hok1.out (by omega) (by rw [size_alloc]; omega) ?_
      intro v1 w1 own1 gr1
      have kw1 : Bw wd w1 := bw_fresh gr1
      rw [Nat.zero_add, List.nil_append] at own1
      replace own1 := (show Hid (w1.ownsRow wd.heap.size 35 3 v1 k (flat (E.take k))) from own1)
      clear gr1
      refine hK.out _ _ trivial (fun hHeld => ?_)
      clear hK K
      try simp only [Act.put, List.setIfInBounds_toArray, List.set_cons_zero, List.set_cons_succ, List.getElem_toArray, List.getElem_cons_succ, List.getElem_cons_zero]
      refine wpAnyH_ready (rs := [16]) (by kernel_rfl) (by simp) ?_
      refine (AllReadyH.cons rfl (fun K hK => ?_) AllReadyH.nil)
      refine step_append_dgs (by rfl) (.tmp 23) (.tmp 30) (by rfl) wd.heap.size _ k (flat (E.take k)) (by rfl) own1.out A2 (n - (k + 1)) (uc - (k + 1)) (E.drop (k + 1)) (by rfl) hdk.out (HD2.out _ (hkX.out.trans (kwd.trans kw1))) hok2.out (by omega) kw1.size ?_
      intro v2 w2 own2 gr2
      have kw2 : Bw wd w2 := bw_grow gr2 kw1 kw1.size own1.out
      obtain ⟨A9, n9, c9, ev9, ⟨d1, f1⟩, hE9⟩ := hF.out wd kwd v2 w2 kw2 own2
      subst ev9
      clear own2 gr2
      refine hK.out _ _ trivial (fun hHeld => ?_)
      clear hK K
      try simp only [Act.put, List.setIfInBounds_toArray, List.set_cons_zero, List.set_cons_succ, List.getElem_toArray, List.getElem_cons_succ, List.getElem_cons_zero]
      refine wpAnyH_take (i := 17) (v := ?_) rfl (by kernel_rfl) (by kernel_rfl) (by kernel_rfl) (fun _ _ _ h => h) (Or.inl ⟨by rfl, ?_⟩) trivial ?_
      rotate_left
      · intro w hSw; clear hSw; go_simp; all_goals (with_reducible rfl)
      try simp only [Act.put, List.setIfInBounds_toArray, List.set_cons_zero, List.set_cons_succ, List.getElem_toArray, List.getElem_cons_succ, List.getElem_cons_zero]
      refine wpAnyH_take (i := 18) (v := ?_) rfl (by kernel_rfl) (by kernel_rfl) (by kernel_rfl) (fun _ _ _ h => h) (Or.inl ⟨by rfl, ?_⟩) trivial ?_
      rotate_left
      · intro w hSw; clear hSw; go_simp; all_goals (with_reducible rfl)
      try simp only [Act.put, List.setIfInBounds_toArray, List.set_cons_zero, List.set_cons_succ, List.getElem_toArray, List.getElem_cons_succ, List.getElem_cons_zero]
      refine wpAnyH_ready (rs := [19]) (by kernel_rfl) (by simp) ?_
      refine (AllReadyH.cons rfl (fun K hK => ?_) AllReadyH.nil)
      go_simp
      refine hK.out _ _ trivial (fun hHeld => ?_)
      clear hK K
      try simp only [Act.put, List.setIfInBounds_toArray, List.set_cons_zero, List.set_cons_succ, List.getElem_toArray, List.getElem_cons_succ, List.getElem_cons_zero]
      refine wpAnyH_done (by kernel_rfl) ?_ _
      obtain ⟨Y, hY⟩ : ∃ Y, Hid (w2.setCell ⟨g, 1, none⟩ (.slice A9 n9 c9) = Y) := ⟨_, rfl⟩
      rw [hY.out] at hE9 ⊢
      clear d1 f1
      go_wp2_with (first
        | refine wpList_load_row rfl 35 _ rfl z rfl 35 (dcs r.src r.dst r.v) (0, 0) _ hE9.out.1 Try.underlying35 rfl (dg_info _ _ _) ?_
        | refine wpList_store_row rfl 35 _ _ rfl zr (dcs r.src r.dst r.v) rfl rfl 35 _ hE9.out.2.1 (dg_info _ _ _) rfl (dg_all _ _ ho2.out).out ?_)
      try simp only [Exit.inBlock, Exit.then]
      refine bodyPost_ret (results_row_tmp (p := 4) (u := 5) (by rfl) _ _ zr 35 (dcs r.src r.dst r.v) (0, 0) _ (by rfl) (setRow_heap _ _ _ _ _ _ hE9.out.2.1) Try.underlying35 rfl (dg_info _ _ _)) rfl ?_
      exact ⟨rfl, hE9.out.2.2⟩
    · skip
      have c1 := HC1.out wd (hkX.out.trans kwd)
      go_simp
      refine hK.out _ _ trivial (fun hHeld => ?_)
      clear hK K
      try simp only [Act.put, List.setIfInBounds_toArray, List.set_cons_zero, List.set_cons_succ, List.getElem_toArray, List.getElem_cons_succ, List.getElem_cons_zero]
      clear c1
      refine wpAnyH_take (i := 7) (v := .slice (some ⟨ub, 0, none⟩) k uc) rfl (by kernel_rfl) (by kernel_rfl) (by kernel_rfl) (fun _ _ _ h => h) (Or.inl ⟨by rfl, ?_⟩) trivial ?_
      · intro w hSw; clear hSw; go_simp; first | rfl | rw [if_pos k3] | skip
      try simp only [Act.put, List.setIfInBounds_toArray, List.set_cons_zero, List.set_cons_succ, List.getElem_toArray, List.getElem_cons_succ, List.getElem_cons_zero]
      refine wpAnyH_ready (rs := [1]) (by kernel_rfl) (by simp) ?_
      refine (AllReadyH.cons rfl (fun K hK => ?_) AllReadyH.nil)
      go_simp
      refine hK.out _ _ trivial (fun hHeld => ?_)
      clear hK K
      try simp only [Act.put, List.setIfInBounds_toArray, List.set_cons_zero, List.set_cons_succ, List.getElem_toArray, List.getElem_cons_succ, List.getElem_cons_zero]
      refine wpAnyH_ready (rs := [8]) (by kernel_rfl) (by simp) ?_
      refine (AllReadyH.cons rfl (fun K hK => ?_) AllReadyH.nil)
      refine step_append_dgs (by rfl) (.tmp 16) (.tmp 22) (by rfl) wd.heap.size _ 0 [] (by rfl) ⟨rfl, .inr ⟨wd.heap.size, 0, #[], rfl, Nat.le_refl _, heap_alloc_new _ _, Nat.le_refl _, Nat.zero_le _, rfl, rfl⟩⟩ ⟨ub, 0, none⟩ k uc (E.take k) (by rfl) htk.out (HD.out _ (bw_allocx (hkX.out.trans kwd))) hok1.out (by omega) (by rw [size_alloc]; omega) ?_
      intro v1 w1 own1 gr1
      have kw1 : Bw wd w1 := bw_fresh gr1
      rw [Nat.zero_add, List.nil_append] at own1
      replace own1 := (show Hid (w1.ownsRow wd.heap.size 35 3 v1 k (flat (E.take k))) from own1)
      clear gr1
      refine hK.out _ _ trivial (fun hHeld => ?_)
      clear hK K
      try simp only [Act.put, List.setIfInBounds_toArray, List.set_cons_zero, List.set_cons_succ, List.getElem_toArray, List.getElem_cons_succ, List.getElem_cons_zero]
      refine wpAnyH_ready (rs := [16]) (by kernel_rfl) (by simp) ?_
      refine (AllReadyH.cons rfl (fun K hK => ?_) AllReadyH.nil)
      refine step_append_dgs (by rfl) (.tmp 23) (.tmp 30) (by rfl) wd.heap.size _ k (flat (E.take k)) (by rfl) own1.out A2 (n - (k + 1)) (uc - (k + 1)) (E.drop (k + 1)) (by rfl) hdk.out (HD2.out _ (hkX.out.trans (kwd.trans kw1))) hok2.out (by omega) kw1.size ?_
      intro v2 w2 own2 gr2
      have kw2 : Bw wd w2 := bw_grow gr2 kw1 kw1.size own1.out
      obtain ⟨A9, n9, c9, ev9, ⟨d1, f1⟩, hE9⟩ := hF.out wd kwd v2 w2 kw2 own2
      subst ev9
      clear own2 gr2
      refine hK.out _ _ trivial (fun hHeld => ?_)
      clear hK K
      try simp only [Act.put, List.setIfInBounds_toArray, List.set_cons_zero, List.set_cons_succ, List.getElem_toArray, List.getElem_cons_succ, List.getElem_cons_zero]
      refine wpAnyH_take (i := 17) (v := ?_) rfl (by kernel_rfl) (by kernel_rfl) (by kernel_rfl) (fun _ _ _ h => h) (Or.inl ⟨by rfl, ?_⟩) trivial ?_
      rotate_left
      · intro w hSw; clear hSw; go_simp; all_goals (with_reducible rfl)
      try simp only [Act.put, List.setIfInBounds_toArray, List.set_cons_zero, List.set_cons_succ, List.getElem_toArray, List.getElem_cons_succ, List.getElem_cons_zero]
      refine wpAnyH_take (i := 18) (v := ?_) rfl (by kernel_rfl) (by kernel_rfl) (by kernel_rfl) (fun _ _ _ h => h) (Or.inl ⟨by rfl, ?_⟩) trivial ?_
      rotate_left
      · intro w hSw; clear hSw; go_simp; all_goals (with_reducible rfl)
      try simp only [Act.put, List.setIfInBounds_toArray, List.set_cons_zero, List.set_cons_succ, List.getElem_toArray, List.getElem_cons_succ, List.getElem_cons_zero]
      refine wpAnyH_ready (rs := [19]) (by kernel_rfl) (by simp) ?_
      refine (AllReadyH.cons rfl (fun K hK => ?_) AllReadyH.nil)
      go_simp
      refine hK.out _ _ trivial (fun hHeld => ?_)
      clear hK K
      try simp only [Act.put, List.setIfInBounds_toArray, List.set_cons_zero, List.set_cons_succ, List.getElem_toArray, List.getElem_cons_succ, List.getElem_cons_zero]
      refine wpAnyH_done (by kernel_rfl) ?_ _
      obtain ⟨Y, hY⟩ : ∃ Y, Hid (w2.setCell ⟨g, 1, none⟩ (.slice A9 n9 c9) = Y) := ⟨_, rfl⟩
      rw [hY.out] at hE9 ⊢
      clear d1 f1
      go_wp2_with (first
        | refine wpList_load_row rfl 35 _ rfl z rfl 35 (dcs r.src r.dst r.v) (0, 0) _ hE9.out.1 Try.underlying35 rfl (dg_info _ _ _) ?_
        | refine wpList_store_row rfl 35 _ _ rfl zr (dcs r.src r.dst r.v) rfl rfl 35 _ hE9.out.2.1 (dg_info _ _ _) rfl (dg_all _ _ ho2.out).out ?_)
      try simp only [Exit.inBlock, Exit.then]
      refine bodyPost_ret (results_row_tmp (p := 4) (u := 5) (by rfl) _ _ zr 35 (dcs r.src r.dst r.v) (0, 0) _ (by rfl) (setRow_heap _ _ _ _ _ _ hE9.out.2.1) Try.underlying35 rfl (dg_info _ _ _)) rfl ?_
      exact ⟨rfl, hE9.out.2.2⟩
end Go.Proofs.Ytjjnbpbbjaabeaa
