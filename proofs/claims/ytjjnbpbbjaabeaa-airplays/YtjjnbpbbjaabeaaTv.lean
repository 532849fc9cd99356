/- Layer 19: the document's At, New, Double, Send (written by mktv.py out of tv.base). -/
import Derived.Test.YtjjnbpbbjaabeaaTu
namespace Go.Proofs.Ytjjnbpbbjaabeaa
open Go.RowKit Go.Deep
set_option linter.unusedVariables false
set_option linter.unusedSimpArgs false

/-- how one more under way ends -/
def RPush (w : World) (g : Nat) (lv ov : Value) (E : List Raw) (Z : List (Int × Int)) (S : Ai.St) (d : Ai.Dg) (w' : World) : Prop := ∃ lv' r, RefX w' g lv' ov (E ++ [r]) Z { S with L := S.L ++ [d] } ∧ (∀ b, lv'.ownBlock = some b → lv.ownBlock = some b ∨ w.heap.size ≤ b) ∧ (∀ Q : Nat → Prop, EIn Q E → VIn (fun b => Q b ∨ w.heap.size ≤ b) r.v) ∧ Bx (rIn g lv ov) w w'
theorem RefX.pushX {w W w2 : World} {g : Nat} {lv ov : Value} {E : List Raw} {Z : List (Int × Int)} {S : Ai.St} {x y : Int} {u : Value} {d : Ai.Dg} {g2 c2 n : Nat} (h : RefX w g lv ov E Z S) (k : Bw w W) (hr1 : x = d.src) (hr2 : y = d.dst) (hrow : RowV W u d.b)
    (hvin : VIn (fun b => ¬ rIn g lv ov b) u) (hn : E.length = n)
    (own2 : w2.ownsRow 0 35 3 (.slice (some ⟨g2, 0, none⟩) (n + 1) c2) (n + 1) (flat E ++ [.int .i64 x, .int .i64 y, u])) (gr : (W.alloc (.cells #[.int .i64 x, .int .i64 y, u] 35)).grownBy w2 lv.ownBlock)
    (at2 : lv.ownBlock = some g2 ∨ g2 = W.heap.size + 1) (hok : ({ S with L := S.L ++ [d] } : Ai.St).Ok) :
    (w2.cell? ⟨g, 1, none⟩ = some lv ∧ w2.frozen? ⟨g, 1, none⟩ = false) ∧ RefX (w2.setCell ⟨g, 1, none⟩ (.slice (some ⟨g2, 0, none⟩) (n + 1) c2)) g (.slice (some ⟨g2, 0, none⟩) (n + 1) c2) ov (E ++ [(⟨x, y, u⟩ : Raw)]) Z { S with L := S.L ++ [d] } ∧ (∀ b, (Value.slice (some ⟨g2, 0, none⟩) (n + 1) c2).ownBlock = some b → lv.ownBlock = some b ∨ w.heap.size ≤ b) ∧ Bx (rIn g lv ov) w (w2.setCell ⟨g, 1, none⟩ (.slice (some ⟨g2, 0, none⟩) (n + 1) c2)) := by
  subst hn
  have kA : Bw W (W.alloc (.cells #[.int .i64 x, .int .i64 y, u] 35)) := bw_allocx (Bw.refl _)
  have hgx := bx_grown gr
  have hwW := k.size
  have hvl := hrow.low
  have hgl := h.lt
  have hol := h.off.lt
  have hcells : w2.heap[g]? = some (.cells (rcells S.n lv ov) 57 (0, 0)) := by
    rw [hgx.block g (by rw [size_alloc]; omega) (fun e => h.nel e), kA.block g (by omega), k.block g hgl]
    exact h.cells
  have hgg : g2 ≠ g := fun e => by
    rcases at2 with h1 | h1
    · exact h.nel (by rw [h1, e])
    · omega
  have hgo : ∀ b, ov.ownBlock = some b → g2 ≠ b := fun b hb e => by
    rcases at2 with h1 | h1
    · exact h.nelo b (by rw [h1, e]) hb
    · have := hol b hb; omega
  have hX : Bx (· = g) w2 (w2.setCell ⟨g, 1, none⟩ (.slice (some ⟨g2, 0, none⟩) (E.length + 1) c2)) := (Bx.refl _ _).put rfl
  have hall : Bx (rIn g lv ov) w (w2.setCell ⟨g, 1, none⟩ (.slice (some ⟨g2, 0, none⟩) (E.length + 1) c2)) :=
    ((Bx.of_bw (k.trans kA)).trans (hgx.more (fun b e => .inr (.inl e)))).trans (hX.more (fun b e => .inl e))
  have hlen : E.length + 1 = (E ++ [(⟨x, y, u⟩ : Raw)]).length := by rw [List.length_append]; rfl
  refine ⟨⟨cell_of_row w2 g 1 _ _ _ hcells, frozen_of_row w2 g 1 _ _ hcells⟩, ⟨heap_setCell_same w2 g 1 _ _ _ hcells, ?_, ?_, ?_, h.cutz, h.few, hok, ?_⟩, ?_, hall⟩
  · have h3 := own_keepx19 own2 hX (fun b hb e => by
      have e2 : g2 = b := by simpa [Value.ownBlock] using hb
      have e3 : b = g := e
      exact hgg (e2.trans e3))
    have e4 : flat E ++ [.int .i64 x, .int .i64 y, u] = flat (E ++ [(⟨x, y, u⟩ : Raw)]) := by rw [flat_append]; rfl
    rw [e4, hlen] at h3
    rw [hlen]
    exact (UndAt.of_own h3).1
  · refine DgsV.append (h.dgs.keepx hall h.sep) (DgsV.one hr1 hr2 ?_)
    refine ((hrow.keep kA).keepx hgx (hvin.mono (fun b hb e => hb (.inr (.inl e))))).keepx hX (hvin.mono (fun b hb e => hb (.inl e)))
  · exact ((h.off.keep (k.trans kA)).keepx hgx (fun b hb e => h.nelo b e hb)).keepx hX (fun b hb e => h.neo (by rw [hb, e]))
  · have hnew : ∀ b, rIn g (.slice (some ⟨g2, 0, none⟩) (E.length + 1) c2) ov b → rIn g lv ov b ∨ W.heap.size ≤ b := fun b hb => by
      rcases hb with hb | hb | hb
      · exact .inl (.inl hb)
      · have e2 : g2 = b := by simpa [Value.ownBlock] using hb
        rcases at2 with h1 | h1
        · exact .inl (.inr (.inl (by rw [h1, e2])))
        · exact .inr (by omega)
      · exact .inl (.inr (.inr hb))
    refine EIn.append (fun x hx b o m c e h0 hb => ?_) (EIn.one (fun b o m c e h0 hb => ?_))
    · have hb1 := h.dgs.low x hx b o m c e h0
      rcases hnew b hb with h1 | h1
      · exact h.sep x hx b o m c e h0 h1
      · omega
    · have hb1 := hvl b o m c e h0
      rcases hnew b hb with h1 | h1
      · exact hvin b o m c e h0 h1
      · omega
  · intro b hb
    have e2 : g2 = b := by simpa [Value.ownBlock] using hb
    rcases at2 with h1 | h1
    · exact .inl (by rw [h1, e2])
    · exact .inr (by omega)
theorem RefX.push {w W w2 : World} {g : Nat} {lv ov : Value} {E : List Raw} {Z : List (Int × Int)} {S : Ai.St} {x y : Int} {u : Value} {d : Ai.Dg} {g2 c2 n : Nat} (h : RefX w g lv ov E Z S) (k : Bw w W) (hr1 : x = d.src) (hr2 : y = d.dst) (hrow : RowV W u d.b)
    (hvin : VIn (fun b => ¬ rIn g lv ov b) u) (hQ : ∀ Q : Nat → Prop, EIn Q E → VIn (fun b => Q b ∨ w.heap.size ≤ b) u) (hn : E.length = n)
    (own2 : w2.ownsRow 0 35 3 (.slice (some ⟨g2, 0, none⟩) (n + 1) c2) (n + 1) (flat E ++ [.int .i64 x, .int .i64 y, u])) (gr : (W.alloc (.cells #[.int .i64 x, .int .i64 y, u] 35)).grownBy w2 lv.ownBlock)
    (at2 : lv.ownBlock = some g2 ∨ g2 = W.heap.size + 1) (hok : ({ S with L := S.L ++ [d] } : Ai.St).Ok) :
    (w2.cell? ⟨g, 1, none⟩ = some lv ∧ w2.frozen? ⟨g, 1, none⟩ = false) ∧ RPush w g lv ov E Z S d (w2.setCell ⟨g, 1, none⟩ (.slice (some ⟨g2, 0, none⟩) (n + 1) c2)) := by
  obtain ⟨q1, q2, q3, q4⟩ := h.pushX k hr1 hr2 hrow hvin hn own2 gr at2 hok
  exact ⟨q1, _, _, q2, q3, hQ, q4⟩
set_option maxRecDepth 100000 in
theorem rat_no {w : World} {g : Nat} {lv ov : Value} {E : List Raw} {Z : List (Int × Int)} {S : Ai.St} (h : RefX w g lv ov E Z S) (i : Int) (hi : S.has i = false) :
    Calls Try.prog 31 #[.pointer (some ⟨g, 0, none⟩), .int .i64 i] w fun e w' => e = .returned (.tuple #[.agg #[.int .i64 0, .int .i64 0, .slice none 0 0], .bool false]) ∧ Bw w w' := by
  obtain ⟨z, hz⟩ : ∃ z, Hid (w.heap.size = z) := ⟨_, rfl⟩
  obtain ⟨W1, hW1⟩ : ∃ W, Hid (w.alloc (.cells #[.int .i64 0, .int .i64 0, .slice none 0 0] 35) = W) := ⟨_, rfl⟩
  have kW : Bw w W1 := by rw [← hW1.out]; exact bw_allocx (Bw.refl _)
  have hD : DgAt W1 z 0 0 (.slice none 0 0) := by rw [← hW1.out, ← hz.out]; exact heap_alloc_new _ _
  have hz0 : Hid (w.heap.size ≤ z) := Nat.le_of_eq hz.out
  obtain ⟨A, cap, e9⟩ := h.form
  obtain ⟨n, hn⟩ : ∃ n, S.L.length = n := ⟨_, rfl⟩
  have c1 : W1.cell? ⟨g, 1, none⟩ = some (.slice A n cap) := by rw [(h.keep kW).c1, e9, hn]
  have hk : Hid (Bw w W1) := kW
  unfold Ai.St.has at hi
  rw [hn] at hi
  by_cases h0 : i < 0
  · have d0 : decide (i < 0) = true := decide_eq_true h0
    clear h e9 hn hi h0 kW
    go_enter Try.func31, Try.ntmps31
    go_upto_region 1 with fail
    rw [hW1.out, hz.out]
    go_wp2_with (refine wpList_store_row rfl 35 _ _ rfl z (dcs 0 0 (.slice none 0 0)) rfl rfl 35 _ hD (dg_info _ _ _) rfl (dg_all _ _ rfl).out ?_)
    try simp only [Exit.inBlock, Exit.then]
    refine bodyPost_ret (results_row_tmp (p := 4) (u := 5) (by rfl) _ _ z 35 (dcs 0 0 (.slice none 0 0)) (0, 0) _ (by rfl) (setRow_heap _ _ _ _ _ _ hD) Try.underlying35 rfl (dg_info _ _ _)) rfl ?_
    exact ⟨rfl, bw_setRow hk.out hz0.out _⟩
  · have d0 : decide (i < 0) = false := decide_eq_false h0
    rw [decide_eq_true (by omega : (0 : Int) ≤ i), Bool.true_and, decide_eq_false_iff_not] at hi
    have d1 : (n : Int) ≤ i := by omega
    clear h e9 hn hi h0 kW
    go_enter Try.func31, Try.ntmps31
    go_upto_region 1 with fail
    rw [hW1.out, hz.out]
    go_wp2_with (refine wpList_store_row rfl 35 _ _ rfl z (dcs 0 0 (.slice none 0 0)) rfl rfl 35 _ hD (dg_info _ _ _) rfl (dg_all _ _ rfl).out ?_)
    try simp only [Exit.inBlock, Exit.then]
    refine bodyPost_ret (results_row_tmp (p := 4) (u := 5) (by rfl) _ _ z 35 (dcs 0 0 (.slice none 0 0)) (0, 0) _ (by rfl) (setRow_heap _ _ _ _ _ _ hD) Try.underlying35 rfl (dg_info _ _ _)) rfl ?_
    exact ⟨rfl, bw_setRow hk.out hz0.out _⟩
set_option maxRecDepth 100000 in
theorem rat_yes {w : World} {g : Nat} {lv ov : Value} {E : List Raw} {Z : List (Int × Int)} {S : Ai.St} (h : RefX w g lv ov E Z S) {k : Nat} {r : Raw} (hr : E[k]? = some r) :
    Calls Try.prog 31 #[.pointer (some ⟨g, 0, none⟩), .int .i64 (k : Int)] w fun e w' => e = .returned (.tuple #[.agg #[.int .i64 r.src, .int .i64 r.dst, r.v], .bool true]) ∧ Bw w w' := by
  obtain ⟨z, hz⟩ : ∃ z, Hid (w.heap.size = z) := ⟨_, rfl⟩
  obtain ⟨W1, hW1⟩ : ∃ W, Hid (w.alloc (.cells #[.int .i64 0, .int .i64 0, .slice none 0 0] 35) = W) := ⟨_, rfl⟩
  have kW : Bw w W1 := by rw [← hW1.out]; exact bw_allocx (Bw.refl _)
  have hD : DgAt W1 z 0 0 (.slice none 0 0) := by rw [← hW1.out, ← hz.out]; exact heap_alloc_new _ _
  have hz0 : Hid (w.heap.size ≤ z) := Nat.le_of_eq hz.out
  have hkE := (List.getElem?_eq_some_iff.1 hr).1
  have ho := h.dgs.cellOne r (List.mem_of_getElem? hr)
  obtain ⟨ub, uc, rfl, hB⟩ := h.und.pos (by omega)
  obtain ⟨n, hn⟩ : ∃ n, Hid (E.length = n) := ⟨_, rfl⟩
  have c1 : W1.cell? ⟨g, 1, none⟩ = some (.slice (some ⟨ub, 0, none⟩) E.length uc) := (h.keep kW).c1
  rw [hn.out] at c1 hkE
  obtain ⟨k0, k1⟩ := bnd hkE
  have hR := (hB.keep kW).range hr
  have hk : Hid (Bw w W1) := kW
  clear h hB hr hkE kW
  go_enter Try.func31, Try.ntmps31
  go_upto_region 1 with fail
  rw [hW1.out, hz.out]
  go_wp2_with (first
    | refine wpList_load_mid rfl 35 _ rfl ub (k * 3) (by rfl) r.cells _ hR Try.underlying35 rfl (dg_info _ _ r.v) ?_
    | refine wpList_store_row rfl 35 _ _ rfl z (dcs r.src r.dst r.v) rfl rfl 35 _ hD (dg_info _ _ _) rfl (dg_all _ _ ho).out ?_)
  try simp only [Exit.inBlock, Exit.then]
  refine bodyPost_ret (results_row_tmp (p := 4) (u := 5) (by rfl) _ _ z 35 (dcs r.src r.dst r.v) (0, 0) _ (by rfl) (setRow_heap _ _ _ _ _ _ hD) Try.underlying35 rfl (dg_info _ _ _)) rfl ?_
  exact ⟨rfl, bw_setRow hk.out hz0.out _⟩
/-- how the document's New ends -/
def RNewEnds (w : World) (n : Int) (e : Ending) (w' : World) : Prop :=
  (n < 1 ∧ e = .returned (.tuple #[.pointer none, .int .i64 1]) ∧ w' = w) ∨ (64 < n ∧ e = .returned (.tuple #[.pointer none, .int .i64 2]) ∧ w' = w) ∨
  ∃ (m : Nat) (g : Nat), n = (m : Int) ∧ 1 ≤ m ∧ m ≤ 64 ∧ e = .returned (.tuple #[.pointer (some ⟨g, 0, none⟩), .int .i64 0]) ∧ RefX w' g (.slice none 0 0) (.slice none 0 0) [] [] (Ai.new m) ∧ w.heap.size ≤ g ∧ Bw w w'
set_option maxRecDepth 100000 in
theorem rnew_any (n : Int) (w : World) : Calls Try.prog 10 #[.int .i64 n] w fun e w' => RNewEnds w n e w' := by
  by_cases h1 : n < 1
  · have d1 : decide (n < 1) = true := decide_eq_true h1
    have HE : Hid (RNewEnds w n (.returned (.tuple #[.pointer none, .int .i64 1])) w) := .inl ⟨h1, rfl, rfl⟩
    clear h1
    go_enter Try.func10, Try.ntmps10
    go_wp2
    go_ret2
    exact HE.out
  · have d1 : decide (n < 1) = false := decide_eq_false h1
    by_cases h2 : 64 < n
    · have HE : Hid (RNewEnds w n (.returned (.tuple #[.pointer none, .int .i64 2])) w) := .inr (.inl ⟨h2, rfl, rfl⟩)
      have d2 : decide (64 < n) = true := decide_eq_true h2
      clear h1 h2
      go_enter Try.func10, Try.ntmps10
      go_wp2
      go_ret2
      exact HE.out
    · have d2 : decide (64 < n) = false := decide_eq_false h2
      obtain ⟨m, hm⟩ : ∃ m : Nat, Hid (n = (m : Int)) := ⟨n.toNat, by show _ = _; omega⟩
      have hb : 1 ≤ m ∧ m ≤ 64 := by have := hm.out; omega
      obtain ⟨z, hz⟩ : ∃ z, Hid (w.heap.size = z) := ⟨_, rfl⟩
      obtain ⟨W1, hW1⟩ : ∃ W, Hid (w.alloc (.cells #[.int .i64 n, .slice none 0 0, .slice none 0 0] 57) = W) := ⟨_, rfl⟩
      have k1 : Bw w W1 := by rw [← hW1.out]; exact bw_allocx (Bw.refl _)
      have hA : RefX W1 z (.slice none 0 0) (.slice none 0 0) [] [] (Ai.new m) := by
        refine ⟨?_, .inl ⟨rfl, rfl⟩, DgsV.nil _, ⟨rfl, .inl ⟨rfl, rfl⟩⟩, fun _ _ => rfl, Nat.le_refl _, Ai.new_ok hb.1 hb.2, fun r hr => (by cases hr)⟩
        rw [← hW1.out, ← hz.out, hm.out]
        exact heap_alloc_new _ _
      have HE : Hid (RNewEnds w n (.returned (.tuple #[.pointer (some ⟨z, 0, none⟩), .int .i64 0])) W1) := .inr (.inr ⟨m, z, hm.out, hb.1, hb.2, rfl, hA, Nat.le_of_eq hz.out, k1⟩)
      clear h1 h2 hA
      go_enter Try.func10, Try.ntmps10
      go_wp2
      go_ret2
      rw [hW1.out, hz.out]
      exact HE.out
end Go.Proofs.Ytjjnbpbbjaabeaa
