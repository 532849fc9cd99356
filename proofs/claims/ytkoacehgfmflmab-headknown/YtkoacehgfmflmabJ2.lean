/- The program's own sealed and taken, as landed at e169a841. -/
import Derived.Test.YtkoacehgfmflmabJ1
namespace Go.Proofs.Ytkoacehgfmflmab
open Go.RowKit Go.Deep
set_option linter.unusedVariables false
set_option linter.unusedSimpArgs false

theorem Hd.ovl_ovl {l : Hd.B} {o : Nat} {s : Hd.B} (h : o + s.length ≤ l.length) : Hd.ovl (Hd.ovl l o s) o s = Hd.ovl l o s := by
  have e1 : (l.take o).length = o := by rw [List.length_take]; omega
  unfold Hd.ovl
  have e2 : (l.take o ++ s ++ l.drop (o + s.length)).take o = l.take o := by
    rw [List.append_assoc, List.take_append_of_le_length (by omega), List.take_of_length_le (by omega)]
  have e3 : (l.take o ++ s ++ l.drop (o + s.length)).drop (o + s.length) = l.drop (o + s.length) := by
    have : o + s.length = (l.take o ++ s).length := by rw [List.length_append]; omega
    rw [this, List.drop_left]
  rw [e2, e3]
/-- an array of the call's own, ahead of what is laid over it, or behind -/
def Two (w : World) (g : Nat) (l m : Hd.B) : Prop := ArrAt w g l ∨ ArrAt w g m
theorem Two.keep {w w' : World} {g : Nat} {l m : Hd.B} (h : Two w g l m) (b : Bw w w') : Two w' g l m := h.elim (fun h => .inl (h.keep b)) (fun h => .inr (h.keep b))
/-- at a step of a drawn region: a row laid over an array -/
theorem step_copy_arr {w : World} {ops : Array Oper} {o : Oper} {a : Act} {K : Act → World → Prop} {Q : Exit → Act → World → Prop} {E : Prop} (hgd : o.guard = none) (x y : Operand)
    (ho : o.op = .call { callee := .builtin .copy, args := #[x, y], argTypes := #[25, 25] })
    (g p n m cap cb : Nat) (l s : Hd.B) (A : Option Addr) (hx : a.eval x = .slice (some ⟨g, p, none⟩) m cap) (hy : a.eval y = .slice A n cb) (hg : Two w g l (Hd.ovl l p s)) (hn : s.length = n) (hp : p + n ≤ l.length) (hm : n ≤ m) (h0 : 0 < n) (hB : RowAt w A n (Hd.rowF s))
    (hh : ∀ w', ArrAt w' g (Hd.ovl l p s) → Bx (· = g) w w' → K (a.put o.dst (goInt n)) w') :
    if Region.wanted o (yielded ops a.tmps) = true then Oper.wp Try.prog o a w K Q else E := by
  have hw : Region.wanted o (yielded ops a.tmps) = true := by simp [Region.wanted, hgd]
  rw [if_pos hw]
  have hrun : (Builtin.copy_ #[25, 25] o.type #[.slice (some ⟨g, p, none⟩) m cap, .slice A n cb]).run Try.prog w = .ok (goInt n) (w.setRow g (Hd.arr (Hd.ovl l p s))) := by
    rcases hg with hg | hg
    · exact run_copy_arr m cap cb o.type hg hn hp hm h0 hB
    · have := run_copy_arr m cap cb o.type hg hn (by rw [Hd.ovl_len (by omega)]; exact hp) hm h0 hB
      rw [Hd.ovl_ovl (by omega)] at this
      exact this
  have hA : ArrAt (w.setRow g (Hd.arr (Hd.ovl l p s))) g (Hd.ovl l p s) := by
    rcases hg with hg | hg
    · exact arr_set hg _
    · exact arr_set hg _
  unfold Oper.wp execOp
  simp only [ho, resolve, invoke, builtin, Sem.run_bind, Sem.run_pure, Result.andThen_ok, List.map_toArray, List.map_cons, List.map_nil, hx, hy, hrun]
  exact hh _ hA (bx_set w g _ rfl)
theorem step_copy_txt {w : World} {ops : Array Oper} {o : Oper} {a : Act} {K : Act → World → Prop} {Q : Exit → Act → World → Prop} {E : Prop} (hgd : o.guard = none) (x y : Operand)
    (ho : o.op = .call { callee := .builtin .copy, args := #[x, y], argTypes := #[25, 9] })
    (g p m cap : Nat) (l : Hd.B) (s : ByteArray) (hx : a.eval x = .slice (some ⟨g, p, none⟩) m cap) (hy : a.eval y = .string s) (hg : Two w g l (Hd.ovl l p s.toList)) (hp : p + s.size ≤ l.length) (hm : s.size ≤ m)
    (hh : ∀ w', ArrAt w' g (Hd.ovl l p s.toList) → Bx (· = g) w w' → K (a.put o.dst (goInt s.size)) w') :
    if Region.wanted o (yielded ops a.tmps) = true then Oper.wp Try.prog o a w K Q else E := by
  have hw : Region.wanted o (yielded ops a.tmps) = true := by simp [Region.wanted, hgd]
  rw [if_pos hw]
  have hs := Hd.size_toList s
  have hrun : (Builtin.copy_ #[25, 9] o.type #[.slice (some ⟨g, p, none⟩) m cap, .string s]).run Try.prog w = .ok (goInt s.size) (w.setRow g (Hd.arr (Hd.ovl l p s.toList))) := by
    rcases hg with hg | hg
    · exact run_copy_txt m cap o.type s hg hp hm
    · have := run_copy_txt m cap o.type s hg (by rw [Hd.ovl_len (by omega)]; exact hp) hm
      rw [Hd.ovl_ovl (by omega)] at this
      exact this
  have hA : ArrAt (w.setRow g (Hd.arr (Hd.ovl l p s.toList))) g (Hd.ovl l p s.toList) := by
    rcases hg with hg | hg
    · exact arr_set hg _
    · exact arr_set hg _
  unfold Oper.wp execOp
  simp only [ho, resolve, invoke, builtin, Sem.run_bind, Sem.run_pure, Result.andThen_ok, List.map_toArray, List.map_cons, List.map_nil, hx, hy, hrun]
  exact hh _ hA (bx_set w g _ rfl)
/-- a whole array read at a step of a drawn region -/
theorem step_load_arr {w : World} {ops : Array Oper} {o : Oper} {a : Act} {K : Act → World → Prop} {Q : Exit → Act → World → Prop} {E : Prop} (hgd : o.guard = none) (x : Operand) (ho : o.op = .load 42 x)
    (g : Nat) (l : Hd.B) (hl : l.length = 512) (hx : a.eval x = .pointer (some ⟨g, 0, none⟩)) (hg : ArrAt w g l) (hh : K (a.put o.dst (.agg (Hd.arr l))) w) :
    if Region.wanted o (yielded ops a.tmps) = true then Oper.wp Try.prog o a w K Q else E := by
  have hw : Region.wanted o (yielded ops a.tmps) = true := by simp [Region.wanted, hgd]
  rw [if_pos hw]
  exact wp_load_row 42 x ho g hx 42 _ (0, 0) _ hg Try.underlying42 rfl (info_raw hl) hh
/-- the same outside of a drawn region -/
theorem wpList_copy_arr {ops : Array Oper} {rest : List Oper} {o : Oper} {a : Act} {w : World} {Q : Exit → Act → World → Prop} (hgd : o.guard = none) (x y : Operand)
    (ho : o.op = .call { callee := .builtin .copy, args := #[x, y], argTypes := #[25, 25] })
    (g p n m cap cb : Nat) (l s : Hd.B) (A : Option Addr) (hx : a.eval x = .slice (some ⟨g, p, none⟩) m cap) (hy : a.eval y = .slice A n cb) (hg : ArrAt w g l) (hn : s.length = n) (hp : p + n ≤ l.length) (hm : n ≤ m) (h0 : 0 < n) (hB : RowAt w A n (Hd.rowF s))
    (hh : ∀ w', ArrAt w' g (Hd.ovl l p s) → Bx (· = g) w w' → wpList Try.prog ops Q rest (a.put o.dst (goInt n)) w') : wpList Try.prog ops Q (o :: rest) a w := by
  refine wpList_plain hgd fun K hK => ?_
  have hrun := run_copy_arr m cap cb o.type hg hn hp hm h0 hB
  unfold Oper.wp execOp
  simp only [ho, resolve, invoke, builtin, Sem.run_bind, Sem.run_pure, Result.andThen_ok, List.map_toArray, List.map_cons, List.map_nil, hx, hy, hrun]
  exact hK _ _ (hh _ (arr_set hg _) (bx_set w g _ rfl))
theorem wpList_copy_txt {ops : Array Oper} {rest : List Oper} {o : Oper} {a : Act} {w : World} {Q : Exit → Act → World → Prop} (hgd : o.guard = none) (x y : Operand)
    (ho : o.op = .call { callee := .builtin .copy, args := #[x, y], argTypes := #[25, 9] })
    (g p m cap : Nat) (l : Hd.B) (s : ByteArray) (hx : a.eval x = .slice (some ⟨g, p, none⟩) m cap) (hy : a.eval y = .string s) (hg : ArrAt w g l) (hp : p + s.size ≤ l.length) (hm : s.size ≤ m)
    (hh : ∀ w', ArrAt w' g (Hd.ovl l p s.toList) → Bx (· = g) w w' → wpList Try.prog ops Q rest (a.put o.dst (goInt s.size)) w') : wpList Try.prog ops Q (o :: rest) a w := by
  refine wpList_plain hgd fun K hK => ?_
  have hrun := run_copy_txt m cap o.type s hg hp hm
  unfold Oper.wp execOp
  simp only [ho, resolve, invoke, builtin, Sem.run_bind, Sem.run_pure, Result.andThen_ok, List.map_toArray, List.map_cons, List.map_nil, hx, hy, hrun]
  exact hK _ _ (hh _ (arr_set hg _) (bx_set w g _ rfl))
theorem Hd.has_sum {l : Hd.B} (h : l.length = 512) : Oct.Has ((Hd.sumB l : Nat) : Int) ((7 : Nat) : Int) := by
  have := Hd.sumB_bd (b := l) (by omega)
  exact ⟨by decide, by decide, Int.natCast_nonneg _, .inl (by rw [Int.toNat_natCast]; exact this)⟩

/-- within a drawn region: the array's block alone turns -/
def Reg (W : World) (g : Nat) (l m : Hd.B) (w' : World) : Prop := Bx (· = g) W w' ∧ Two w' g l m
theorem Reg.start {W : World} {g : Nat} {l m : Hd.B} (h : ArrAt W g l) : Reg W g l m W.drew := ⟨(Bx.refl _ _).drew, .inl (h.keep (Below.refl _ _).drew)⟩
theorem Reg.keep {W w1 w2 : World} {g : Nat} {l m : Hd.B} (h : Reg W g l m w1) (b : Bw w1 w2) : Reg W g l m w2 := ⟨h.1.trans (.of_bw b), h.2.keep b⟩
theorem Reg.set {W w1 w2 : World} {g : Nat} {l m : Hd.B} (h : Reg W g l m w1) (a : ArrAt w2 g m) (b : Bx (· = g) w1 w2) : Reg W g l m w2 := ⟨h.1.trans b, .inr a⟩
theorem bw_alloc2 (w : World) (o p : Obj) : Bw w ((w.alloc o).alloc p) := bw_alloc7 (bw_alloc7 (Bw.refl _) _) _
/-- what lay above the base alone turned: what was there stays -/
theorem bw_of_bx {w W w' : World} {S : Nat → Prop} (h : Bw w W) (b : Bx S W w') (hS : ∀ g, S g → w.heap.size ≤ g) : Bw w w' :=
  ⟨b.os.trans h.os, b.tape.trans h.tape, b.output.trans h.output, Nat.le_trans h.size b.size, fun k hk => (b.block k (Nat.lt_of_lt_of_le hk h.size) (fun e => by have := hS k e; omega)).trans (h.block k hk)⟩
theorem arr_store {w : World} {g o : Nat} {l : Hd.B} (h : ArrAt w g l) (c : UInt8) (ho : o < l.length) : ArrAt (w.setCell ⟨g, o, none⟩ (.int .u8 (c.toNat : Int))) g (Hd.ovl l o [c]) := by
  have := heap_setCell_same w g o _ _ (.int .u8 (c.toNat : Int)) h
  rw [Hd.arr_set ho] at this
  exact this

set_option maxRecDepth 100000 in
set_option maxHeartbeats 2000000 in
theorem hsealed_any (l : Hd.B) (hl : l.length = 512) (w : World) :
    Calls Try.prog 17 #[.agg (Hd.arr l)] w fun e w' => e = .returned (.agg (Hd.arr (Hd.sealB l))) ∧ Bw w w' := by
  have hz := zero_raw
  obtain ⟨Z, hZ⟩ : ∃ Z, Hid (Z = Hd.arr Hd.zeros) := ⟨_, rfl⟩
  have hZs : Z.size = 512 := by rw [hZ.out, Hd.arr_size]; rfl
  rw [← hZ.out] at hz
  obtain ⟨W, hW⟩ : ∃ W, W = (w.alloc (.cells (Hd.arr l) 42)).alloc (.cells Z 42) := ⟨_, rfl⟩
  have hA0 : ArrAt W w.heap.size l := by rw [hW]; exact heap_alloc2_old _ _ _
  have hB0 : W.heap[w.heap.size + 1]? = some (.cells Z 42 (0, 0)) := by rw [hW]; exact heap_alloc2_new _ _ _
  have hbw : Bw w W := by rw [hW]; exact bw_alloc2 _ _ _
  have hi := info_raw hl
  have hsb := Hd.sumB_bd (b := l) (by omega)
  obtain ⟨N, hN⟩ : ∃ N : Nat, Hid (N = Hd.sumB l) := ⟨_, rfl⟩
  rw [← hN.out] at hsb
  have HH : Hid (Oct.Has (N : Int) ((7 : Nat) : Int)) := by rw [hN.out]; exact Hd.has_sum hl
  have hl7 := Hd.numB_len N 7
  obtain ⟨M, hM⟩ : ∃ M, Hid (M = Hd.ovl l 148 (Hd.numB N 7)) := ⟨_, rfl⟩
  have hMl : M.length = 512 := by rw [hM.out, Hd.ovl_len (by rw [hl7]; omega), hl]
  have hend : Hid (Hd.ovl M 155 [32] = Hd.sealB l) := by show _ = _; rw [hM.out, hN.out]; exact Hd.ovl_seal hl
  go_enter Try.func17, Try.ntmps17
  go_wp2
  rw [← hW]
  clear hW hz
  have hdr : Bw W W.drew := (Below.refl _ _).drew
  refine wp_region_any (by kernel_rfl) ?_
  change wpAny _ _ _ _ _ _ _ (World.drew _)
  refine wpAny_take (i := 0) (v := ?_) rfl (by kernel_rfl) (by kernel_rfl) (by kernel_rfl) (fun _ _ _ h => h) (Or.inl ⟨by rfl, ?_⟩) ?_
  rotate_left
  · intro w; go_simp; all_goals (with_reducible rfl)
  try simp only [Act.put, List.setIfInBounds_toArray, List.set_cons_zero, List.set_cons_succ]
  refine wpAny_ready (rs := [1]) (by kernel_rfl) (by simp) ?_
  refine AllReady.cons rfl (fun K hK => ?_) AllReady.nil
  refine step_load_arr (by rfl) _ (by rfl) w.heap.size l hl (by rfl) (hA0.keep hdr) ?_
  refine hK _ _ ?_
  clear hK K
  try simp only [Act.put, List.setIfInBounds_toArray, List.set_cons_zero, List.set_cons_succ]
  refine wpAny_ready (rs := [2]) (by kernel_rfl) (by simp) ?_
  refine AllReady.cons rfl (fun K hK => ?_) AllReady.nil
  go_simp
  refine (hsum_any l hl _).mono ?_
  rintro e w1 ⟨rfl, hw1⟩
  rw [← hN.out]
  refine hK _ _ ?_
  clear hK K
  try simp only [Act.put, List.setIfInBounds_toArray, List.set_cons_zero, List.set_cons_succ]
  refine wpAny_ready (rs := [3]) (by kernel_rfl) (by simp) ?_
  refine AllReady.cons rfl (fun K hK => ?_) AllReady.nil
  go_simp
  refine (hform_any (N : Int) 7 (by omega) HH.out _).mono ?_
  rintro e w2 ⟨g2, rfl, hr2, hw2⟩
  rw [Int.toNat_natCast] at hr2
  refine hK _ _ ?_
  clear hK K
  try simp only [Act.put, List.setIfInBounds_toArray, List.set_cons_zero, List.set_cons_succ]
  refine wpAny_ready (rs := [4]) (by kernel_rfl) (by simp) ?_
  refine AllReady.cons rfl (fun K hK => ?_) AllReady.nil
  have hb2 := (hdr.trans hw1).trans hw2
  refine step_copy_arr (by rfl) _ _ (by rfl) w.heap.size 148 7 _ _ _ l (Hd.numB N 7) _ (by rfl) (by rfl) (.inl (hA0.keep hb2)) hl7 (by omega) (by omega) (by omega) hr2 ?_
  rw [← hM.out]
  intro w3 ha3 hx3
  refine hK _ _ ?_
  clear hK K
  try simp only [Act.put, List.setIfInBounds_toArray, List.set_cons_zero, List.set_cons_succ]
  refine wpAny_done (by kernel_rfl) ?_ _
  have c3 := ha3.cell (c := 155) (by omega)
  have hB3 : w3.heap[w.heap.size + 1]? = some (.cells Z 42 (0, 0)) := (hx3.block _ (Nat.lt_of_lt_of_le (Array.getElem?_eq_some_iff.1 hB0).1 hb2.size) (by omega)).trans ((hb2.block _ (Array.getElem?_eq_some_iff.1 hB0).1).trans hB0)
  have hb3 : Bw w w3 := bw_of_bx (hbw.trans hb2) hx3 (fun k e => by rw [e]; exact Nat.le_refl _)
  have ha4 := arr_store ha3 32 (o := 155) (by omega)
  rw [hend.out] at ha4
  have hl4 : (Hd.sealB l).length = 512 := by rw [Hd.seal_len (by omega), hl]
  have hi4 := info_raw hl4
  have hB4 : (w3.setCell ⟨w.heap.size, 155, none⟩ (.int .u8 32)).heap[w.heap.size + 1]? = some (.cells Z 42 (0, 0)) := (heap_setCell_other w3 ⟨w.heap.size, 155, none⟩ _ _ (by simp only; omega)).trans hB3
  have hb4 : Bw w (w3.setCell ⟨w.heap.size, 155, none⟩ (.int .u8 32)) := hb3.put (Nat.le_refl _) _ _
  obtain ⟨c4, c5⟩ := c3
  clear hb2 hw1 hw2 hr2 hA0 hB0 hbw hx3 hb3 hB3 ha3
  go_wp2_with (first
    | refine wpList_load_row rfl 42 _ rfl w.heap.size rfl 42 (Hd.arr (Hd.sealB l)) (0, 0) _ ha4 Try.underlying42 rfl hi4 ?_
    | refine wpList_store_row rfl 42 _ _ rfl (w.heap.size + 1) (Hd.arr (Hd.sealB l)) rfl rfl 42 Z hB4 hi4 (by rw [hZs, Hd.arr_size, hl4]) (Hd.arr_one _) ?_)
  exact bodyPost_ret (results_cell_row Try.results17 _ _ (w.heap.size + 1) 42 (Hd.arr (Hd.sealB l)) (0, 0) _ rfl (setRow_heap _ (w.heap.size + 1) _ _ _ _ hB4) Try.underlying42 rfl hi4) rfl ⟨rfl, bw_of_bx hb4 (bx_set _ (w.heap.size + 1) _ rfl) (fun k e => by omega)⟩
end Go.Proofs.Ytkoacehgfmflmab
