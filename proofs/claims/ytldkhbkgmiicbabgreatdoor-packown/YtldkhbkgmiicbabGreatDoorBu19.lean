/- Texts of mine, put together. -/
import Derived.Test.YtldkhbkgmiicbabGreatDoorBu18
import Derived.Test.YtldkhbkgmiicbabGreatDoorBu17
import Derived.Great.BuildSlice
import Derived.Great.FillDense

/- The program's own sealed and taken, as landed at e169a841. -/
namespace Go.Proofs.YtldkhbkgmiicbabGreatDoor
open Go.RowKit Go.Deep
set_option linter.unusedVariables false
set_option linter.unusedSimpArgs false

theorem Hd.ovl_ovl {l : Hd.B} {o : Nat} {s : Hd.B} (h : o + s.length ≤ l.length) : Hd.ovl (Hd.ovl l o s) o s = Hd.ovl l o s := by
  have e1 : (l.take o).length = o := by rw [List.length_take]; omega
  unfold Hd.ovl
  have e2 : (l.take o ++ s ++ l.drop (o + s.length)).take o = l.take o := by
    rw [List.append_assoc, List.take_append_of_le_length (by omega), List.take_of_length_le (by omega)]
  have e3 : (l.take o ++ s ++ l.drop (o + s.length)).drop (o + s.length) = l.drop (o + s.length) := by
    have : o + s.length = (l.take o ++ s).length := by rw [List.length_append]; omega
    rw [this, List.drop_left]
  rw [e2, e3]
/-- an array of the call's own, ahead of what is laid over it, or behind -/
def Two (w : World) (g : Nat) (l m : Hd.B) : Prop := ArrAt w g l ∨ ArrAt w g m
theorem Two.keep {w w' : World} {g : Nat} {l m : Hd.B} (h : Two w g l m) (b : Bw w w') : Two w' g l m := h.elim (fun h => .inl (h.keep b)) (fun h => .inr (h.keep b))
/-- at a step of a drawn region: a row laid over an array -/
theorem step_copy_arr {w : World} {ops : Array Oper} {o : Oper} {a : Act} {K : Act → World → Prop} {Q : Exit → Act → World → Prop} {E : Prop} (hgd : o.guard = none) (x y : Operand)
    (ho : o.op = .call { callee := .builtin .copy, args := #[x, y], argTypes := #[24, 24] })
    (g p n m cap cb : Nat) (l s : Hd.B) (A : Option Addr) (hx : a.eval x = .slice (some ⟨g, p, none⟩) m cap) (hy : a.eval y = .slice A n cb) (hg : Two w g l (Hd.ovl l p s)) (hn : s.length = n) (hp : p + n ≤ l.length) (hm : n ≤ m) (h0 : 0 < n) (hB : RowAt w A n (Hd.rowF s))
    (hh : ∀ w', ArrAt w' g (Hd.ovl l p s) → Bx (· = g) w w' → K (a.put o.dst (goInt n)) w') :
    if Region.wanted o (yielded ops a.tmps) = true then Oper.wp Tryz.prog o a w K Q else E := by
  have hw : Region.wanted o (yielded ops a.tmps) = true := by simp [Region.wanted, hgd]
  rw [if_pos hw]
  have hrun : (Builtin.copy_ #[24, 24] o.type #[.slice (some ⟨g, p, none⟩) m cap, .slice A n cb]).run Tryz.prog w = .ok (goInt n) (w.setRow g (Hd.arr (Hd.ovl l p s))) := by
    rcases hg with hg | hg
    · exact run_copy_arr m cap cb o.type hg hn hp hm h0 hB
    · have := run_copy_arr m cap cb o.type hg hn (by rw [Hd.ovl_len (by omega)]; exact hp) hm h0 hB
      rw [Hd.ovl_ovl (by omega)] at this
      exact this
  have hA : ArrAt (w.setRow g (Hd.arr (Hd.ovl l p s))) g (Hd.ovl l p s) := by
    rcases hg with hg | hg
    · exact arr_set hg _
    · exact arr_set hg _
  unfold Oper.wp execOp
  simp only [ho, resolve, invoke, builtin, Sem.run_bind, Sem.run_pure, Result.andThen_ok, List.map_toArray, List.map_cons, List.map_nil, hx, hy, hrun]
  exact hh _ hA (bx_set w g _ rfl)
theorem step_copy_txt {w : World} {ops : Array Oper} {o : Oper} {a : Act} {K : Act → World → Prop} {Q : Exit → Act → World → Prop} {E : Prop} (hgd : o.guard = none) (x y : Operand)
    (ho : o.op = .call { callee := .builtin .copy, args := #[x, y], argTypes := #[24, 9] })
    (g p m cap : Nat) (l : Hd.B) (s : ByteArray) (hx : a.eval x = .slice (some ⟨g, p, none⟩) m cap) (hy : a.eval y = .string s) (hg : Two w g l (Hd.ovl l p s.toList)) (hp : p + s.size ≤ l.length) (hm : s.size ≤ m)
    (hh : ∀ w', ArrAt w' g (Hd.ovl l p s.toList) → Bx (· = g) w w' → K (a.put o.dst (goInt s.size)) w') :
    if Region.wanted o (yielded ops a.tmps) = true then Oper.wp Tryz.prog o a w K Q else E := by
  have hw : Region.wanted o (yielded ops a.tmps) = true := by simp [Region.wanted, hgd]
  rw [if_pos hw]
  have hs := Hd.size_toList s
  have hrun : (Builtin.copy_ #[24, 9] o.type #[.slice (some ⟨g, p, none⟩) m cap, .string s]).run Tryz.prog w = .ok (goInt s.size) (w.setRow g (Hd.arr (Hd.ovl l p s.toList))) := by
    rcases hg with hg | hg
    · exact run_copy_txt m cap o.type s hg hp hm
    · have := run_copy_txt m cap o.type s hg (by rw [Hd.ovl_len (by omega)]; exact hp) hm
      rw [Hd.ovl_ovl (by omega)] at this
      exact this
  have hA : ArrAt (w.setRow g (Hd.arr (Hd.ovl l p s.toList))) g (Hd.ovl l p s.toList) := by
    rcases hg with hg | hg
    · exact arr_set hg _
    · exact arr_set hg _
  unfold Oper.wp execOp
  simp only [ho, resolve, invoke, builtin, Sem.run_bind, Sem.run_pure, Result.andThen_ok, List.map_toArray, List.map_cons, List.map_nil, hx, hy, hrun]
  exact hh _ hA (bx_set w g _ rfl)
/-- a whole array read at a step of a drawn region -/
theorem step_load_arr {w : World} {ops : Array Oper} {o : Oper} {a : Act} {K : Act → World → Prop} {Q : Exit → Act → World → Prop} {E : Prop} (hgd : o.guard = none) (x : Operand) (ho : o.op = .load 112 x)
    (g : Nat) (l : Hd.B) (hl : l.length = 512) (hx : a.eval x = .pointer (some ⟨g, 0, none⟩)) (hg : ArrAt w g l) (hh : K (a.put o.dst (.agg (Hd.arr l))) w) :
    if Region.wanted o (yielded ops a.tmps) = true then Oper.wp Tryz.prog o a w K Q else E := by
  have hw : Region.wanted o (yielded ops a.tmps) = true := by simp [Region.wanted, hgd]
  rw [if_pos hw]
  exact wp_load_row 112 x ho g hx 112 _ (0, 0) _ hg Tryz.underlying112 rfl (info_raw hl) hh
theorem wpList_copy_txt {ops : Array Oper} {rest : List Oper} {o : Oper} {a : Act} {w : World} {Q : Exit → Act → World → Prop} (hgd : o.guard = none) (x y : Operand)
    (ho : o.op = .call { callee := .builtin .copy, args := #[x, y], argTypes := #[24, 9] })
    (g p m cap : Nat) (l : Hd.B) (s : ByteArray) (hx : a.eval x = .slice (some ⟨g, p, none⟩) m cap) (hy : a.eval y = .string s) (hg : ArrAt w g l) (hp : p + s.size ≤ l.length) (hm : s.size ≤ m)
    (hh : ∀ w', ArrAt w' g (Hd.ovl l p s.toList) → Bx (· = g) w w' → wpList Tryz.prog ops Q rest (a.put o.dst (goInt s.size)) w') : wpList Tryz.prog ops Q (o :: rest) a w := by
  refine wpList_plain hgd fun K hK => ?_
  have hrun := run_copy_txt m cap o.type s hg hp hm
  unfold Oper.wp execOp
  simp only [ho, resolve, invoke, builtin, Sem.run_bind, Sem.run_pure, Result.andThen_ok, List.map_toArray, List.map_cons, List.map_nil, hx, hy, hrun]
  exact hK _ _ (hh _ (arr_set hg _) (bx_set w g _ rfl))
theorem Hd.has_sum {l : Hd.B} (h : l.length = 512) : Oct.Has ((Hd.sumB l : Nat) : Int) ((7 : Nat) : Int) := by
  have := Hd.sumB_bd (b := l) (by omega)
  exact ⟨by decide, by decide, Int.natCast_nonneg _, .inl (by rw [Int.toNat_natCast]; exact this)⟩

/-- within a drawn region: the array's block alone turns -/
def Reg (W : World) (g : Nat) (l m : Hd.B) (w' : World) : Prop := Bx (· = g) W w' ∧ Two w' g l m
theorem Reg.keep {W w1 w2 : World} {g : Nat} {l m : Hd.B} (h : Reg W g l m w1) (b : Bw w1 w2) : Reg W g l m w2 := ⟨h.1.trans (.of_bw b), h.2.keep b⟩
theorem Reg.set {W w1 w2 : World} {g : Nat} {l m : Hd.B} (h : Reg W g l m w1) (a : ArrAt w2 g m) (b : Bx (· = g) w1 w2) : Reg W g l m w2 := ⟨h.1.trans b, .inr a⟩
theorem bw_alloc2 (w : World) (o p : Obj) : Bw w ((w.alloc o).alloc p) := bw_alloc7 (bw_alloc7 (Bw.refl _) _) _
/-- what lay above the base alone turned: what was there stays -/
theorem bw_of_bx {w W w' : World} {S : Nat → Prop} (h : Bw w W) (b : Bx S W w') (hS : ∀ g, S g → w.heap.size ≤ g) : Bw w w' :=
  ⟨b.os.trans h.os, b.tape.trans h.tape, b.output.trans h.output, Nat.le_trans h.size b.size, fun k hk => (b.block k (Nat.lt_of_lt_of_le hk h.size) (fun e => by have := hS k e; omega)).trans (h.block k hk)⟩
theorem arr_store {w : World} {g o : Nat} {l : Hd.B} (h : ArrAt w g l) (c : UInt8) (ho : o < l.length) : ArrAt (w.setCell ⟨g, o, none⟩ (.int .u8 (c.toNat : Int))) g (Hd.ovl l o [c]) := by
  have := heap_setCell_same w g o _ _ (.int .u8 (c.toNat : Int)) h
  rw [Hd.arr_set ho] at this
  exact this

set_option maxRecDepth 100000 in
set_option maxHeartbeats 2000000 in
theorem hsealed_any (l : Hd.B) (hl : l.length = 512) (w : World) :
    Calls Tryz.prog 83 #[.agg (Hd.arr l)] w fun e w' => e = .returned (.agg (Hd.arr (Hd.sealB l))) ∧ Bw w w' := by
  have hz := zero_raw
  obtain ⟨Z, hZ⟩ : ∃ Z, Hid (Z = Hd.arr Hd.zeros) := ⟨_, rfl⟩
  have hZs : Z.size = 512 := by rw [hZ.out, Hd.arr_size]; rfl
  rw [← hZ.out] at hz
  obtain ⟨W, hW⟩ : ∃ W, W = (w.alloc (.cells (Hd.arr l) 112)).alloc (.cells Z 112) := ⟨_, rfl⟩
  have hA0 : ArrAt W w.heap.size l := by rw [hW]; exact heap_alloc2_old _ _ _
  have hB0 : W.heap[w.heap.size + 1]? = some (.cells Z 112 (0, 0)) := by rw [hW]; exact heap_alloc2_new _ _ _
  have hbw : Bw w W := by rw [hW]; exact bw_alloc2 _ _ _
  have hi := info_raw hl
  have hsb := Hd.sumB_bd (b := l) (by omega)
  obtain ⟨N, hN⟩ : ∃ N : Nat, Hid (N = Hd.sumB l) := ⟨_, rfl⟩
  rw [← hN.out] at hsb
  have HH : Hid (Oct.Has (N : Int) ((7 : Nat) : Int)) := by rw [hN.out]; exact Hd.has_sum hl
  have hl7 := Hd.numB_len N 7
  obtain ⟨M, hM⟩ : ∃ M, Hid (M = Hd.ovl l 148 (Hd.numB N 7)) := ⟨_, rfl⟩
  have hMl : M.length = 512 := by rw [hM.out, Hd.ovl_len (by rw [hl7]; omega), hl]
  have hend : Hid (Hd.ovl M 155 [32] = Hd.sealB l) := by show _ = _; rw [hM.out, hN.out]; exact Hd.ovl_seal hl
  go_enter Tryz.func83, Tryz.ntmps83
  go_wp2
  rw [← hW]
  clear hW hz
  have hdr : Bw W W.drew := (Below.refl _ _).drew
  refine wp_region_any (by kernel_rfl) ?_
  change wpAny _ _ _ _ _ _ _ (World.drew _)
  refine wpAny_take (i := 0) (v := ?_) rfl (by kernel_rfl) (by kernel_rfl) (by kernel_rfl) (fun _ _ _ h => h) (Or.inl ⟨by rfl, ?_⟩) ?_
  rotate_left
  · intro w; go_simp; all_goals (with_reducible rfl)
  try simp only [Act.put, List.setIfInBounds_toArray, List.set_cons_zero, List.set_cons_succ]
  refine wpAny_ready (rs := [1]) (by kernel_rfl) (by simp) ?_
  refine AllReady.cons rfl (fun K hK => ?_) AllReady.nil
  refine step_load_arr (by rfl) _ (by rfl) w.heap.size l hl (by rfl) (hA0.keep hdr) ?_
  refine hK _ _ ?_
  clear hK K
  try simp only [Act.put, List.setIfInBounds_toArray, List.set_cons_zero, List.set_cons_succ]
  refine wpAny_ready (rs := [2]) (by kernel_rfl) (by simp) ?_
  refine AllReady.cons rfl (fun K hK => ?_) AllReady.nil
  go_simp
  refine (hsum_any l hl _).mono ?_
  rintro e w1 ⟨rfl, hw1⟩
  rw [← hN.out]
  refine hK _ _ ?_
  clear hK K
  try simp only [Act.put, List.setIfInBounds_toArray, List.set_cons_zero, List.set_cons_succ]
  refine wpAny_ready (rs := [3]) (by kernel_rfl) (by simp) ?_
  refine AllReady.cons rfl (fun K hK => ?_) AllReady.nil
  go_simp
  refine (hform_any (N : Int) 7 (by omega) HH.out _).mono ?_
  rintro e w2 ⟨g2, rfl, hr2, hw2⟩
  rw [Int.toNat_natCast] at hr2
  refine hK _ _ ?_
  clear hK K
  try simp only [Act.put, List.setIfInBounds_toArray, List.set_cons_zero, List.set_cons_succ]
  refine wpAny_ready (rs := [4]) (by kernel_rfl) (by simp) ?_
  refine AllReady.cons rfl (fun K hK => ?_) AllReady.nil
  have hb2 := (hdr.trans hw1).trans hw2
  refine step_copy_arr (by rfl) _ _ (by rfl) w.heap.size 148 7 _ _ _ l (Hd.numB N 7) _ (by rfl) (by rfl) (.inl (hA0.keep hb2)) hl7 (by omega) (by omega) (by omega) hr2 ?_
  rw [← hM.out]
  intro w3 ha3 hx3
  refine hK _ _ ?_
  clear hK K
  try simp only [Act.put, List.setIfInBounds_toArray, List.set_cons_zero, List.set_cons_succ]
  refine wpAny_done (by kernel_rfl) ?_ _
  have c3 := ha3.cell (c := 155) (by omega)
  have hB3 : w3.heap[w.heap.size + 1]? = some (.cells Z 112 (0, 0)) := (hx3.block _ (Nat.lt_of_lt_of_le (Array.getElem?_eq_some_iff.1 hB0).1 hb2.size) (by omega)).trans ((hb2.block _ (Array.getElem?_eq_some_iff.1 hB0).1).trans hB0)
  have hb3 : Bw w w3 := bw_of_bx (hbw.trans hb2) hx3 (fun k e => by rw [e]; exact Nat.le_refl _)
  have ha4 := arr_store ha3 32 (o := 155) (by omega)
  rw [hend.out] at ha4
  have hl4 : (Hd.sealB l).length = 512 := by rw [Hd.seal_len (by omega), hl]
  have hi4 := info_raw hl4
  have hB4 : (w3.setCell ⟨w.heap.size, 155, none⟩ (.int .u8 32)).heap[w.heap.size + 1]? = some (.cells Z 112 (0, 0)) := (heap_setCell_other w3 ⟨w.heap.size, 155, none⟩ _ _ (by simp only; omega)).trans hB3
  have hb4 : Bw w (w3.setCell ⟨w.heap.size, 155, none⟩ (.int .u8 32)) := hb3.put (Nat.le_refl _) _ _
  obtain ⟨c4, c5⟩ := c3
  clear hb2 hw1 hw2 hr2 hA0 hB0 hbw hx3 hb3 hB3 ha3
  go_wp2_with (first
    | refine wpList_load_row rfl 112 _ rfl w.heap.size rfl 112 (Hd.arr (Hd.sealB l)) (0, 0) _ ha4 Tryz.underlying112 rfl hi4 ?_
    | refine wpList_store_row rfl 112 _ _ rfl (w.heap.size + 1) (Hd.arr (Hd.sealB l)) rfl rfl 112 Z hB4 hi4 (by rw [hZs, Hd.arr_size, hl4]) (Hd.arr_one _) ?_)
  exact bodyPost_ret (results_cell_row Tryz.results83 _ _ (w.heap.size + 1) 112 (Hd.arr (Hd.sealB l)) (0, 0) _ rfl (setRow_heap _ (w.heap.size + 1) _ _ _ _ hB4) Tryz.underlying112 rfl hi4) rfl ⟨rfl, bw_of_bx hb4 (bx_set _ (w.heap.size + 1) _ rfl) (fun k e => by omega)⟩
end Go.Proofs.YtldkhbkgmiicbabGreatDoor

/- Layer 12: blocks of 512 bytes in memory, a roll of them, and the program's own put, as landed at 16cf8173. -/
namespace Go.Proofs.YtldkhbkgmiicbabGreatDoor
open Go.RowKit Go.Deep
set_option linter.unusedVariables false
set_option linter.unusedSimpArgs false

theorem info_brk {l : Hd.B} (h : l.length = 512) : (Tryz.prog.info? 89).map (·.size) = some (Hd.arr l).size := by
  rw [Hd.arr_size, h]; kernel_rfl
theorem info_brk3 : (Tryz.prog.info? 89).map (fun i => (i.zero, i.size, i.bytes)) = some (some (.agg (Hd.arr Hd.zeros)), 512, 512) := by kernel_rfl
theorem zero_brk (w : World) : (zeroValue 89).run Tryz.prog w = .ok (.agg (Hd.arr Hd.zeros)) w := by kernel_rfl
/-- a block of these bytes in memory -/
def BrkAt (w : World) (g : Nat) (l : Hd.B) : Prop := w.heap[g]? = some (.cells (Hd.arr l) 89 (0, 0))
theorem BrkAt.lt {w : World} {g : Nat} {l : Hd.B} (h : BrkAt w g l) : g < w.heap.size := (Array.getElem?_eq_some_iff.1 h).1
theorem BrkAt.keep {w w' : World} {g : Nat} {l : Hd.B} (h : BrkAt w g l) (b : Bw w w') : BrkAt w' g l := (b.block g h.lt).trans h
theorem BrkAt.keepx {S : Nat → Prop} {w w' : World} {g : Nat} {l : Hd.B} (h : BrkAt w g l) (b : Bx S w w') (hg : ¬ S g) : BrkAt w' g l := (b.block g h.lt hg).trans h
theorem BrkAt.cell {w : World} {g : Nat} {l : Hd.B} (h : BrkAt w g l) {c : Nat} (hc : c < l.length) : w.cell? ⟨g, c, none⟩ = some (.int .u8 (Hd.rowF l c)) ∧ w.frozen? ⟨g, c, none⟩ = false :=
  ⟨(cell_of_row w g c _ _ _ h).trans (Hd.arr_row hc), frozen_of_row w g c _ _ h⟩
theorem BrkAt.row {w : World} {g : Nat} {l : Hd.B} (h : BrkAt w g l) {n : Nat} (hn : l.length = n) : RowAt w (some ⟨g, 0, none⟩) n (Hd.rowF l) :=
  ⟨.inr ⟨g, 0, rfl, fun i hi => by rw [Nat.zero_add]; exact (h.cell (by omega)).1⟩, Hd.rowF_bd _⟩
theorem brk_new (w : World) (l : Hd.B) : BrkAt (w.alloc (.cells (Hd.arr l) 89)) w.heap.size l := heap_alloc_new _ _
theorem brk_set {w : World} {g : Nat} {l : Hd.B} (h : BrkAt w g l) (m : Hd.B) : BrkAt (w.setRow g (Hd.arr m)) g m := setRow_heap w g _ _ _ _ h
theorem rowat_take {w : World} {A : Option Addr} {r : Hd.B} {n q : Nat} (hq : q ≤ n) (h : RowAt w A n (Hd.rowF r)) : RowAt w A q (Hd.rowF (r.take q)) := by
  refine ⟨?_, Hd.rowF_bd _⟩
  rcases h.1 with h0 | ⟨b, off, e, hc⟩
  · exact .inl (by omega)
  · refine .inr ⟨b, off, e, fun i hi => ?_⟩
    rw [hc i (by omega)]
    unfold Hd.rowF
    rw [List.getD_eq_getElem?_getD, List.getD_eq_getElem?_getD, List.getElem?_take, if_pos hi]
theorem rowat_cutz {w : World} {b o : Nat} {r : Hd.B} {n q : Nat} (hq : q ≤ n) (h : RowAt w (some ⟨b, o, none⟩) n (Hd.rowF r)) (o' : Nat) (ho : o' = o + q ∨ n = q) : RowAt w (some ⟨b, o', none⟩) (n - q) (Hd.rowF (r.drop q)) := by
  refine ⟨?_, Hd.rowF_bd _⟩
  rcases ho with rfl | e
  · rcases h.1 with h0 | ⟨b', off, e, hc⟩
    · exact .inl (by omega)
    · cases e
      refine .inr ⟨b, o + q, rfl, fun i hi => ?_⟩
      rw [Nat.add_assoc, hc (q + i) (by omega)]
      unfold Hd.rowF
      rw [List.getD_eq_getElem?_getD, List.getD_eq_getElem?_getD, List.getElem?_drop]
  · exact .inl (by omega)
/-- the beginning of a row laid over a block -/
theorem run_copy_brk {w : World} {g n cb : Nat} {l r : Hd.B} (ty : TypeId) {A : Option Addr} (hg : BrkAt w g l) (hl : l.length = 512) (hn : r.length = n) (h0 : 0 < n) (hB : RowAt w A n (Hd.rowF r)) (q : Nat) (hq : q = min n 512) :
    (Builtin.copy_ #[24, 24] ty #[.slice (some ⟨g, 0, none⟩) 512 512, .slice A n cb]).run Tryz.prog w = .ok (goInt q) (w.setRow g (Hd.arr (Hd.ovl l 0 (r.take q)))) := by
  have hB' := rowat_take (q := q) (by omega) hB
  have hl' : (Lib.byteCells (r.take q)).length = q := by rw [Lib.byteCells_length, List.length_take]; omega
  obtain ⟨b, off, rfl, hc⟩ := hB.at (k := 0) h0
  have hcr := Hd.cells_row (r.take q)
  rw [show (r.take q).length = q by rw [List.length_take]; omega] at hcr
  have hrun := run_copy_row Tryz.prog w 24 24 ty 5 g 0 512 512 ⟨b, off, none⟩ n cb (Hd.arr l) 89 (Lib.byteCells (r.take q)) Tryz.underlying24 u8_one hg (by rw [hl']; exact hq) (by rw [← hcr]; exact rowat_news hB') (by rw [hl', Hd.arr_size, hl]; omega) (Lib.byteCells_one _)
  rw [hl'] at hrun
  have e := Hd.arr_ovl l 0 (r.take q)
  rw [show (r.take q).length = q by rw [List.length_take]; omega] at e
  rw [e] at hrun
  exact hrun
theorem wpList_copy_brk {ops : Array Oper} {rest : List Oper} {o : Oper} {a : Act} {w : World} {Q : Exit → Act → World → Prop} (hgd : o.guard = none) (x y : Operand)
    (ho : o.op = .call { callee := .builtin .copy, args := #[x, y], argTypes := #[24, 24] })
    (g n cb : Nat) (l r : Hd.B) (A : Option Addr) (hx : a.eval x = .slice (some ⟨g, 0, none⟩) 512 512) (hy : a.eval y = .slice A n cb) (hg : BrkAt w g l) (hl : l.length = 512) (hn : r.length = n) (h0 : 0 < n) (hB : RowAt w A n (Hd.rowF r))
    (hh : ∀ w' (q : Nat), q = min n 512 → BrkAt w' g (Hd.ovl l 0 (r.take q)) → Bx (· = g) w w' → wpList Tryz.prog ops Q rest (a.put o.dst (.int .i64 (q : Int))) w') : wpList Tryz.prog ops Q (o :: rest) a w := by
  refine wpList_plain hgd fun K hK => ?_
  have hrun := run_copy_brk (cb := cb) o.type hg hl hn h0 hB (min n 512) rfl
  unfold Oper.wp execOp
  simp only [ho, resolve, invoke, builtin, Sem.run_bind, Sem.run_pure, Result.andThen_ok, List.map_toArray, List.map_cons, List.map_nil, hx, hy, hrun]
  exact hK _ _ (hh _ _ rfl (brk_set hg _) (bx_set w g _ rfl))
theorem step_load_brk {w : World} {ops : Array Oper} {o : Oper} {a : Act} {K : Act → World → Prop} {Q : Exit → Act → World → Prop} {E : Prop} (hgd : o.guard = none) (x : Operand) (ho : o.op = .load 89 x)
    (g : Nat) (l : Hd.B) (hl : l.length = 512) (hx : a.eval x = .pointer (some ⟨g, 0, none⟩)) (hg : BrkAt w g l) (hh : K (a.put o.dst (.agg (Hd.arr l))) w) :
    if Region.wanted o (yielded ops a.tmps) = true then Oper.wp Tryz.prog o a w K Q else E := by
  have hw : Region.wanted o (yielded ops a.tmps) = true := by simp [Region.wanted, hgd]
  rw [if_pos hw]
  exact wp_load_row 89 x ho g hx 89 _ (0, 0) _ hg Tryz.underlying89 rfl (info_brk hl) hh
theorem fill_one (z c : Array Value) (hc : c.size = 512) : Instr.fill (fun i => some (i * 512, 512)) ((Array.range (1 * 512)).map (z[· % z.size]!)) [(0, .agg c)] = some c := by
  have h := Great.fill_whole (s := 512) (by decide) [.agg c] ((Array.range (1 * 512)).map (z[· % z.size]!)) (fun v hv => by rw [List.mem_singleton] at hv; rw [hv]; exact hc) (by simp)
  simpa [Value.cells] using h
theorem own_grown {w w' : World} {row : Option Nat} {b : Nat} {e : TypeId} {size k : Nat} {u : Value} {ys : List Value} (hg : w.grownBy w' row) (h : w.ownsRow b e size u k ys) (hne : ∀ x, u.ownBlock = some x → some x ≠ row) : w'.ownsRow b e size u k ys := by
  refine ⟨h.1, ?_⟩
  rcases h.2 with h0 | ⟨g, cap, cur, rfl, hb, hc, hr⟩
  · exact .inl h0
  · exact .inr ⟨g, cap, cur, rfl, hb, (hg.block g (Array.getElem?_eq_some_iff.1 hc).1 (hne g rfl)).trans hc, hr⟩
/-- one more element behind a row: where it lies, and that what there was stays -/
theorem append_more {P : Program} (w : World) (base : Nat) (t ty e : TypeId) (i : TypeInfo) (z : Value) (size bytes : Nat) (ht : P.underlying t = some (.slice e)) (hi : P.info? e = some i) (hz : i.zero = some z)
    (hsize : i.size = size) (hby : i.bytes = bytes) (hzs : z.cells.size = size) (hsz : 0 < size)
    (v : Value) (n : Nat) (xs : List Value) (hown : w.ownsRow base e size v n xs)
    (a : Addr) (m c : Nat) (hm : 0 < m) (news : List Value) (hl : news.length = m * size) (hnews : ∀ j u, news[j]? = some u → w.cell? (a.add j) = some u) (h1 : ∀ u ∈ news, u.oneCell' = true)
    (h63 : n + m ≤ maxLen) (hbytes : (n + m) * bytes ≤ 140737488355328) (hbase : base ≤ w.heap.size) :
    ∃ v' w', (Builtin.append_ #[t, t] ty #[v, .slice (some a) m c]).run P w = .ok v' w' ∧ w'.ownsRow base e size v' (n + m) (xs ++ news) ∧ w.grownBy w' v.ownBlock ∧
      (v'.ownBlock = v.ownBlock ∨ ∃ k, v'.ownBlock = some k ∧ w.heap.size ≤ k) ∧ (∀ b u k ys, k ≤ n → w.ownsRow b e size u k ys → w'.ownsRow b e size u k ys) := by
  obtain ⟨v', w', hrun, ho, hg, -⟩ := run_append_own (P := P) w base t ty e i z size bytes ht hi hz hsize hby hzs hsz v n xs hown a m c news hl hnews h1 h63 hbytes hbase
  refine ⟨v', w', hrun, ho, hg, ?_⟩
  subst hsize
  subst hby
  have hsmall : n + m ≤ 9223372036854775807 := by simp only [maxLen] at h63; omega
  rcases hown.2 with ⟨rfl, rfl⟩ | ⟨g, cap, cur, rfl, hbg, hcg, hnc, hcm, hcs, htake⟩
  · have hx : xs = [] := List.eq_nil_of_length_eq_zero (by simpa using hown.1)
    subst hx
    have hr := run_append_nil (P := P) w t ty e i z ht hi hz a m c news hl hnews (by omega) (by omega) (by have hb := hbytes; simp only [Nat.zero_add] at hb; omega)
    rw [hr] at hrun
    cases hrun
    exact ⟨.inr ⟨w.heap.size, rfl, Nat.le_refl _⟩, fun b u k ys _ h => own_grown hg h (fun x _ e => by cases e)⟩
  · by_cases hroom : n + m ≤ cap
    · have hfit : n * i.size + news.length ≤ cur.size := by rw [hl, hcs, ← Nat.add_mul]; exact Nat.mul_le_mul_right _ hroom
      have hr := run_append_room (P := P) w t ty e i ht hi g n cap cur hcg a m c news hl hnews h1 hroom hfit
      rw [hr] at hrun
      cases hrun
      refine ⟨.inl rfl, fun b u k ys hk h => ?_⟩
      by_cases hu : u.ownBlock = some g
      · refine ⟨h.1, ?_⟩
        rcases h.2 with h0 | ⟨g', cap', cur', rfl, hb', hc', h4, h5, h6, h7⟩
        · exact .inl h0
        · simp only [Value.ownBlock, Option.some.injEq] at hu
          subst hu
          rw [hcg] at hc'
          cases hc'
          refine .inr ⟨g', cap', _, rfl, hb', setRow_heap w g' cur _ e _ hcg, h4, h5, ?_, ?_⟩
          · rw [← h6]
            simp only [List.size_toArray, List.length_append, List.length_take, List.length_drop, Array.length_toList]
            omega
          · rw [← h7]
            have hks : k * i.size ≤ n * i.size := Nat.mul_le_mul_right _ hk
            rw [List.append_assoc, List.take_append_of_le_length (by rw [List.length_take, Array.length_toList]; omega), List.take_take, Nat.min_eq_left hks]
      · exact own_grown hg h (fun x hx e => hu (by rw [hx]; exact e))
    · have holds : ∀ j u, xs[j]? = some u → w.cell? ((⟨g, 0, none⟩ : Addr).add j) = some u := hown.cells (g := g) rfl
      have hr := run_append_grow (P := P) w t ty e i z ht hi hz ⟨g, 0, none⟩ n cap xs hown.1 holds a m c news hl hnews (by omega) (by omega) (growslice_fits (by omega) hbytes)
      rw [hr] at hrun
      cases hrun
      exact ⟨.inr ⟨w.heap.size, rfl, Nat.le_refl _⟩, fun b u k ys _ h => own_keep h (bw_alloc7 (Below.refl _ _).drew _)⟩
/-- a roll in a block: the slice of its blocks, and how many bytes they have -/
def RollAt (w : World) (g : Nat) (v : Value) (R : Pk.B) : Prop := w.heap[g]? = some (.cells #[v, .int .i64 (R.length : Int)] 54 (0, 0))
theorem RollAt.lt {w : World} {g : Nat} {v : Value} {R : Pk.B} (h : RollAt w g v R) : g < w.heap.size := (Array.getElem?_eq_some_iff.1 h).1
theorem RollAt.keep {w w' : World} {g : Nat} {v : Value} {R : Pk.B} (h : RollAt w g v R) (b : Bw w w') : RollAt w' g v R := (b.block g h.lt).trans h
theorem RollAt.keepx {S : Nat → Prop} {w w' : World} {g : Nat} {v : Value} {R : Pk.B} (h : RollAt w g v R) (b : Bx S w w') (hg : ¬ S g) : RollAt w' g v R := (b.block g h.lt hg).trans h
theorem RollAt.c0 {w : World} {g : Nat} {v : Value} {R : Pk.B} (h : RollAt w g v R) : w.cell? ⟨g, 0, none⟩ = some v := cell_of_row w g 0 _ _ _ h
theorem RollAt.c1 {w : World} {g : Nat} {v : Value} {R : Pk.B} (h : RollAt w g v R) : w.cell? ⟨g, 1, none⟩ = some (.int .i64 (R.length : Int)) := cell_of_row w g 1 _ _ _ h
theorem RollAt.f0 {w : World} {g : Nat} {v : Value} {R : Pk.B} (h : RollAt w g v R) : w.frozen? ⟨g, 0, none⟩ = false := frozen_of_row w g 0 _ _ h
theorem RollAt.f1 {w : World} {g : Nat} {v : Value} {R : Pk.B} (h : RollAt w g v R) : w.frozen? ⟨g, 1, none⟩ = false := frozen_of_row w g 1 _ _ h
/-- the bytes of a roll -/
def RollOwn (w : World) (base : Nat) (v : Value) (R : Pk.B) : Prop := R.length % 512 = 0 ∧ w.ownsRow base 89 512 v (R.length / 512) (Lib.byteCells R)
/-- rows of blocks that there were, of at most so many bytes, are there -/
def Stays (n : Nat) (w w' : World) : Prop := ∀ b u k ys, k * 512 ≤ n → w.ownsRow b 89 512 u k ys → w'.ownsRow b 89 512 u k ys
/-- what becomes of a roll -/
structure Rolls (base g : Nat) (v : Value) (R R' : Pk.B) (w w' : World) (v' : Value) : Prop where
  at_ : RollAt w' g v' R'
  own : RollOwn w' base v' R'
  bx : Bx (fun b => b = g ∨ v.ownBlock = some b) w w'
  blk : v'.ownBlock = v.ownBlock ∨ ∃ k, v'.ownBlock = some k ∧ w.heap.size ≤ k
  stays : Stays R.length w w'
theorem Rolls.refl {base g : Nat} {v : Value} {R : Pk.B} {w : World} (h1 : RollAt w g v R) (h2 : RollOwn w base v R) : Rolls base g v R R w w v := ⟨h1, h2, Bx.refl _ _, .inl rfl, fun _ _ _ _ _ h => h⟩
theorem Rolls.trans {base g : Nat} {v v1 v2 : Value} {R R1 R2 : Pk.B} {w w1 w2 : World} (h : Rolls base g v R R1 w w1 v1) (k : Rolls base g v1 R1 R2 w1 w2 v2) (hl : R.length ≤ R1.length) : Rolls base g v R R2 w w2 v2 := by
  refine ⟨k.at_, k.own, Bx.new h.bx k.bx (fun x hx hT => ?_), ?_, fun b u n ys hn ho => k.stays b u n ys (by omega) (h.stays b u n ys hn ho)⟩
  · rcases hT with e | e
    · exact .inl e
    · rcases h.blk with e1 | ⟨q, e1, e2⟩
      · exact .inr (e1 ▸ e)
      · rw [e1] at e
        cases e
        omega
  · rcases k.blk with e | ⟨q, e1, e2⟩
    · rw [e]; exact h.blk
    · exact .inr ⟨q, e1, Nat.le_trans h.bx.size e2⟩
theorem Rolls.bw {base g : Nat} {v v1 : Value} {R R1 : Pk.B} {w w1 w2 : World} (h : Rolls base g v R R1 w w1 v1) (k : Bw w1 w2) : Rolls base g v R R1 w w2 v1 :=
  ⟨h.at_.keep k, ⟨h.own.1, own_keep h.own.2 k⟩, h.bx.trans (.of_bw k), h.blk, fun b u n ys hn ho => own_keep (h.stays b u n ys hn ho) k⟩
/-- a row that lies apart of a roll -/
def Apart (w : World) (A : Option Addr) (n g : Nat) (v : Value) : Prop := ∀ b o, A = some ⟨b, o, none⟩ → 0 < n → b < w.heap.size ∧ b ≠ g ∧ v.ownBlock ≠ some b
theorem Rolls.row {base g : Nat} {v v1 : Value} {R R1 : Pk.B} {w w1 : World} (h : Rolls base g v R R1 w w1 v1) {A : Option Addr} {n : Nat} {f : Nat → Int} (hr : RowAt w A n f) (ha : Apart w A n g v) : RowAt w1 A n f := by
  refine ⟨?_, hr.2⟩
  rcases hr.1 with h0 | ⟨b, o, rfl, hc⟩
  · exact .inl h0
  · refine .inr ⟨b, o, rfl, fun i hi => ?_⟩
    obtain ⟨h1, h2, h3⟩ := ha b o rfl (by omega)
    rw [World.cell?_of_block (a := ⟨b, o + i, none⟩) (h.bx.block b h1 (fun e => e.elim h2 h3))]
    exact hc i hi
theorem Rolls.apart {base g : Nat} {v v1 : Value} {R R1 : Pk.B} {w w1 : World} (h : Rolls base g v R R1 w w1 v1) {A : Option Addr} {n : Nat} (ha : Apart w A n g v) : Apart w1 A n g v1 := fun b o e hn => by
  obtain ⟨h1, h2, h3⟩ := ha b o e hn
  refine ⟨Nat.lt_of_lt_of_le h1 h.bx.size, h2, ?_⟩
  rcases h.blk with e1 | ⟨k, e1, e2⟩
  · rw [e1]; exact h3
  · rw [e1]; intro e3; cases e3; omega
end Go.Proofs.YtldkhbkgmiicbabGreatDoor
