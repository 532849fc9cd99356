/- The program's own taken, Sum, Seal, Blank and Full, as landed at e169a841. -/
import Derived.Test.YtkoacehgfmflmabJ3
import Derived.Laws.ResultCell
import Derived.Stop.BytesEq
namespace Go.Proofs.Ytkoacehgfmflmab
open Go.RowKit Go.Deep
set_option linter.unusedVariables false
set_option linter.unusedSimpArgs false

theorem results_row_tmp10 {P : Program} {fn : Func} {p u : Tmp} {ty : TypeId} (h : fn.results = #[.cell p ty, .tmp u]) (tmps : Array Value) (w : World) (g : Nat) (t : TypeId) (cs : Array Value) (fr : Nat × Nat) (d : TypeDesc)
    (hp : tmps.getD p undef = .pointer (some ⟨g, 0, none⟩)) (hg : w.heap[g]? = some (.cells cs t fr))
    (hu : P.underlying ty = some d) (hd : (match d with | .struct _ | .array _ _ => true | _ => false) = true) (hi : (P.info? ty).map (·.size) = some cs.size) :
    (results fn tmps).run P w = .ok (.tuple #[.agg cs, tmps.getD u undef]) w := by
  rw [results_cell_tmp h, hp]
  simp [asAddr, run_loadVar_row w g t ty cs fr d hg hu hd hi, Result.andThen]
theorem wpList_built10 {P : Program} {ops : Array Oper} {rest : List Oper} {o : Oper} {a : Act} {w : World} {Q : Exit → Act → World → Prop} (hg : o.guard = none) (t : TypeId) (parts : Array (Nat × Operand)) (ho : o.op = .build t parts)
    (cells : Array Value) (hb : P.built t (parts.map fun (i, x) => (i, a.eval x)).toList = some cells)
    (h : wpList P ops Q rest (a.put o.dst (.agg cells)) w) : wpList P ops Q (o :: rest) a w :=
  wpList_build hg t parts ho (by rw [hb]; rfl) (by rw [hb]; exact h)
theorem built_raw : Try.prog.built 42 [] = some (Hd.arr Hd.zeros) := by kernel_rfl
theorem guard_raw : Try.prog.eqGuardType Try.prog.depth 42 = false := by kernel_rfl
theorem size_u8x (w : World) : (sizeOf 5).run Try.prog w = .ok 1 w := by
  obtain ⟨i0, hi0, _, hz1, _⟩ := info_parts info_u8
  simp [sizeOf, typeInfo, hi0, hz1]
theorem equal_raw {a b : Hd.B} (ha : a.length = 512) (hb : b.length = 512) (w : World) : (Op.equalIn 10000 42 (.agg (Hd.arr a)) (.agg (Hd.arr b))).run Try.prog w = .ok (a == b) w :=
  run_equalIn_bytes w 9998 42 5 512 Try.underlying42 Try.underlying5 size_u8x a b ha hb

theorem zeros_len : Hd.zeros.length = 512 := by unfold Hd.zeros; exact List.length_replicate
set_option maxRecDepth 100000 in
theorem htaken_no (A : Option Addr) (n ca : Nat) (hn : n ≠ 512) (w : World) : Calls Try.prog 16 #[.slice A n ca] w fun e w' => e = .returned (.tuple #[.agg (Hd.arr Hd.zeros), .bool false]) ∧ Bw w w' := by
  have hz := zero_raw
  have hbt := built_raw
  obtain ⟨Z, hZ⟩ : ∃ Z, Hid (Z = Hd.arr Hd.zeros) := ⟨_, rfl⟩
  have hi := info_raw zeros_len
  have ho := Hd.arr_one Hd.zeros
  have HO : Hid ((Hd.arr Hd.zeros).all (·.oneCell') = true) := ho
  rw [← hZ.out] at hz hbt hi HO ⊢
  clear ho
  have e1 : ((n : Int) != 512) = true := by rw [bne_iff_ne]; omega
  obtain ⟨W, hW⟩ : ∃ W, W = (w.alloc (.cells Z 42)).alloc (.cells Z 42) := ⟨_, rfl⟩
  have hB : W.heap[w.heap.size]? = some (.cells Z 42 (0, 0)) := by rw [hW]; exact heap_alloc2_old _ _ _
  have hbw : Bw w W := by rw [hW]; exact bw_alloc2 _ _ _
  go_enter Try.func16, Try.ntmps16
  go_wp2_with (first
    | refine wpList_built10 rfl 42 _ rfl Z hbt ?_
    | (rw [← hW]; clear hW; refine wpList_store_row rfl 42 _ _ rfl w.heap.size Z rfl rfl 42 Z hB hi rfl HO.out ?_))
  exact bodyPost_ret (results_row_tmp10 (p := 2) (u := 3) (by rfl) _ _ w.heap.size 42 Z (0, 0) _ rfl (setRow_heap _ w.heap.size _ _ _ _ hB) Try.underlying42 rfl hi) rfl ⟨rfl, bw_of_bx hbw (bx_set _ w.heap.size _ rfl) (fun k e => by omega)⟩
set_option maxRecDepth 100000 in
theorem htaken_yes (A : Option Addr) (ca : Nat) (l : Hd.B) (hl : l.length = 512) (w : World) (hr : RowAt w A 512 (Hd.rowF l)) : Calls Try.prog 16 #[.slice A 512 ca] w fun e w' => e = .returned (.tuple #[.agg (Hd.arr l), .bool true]) ∧ Bw w w' := by
  have hz := zero_raw
  obtain ⟨W, hW⟩ : ∃ W, W = (w.alloc (.cells (Hd.arr Hd.zeros) 42)).alloc (.cells (Hd.arr Hd.zeros) 42) := ⟨_, rfl⟩
  have hB : W.heap[w.heap.size]? = some (.cells (Hd.arr Hd.zeros) 42 (0, 0)) := by rw [hW]; exact heap_alloc2_old _ _ _
  have hA : ArrAt W (w.heap.size + 1) Hd.zeros := by rw [hW]; exact heap_alloc2_new _ _ _
  have hbw : Bw w W := by rw [hW]; exact bw_alloc2 _ _ _
  have hr1 := hr.keep hbw
  have hi := info_raw hl
  have hzs : (Hd.arr Hd.zeros).size = (Hd.arr l).size := by rw [Hd.arr_size, Hd.arr_size, hl]; rfl
  have HS : Hid ((Hd.arr Hd.zeros).size = (Hd.arr l).size) := hzs
  obtain ⟨Z, hZ⟩ : ∃ Z, Hid (Z = Hd.arr Hd.zeros) := ⟨_, rfl⟩
  rw [← hZ.out] at hz hW hB HS
  have HL : Hid (Hd.ovl Hd.zeros 0 l = l) := by
    show _ = _
    unfold Hd.ovl
    rw [List.take_zero, List.nil_append, List.drop_eq_nil_of_le (by rw [zeros_len]; omega), List.append_nil]
  have hlen : Hid (l.length = 512) := hl
  clear hzs hr hl
  go_enter Try.func16, Try.ntmps16
  go_wp2_with (first
    | (rw [← hW]; clear hW; refine wpList_copy_arr (by rfl) _ _ (by rfl) (w.heap.size + 1) 0 512 512 512 ca Hd.zeros l A (by rfl) (by rfl) hA hlen.out (by rw [zeros_len]; omega) (Nat.le_refl _) (by omega) hr1 ?_; rw [HL.out]; intro w2 ha2 hx2; have hB2 := (hx2.block _ (Array.getElem?_eq_some_iff.1 hB).1 (by omega)).trans hB)
    | refine wpList_load_row rfl 42 _ rfl (w.heap.size + 1) rfl 42 (Hd.arr l) (0, 0) _ ha2 Try.underlying42 rfl hi ?_
    | refine wpList_store_row rfl 42 _ _ rfl w.heap.size (Hd.arr l) rfl rfl 42 Z hB2 hi HS.out (Hd.arr_one _) ?_)
  exact bodyPost_ret (results_row_tmp10 (p := 2) (u := 3) (by rfl) _ _ w.heap.size 42 (Hd.arr l) (0, 0) _ rfl (setRow_heap _ w.heap.size _ _ _ _ hB2) Try.underlying42 rfl hi) rfl ⟨rfl, bw_of_bx (bw_of_bx hbw hx2 (fun k e => by omega)) (bx_set _ w.heap.size _ rfl) (fun k e => by omega)⟩
end Go.Proofs.Ytkoacehgfmflmab
