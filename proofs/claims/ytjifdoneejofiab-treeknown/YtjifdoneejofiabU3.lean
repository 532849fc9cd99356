/- The document's own has, Find and Same, of layer 11. -/
import Derived.Test.YtjifdoneejofiabU2
namespace Go.Proofs.Ytjifdoneejofiab
open Go.RowKit Go.Deep
set_option linter.unusedVariables false
set_option linter.unusedSimpArgs false

namespace Tr
/-- an item's value -/
def Iv.arr (y : Iv) : Array Value := #[.string (Nm.S y.it.path), .int .u8 (y.it.kind : Int), .int .i64 y.it.mode, .int .i64 y.it.time, .slice y.ad y.it.body.length y.cp, .string (Nm.S y.it.to)]
theorem arr_vals (y : Iv) : y.arr = y.vals.toArray := rfl
theorem arr_one (y : Iv) : y.arr.all (·.oneCell') = true := by
  rw [Array.all_eq_true_iff_forall_mem]
  intro x hx
  rw [arr_vals, List.mem_toArray] at hx
  exact vals_one y x hx
theorem str_S (l : B) : str (rowF l) l.length = Nm.S l := by
  have e : (str (rowF l) l.length).toList = l := by
    rw [ByteArray.toList_eq]
    show (strOfNums _).data.toList = _
    rw [strOfNums_data, List.map_map]
    apply List.ext_getElem
    · simp
    · intro i h1 h2
      simp only [List.getElem_map, List.getElem_range, Function.comp]
      rw [rowF_at (List.getElem?_eq_getElem h2)]
      simp
  rw [← Nm.S_toList (str _ _), e]
theorem S_eql (a b : B) : ((Nm.S a).toList == (Nm.S b).toList) = decide (a = b) := by
  rw [Nm.toList_S, Nm.toList_S]
  by_cases h : a = b
  · subst h; simp
  · rw [decide_eq_false h, beq_eq_false_iff_ne]; exact h
end Tr
theorem info_it (y : Tr.Iv) : (Try.prog.info? 26).map (·.size) = some y.arr.size := by
  have := info_item
  rcases h : Try.prog.info? 26 with _ | i
  · rw [h] at this; cases this
  · rw [h] at this
    simp only [Option.map_some, Option.some.injEq, Prod.mk.injEq] at this ⊢
    exact this.2.1
theorem run_loadIt {w : World} {b o : Nat} {y : Tr.Iv} (h : ItAt w b o y) : (loadVar 26 ⟨b, o, none⟩).run Try.prog w = .ok (.agg y.arr) w := by
  have hl : (loadCells ⟨b, o, none⟩ y.vals.length).run Try.prog w = .ok y.vals.toArray w :=
    run_loadCells_list (P := Try.prog) w ⟨b, o, none⟩ y.vals (fun j v hv => by rw [Addr.add_lit]; exact h.vals j v hv)
  have hu := Try.underlying26
  have hi := info_it y
  rcases hq : Try.prog.info? 26 with _ | i
  · rw [hq] at hi; cases hi
  · rw [hq] at hi
    have hs : i.size = y.vals.length := Option.some.inj hi
    have hagg : (isAgg 26).run Try.prog w = .ok true w := by
      unfold isAgg
      rw [Sem.run_bind, run_underlying hu w]
      rfl
    simp [loadVar, Sem.run_bind, hagg, sizeOf, typeInfo, hq, hs, hl, Tr.arr_vals]
theorem wpList_load_it {ops : Array Oper} {rest : List Oper} {o : Oper} {a : Act} {w : World} {Q : Exit → Act → World → Prop} (hgd : Region.wanted o (yielded ops a.tmps) = true) (x : Operand) (ho : o.op = .load 26 x)
    (b f : Nat) (hx : a.eval x = .pointer (some ⟨b, f, none⟩)) (y : Tr.Iv) (hy : ItAt w b f y)
    (h : wpList Try.prog ops Q rest (a.put o.dst (.agg y.arr)) w) : wpList Try.prog ops Q (o :: rest) a w :=
  wpList_step fun _ hK => by
    rw [if_pos hgd]
    unfold Oper.wp execOp
    simp only [ho, hx, Instr.loadAt, Instr.sureAddr, Sem.run_bind, Sem.run_pure, Result.andThen_ok, run_loadIt hy]
    exact hK _ _ h
/-- an item alone in a block -/
def BoxAt (w : World) (g : Nat) (y : Tr.Iv) : Prop := w.heap[g]? = some (.cells y.arr 26 (0, 0))
theorem BoxAt.keep {w w' : World} {g : Nat} {y : Tr.Iv} (a : BoxAt w g y) (b : Bw w w') : BoxAt w' g y := (b.block g (Array.getElem?_eq_some_iff.1 a).1).trans a
theorem BoxAt.new (w : World) (y : Tr.Iv) : BoxAt (w.alloc (.cells y.arr 26)) w.heap.size y := heap_alloc_new _ _
theorem BoxAt.it {w : World} {g : Nat} {y : Tr.Iv} (a : BoxAt w g y) : ItAt w g 0 y :=
  ItAt.of fun k v hv => by rw [Nat.zero_add, cell_of_row w g k _ _ _ a, Tr.arr_vals]; simpa using hv
theorem BoxAt.cells {w : World} {g : Nat} {y : Tr.Iv} (a : BoxAt w g y) : w.cell? ⟨g, 0, none⟩ = some (.string (Nm.S y.it.path)) ∧ w.cell? ⟨g, 1, none⟩ = some (.int .u8 (y.it.kind : Int)) ∧ w.cell? ⟨g, 2, none⟩ = some (.int .i64 y.it.mode) ∧ w.cell? ⟨g, 3, none⟩ = some (.int .i64 y.it.time) ∧ w.cell? ⟨g, 4, none⟩ = some (.slice y.ad y.it.body.length y.cp) ∧ w.cell? ⟨g, 5, none⟩ = some (.string (Nm.S y.it.to)) :=
  ⟨a.it.c0, by simpa using a.it.c1, by simpa using a.it.c2, by simpa using a.it.c3, by simpa using a.it.c4, by simpa using a.it.c5⟩
theorem put_none11 (a : Act) (v : Value) : a.put none v = a := rfl
theorem bw_alloc11 {w w' : World} (h : Bw w w') (o : Obj) : Bw w (w'.alloc o) := Below.alloc h h.size o
theorem conv_body {w : World} {y : Tr.Iv} (h : BodyAt w y) : (convert 24 9 (.slice y.ad y.it.body.length y.cp)).run Try.prog w = .ok (.string (Nm.S y.it.body)) w := by
  rw [← Tr.str_S]; exact conv_row h.row

end Go.Proofs.Ytjifdoneejofiab
