/- The program's own table of the numbers k: what the card's condition tells of it; rows of words in memory. -/
import Derived.Test.YtcpapaceggnaoaaDoorD5
import Derived.LaidMore
import Derived.Lib.LaidTab
import Derived.Stop.Joined
import Derived.Deep.MidRow
namespace Go.Proofs.YtcpapaceggnaoaaDoor
open Go.RowKit Go.Deep

/-- the numbers k stand in the program's own table -/
def KAt (w : World) : Prop := ∀ t, t < 64 → w.cell? ⟨0, t, none⟩ = some (.int .u32 ((Sha.kn t : Nat) : Int))
theorem KAt.keep {w w' : World} (h : KAt w) (k : Bw w w') : KAt w' := fun t ht => (k.cell (p := ⟨0, t, none⟩) (block_lt_of_cell (h t ht))).trans (h t ht)
theorem KAt.lt {w : World} (h : KAt w) : 0 < w.heap.size := block_lt_of_cell (h 0 (by decide))
theorem KAt.keepx {S : Nat → Prop} {w w' : World} (h : KAt w) (k : Bx S w w') (h0 : ¬ S 0) : KAt w' := fun t ht => by
  rw [World.cell?_of_block (w := w) (k.block 0 h.lt h0)]; exact h t ht
theorem gK : Tryd.prog.globalNamed "tabulary/digest.k" = some 0 := by kernel_rfl
theorem gKType : (Tryd.prog.globals[0]?).map (·.type) = some 50 := by kernel_rfl
def laidK : List (String × DataW Unit) := [("tabulary/digest.k", Rows.laid_tabulary_digest_k)]
theorem kat_of_laid {W : World} (h : laidMetH Tryd.prog laidK W) : KAt W := by
  rw [MakeChecks.laidMetH_plain _ _ _ (by kernel_rfl)] at h
  have hT := Lib.tabIs_of_head (k := .u32) (zs := Sha.ks.map (fun k : Nat => (k : Int))) gK gKType Tryd.underlying50 Tryd.underlying42 (by kernel_rfl) (by kernel_rfl) h
  intro t ht
  rw [hT.cell gK t (by show t < 64; exact ht)]
  unfold Sha.kn
  rw [List.getD_eq_getElem?_getD, List.getD_eq_getElem?_getD, List.getElem?_map, List.getElem?_eq_getElem (by show t < 64; exact ht)]; rfl
theorem door_met (os : Os) (args : Array Value) : laidMetH Tryd.prog laidK ((World.doorLaid Tryd.prog 400 os).forCall (fun _ _ => 0) ⟨#[], args, []⟩).memory :=
  laidMetH_of_parts3 (fuel := 8) (laidMet_of_run' 8 (by kernel_rfl) (by kernel_rfl)) (by kernel_rfl) (by kernel_rfl)

/-- a whole row's load in a drawn region: it may be taken first under an S that gives the row -/
theorem yieldsIf_load_row {P : Program} {ops : Array Oper} {S : World → Prop} {op : Oper} {a : Act} (hw : Region.wanted op (yielded ops a.tmps) = true) (ty : TypeId) (x : Operand) (ho : op.op = .load ty x)
    (g : Nat) (hx : a.eval x = .pointer (some ⟨g, 0, none⟩)) (t : TypeId) (cs : Array Value) (fr : Nat × Nat) (d : TypeDesc) (hS : ∀ w, S w → w.heap[g]? = some (.cells cs t fr))
    (hu : P.underlying ty = some d) (hd : (match d with | .struct _ | .array _ _ => true | _ => false) = true) (hi : (P.info? ty).map (·.size) = some cs.size) : YieldsIf P ops S op (.agg cs) a :=
  .inl ⟨hw, fun w hw' => by
    unfold execOp
    simp only [ho, hx, Instr.loadAt, Instr.sureAddr, Sem.run_bind, Sem.run_pure, Result.andThen_ok, run_loadVar_row w g t ty cs fr d (hS w hw') hu hd hi]⟩

/-- n words as an array's cells -/
def cw (n : Nat) (m : Nat → Nat) : Array Value := ((List.range n).map fun i => Value.int .u32 ((m i : Nat) : Int)).toArray
theorem cw_size (n : Nat) (m : Nat → Nat) : (cw n m).size = n := by simp [cw]
theorem cw_at {n : Nat} (m : Nat → Nat) {i : Nat} (h : i < n) : (cw n m)[i]? = some (.int .u32 ((m i : Nat) : Int)) := by
  unfold cw; rw [List.getElem?_toArray, List.getElem?_map, List.getElem?_range h]; rfl
theorem cw_all (n : Nat) (m : Nat → Nat) : (cw n m).all (·.oneCell') = true := by
  rw [Array.all_eq_true_iff_forall_mem]
  intro x hx
  unfold cw at hx
  simp only [List.mem_toArray, List.mem_map] at hx
  obtain ⟨i, _, rfl⟩ := hx; rfl
theorem cw_congr {n : Nat} {m m' : Nat → Nat} (h : ∀ i, i < n → m i = m' i) : cw n m = cw n m' := by
  unfold cw; rw [List.map_congr_left (fun i hi => by rw [h i (List.mem_range.1 hi)])]
theorem cw_of {n : Nat} {m : Nat → Nat} {T : Array Value} (hs : T.size = n) (h : ∀ i, i < n → T[i]? = some (.int .u32 ((m i : Nat) : Int))) : T = cw n m := by
  apply Array.ext_getElem?
  intro i
  by_cases hi : i < n
  · rw [h i hi, cw_at m hi]
  · rw [Array.getElem?_eq_none (by omega), Array.getElem?_eq_none (by rw [cw_size]; omega)]
theorem cw_eight (m : Nat → Nat) : cw 8 m = cells8 m := rfl
theorem cw_zero64 : zeros64 = cw 64 (fun _ => 0) := by kernel_rfl
theorem cw_info16 (m : Nat → Nat) : (Tryd.prog.info? 56).map (·.size) = some (cw 16 m).size := by rw [cw_size]; kernel_rfl
theorem cw_info64 (m : Nat → Nat) : (Tryd.prog.info? 50).map (·.size) = some (cw 64 m).size := by rw [cw_size]; kernel_rfl
theorem zero16 (w : World) : (zeroValue 56).run Tryd.prog w = .ok (.agg (cw 16 (fun _ => 0))) w := by kernel_rfl
theorem zero64' (w : World) : (zeroValue 50).run Tryd.prog w = .ok (.agg (cw 64 (fun _ => 0))) w := by kernel_rfl

/-- n words in a block -/
def WAt (w : World) (g : Nat) (ty : TypeId) (n : Nat) (m : Nat → Nat) : Prop := w.heap[g]? = some (.cells (cw n m) ty (0, 0))
theorem WAt.keep {w w' : World} {g n : Nat} {ty : TypeId} {m : Nat → Nat} (h : WAt w g ty n m) (k : Bw w w') : WAt w' g ty n m :=
  (k.block g (Array.getElem?_eq_some_iff.1 h).1).trans h
theorem WAt.keepx {S : Nat → Prop} {w w' : World} {g n : Nat} {ty : TypeId} {m : Nat → Nat} (h : WAt w g ty n m) (k : Bx S w w') (hg : ¬ S g) : WAt w' g ty n m :=
  (k.block g (Array.getElem?_eq_some_iff.1 h).1 hg).trans h
theorem WAt.lt {w : World} {g n : Nat} {ty : TypeId} {m : Nat → Nat} (h : WAt w g ty n m) : g < w.heap.size := (Array.getElem?_eq_some_iff.1 h).1
theorem WAt.cell {w : World} {g n : Nat} {ty : TypeId} {m : Nat → Nat} (h : WAt w g ty n m) {i : Nat} (hi : i < n) : w.cell? ⟨g, i, none⟩ = some (.int .u32 ((m i : Nat) : Int)) ∧ w.frozen? ⟨g, i, none⟩ = false :=
  ⟨(cell_of_row w g i _ _ _ h).trans (cw_at m hi), frozen_of_row w g i _ _ h⟩
theorem WAt.congr {w : World} {g n : Nat} {ty : TypeId} {m m' : Nat → Nat} (h : WAt w g ty n m) (e : ∀ i, i < n → m' i = m i) : WAt w g ty n m' := by
  unfold WAt; rw [cw_congr e]; exact h
theorem WAt.set {w : World} {g n k : Nat} {ty : TypeId} {m m' : Nat → Nat} (h : WAt w g ty n m) (hk : k < n) {z : Int} (e : z = ((m' k : Nat) : Int)) (ho : ∀ i, i < n → i ≠ k → m' i = m i) : WAt (w.setCell ⟨g, k, none⟩ (.int .u32 z)) g ty n m' := by
  have h1 := heap_setCell_same w g k (cw n m) _ (.int .u32 z) h
  have h2 : (cw n m).setIfInBounds k (.int .u32 z) = cw n m' := by
    apply cw_of
    · simp [cw_size]
    · intro i hi
      by_cases e' : i = k
      · subst e'; rw [Array.getElem?_setIfInBounds_self_of_lt (by rw [cw_size]; omega), e]
      · rw [Array.getElem?_setIfInBounds_ne (Ne.symm e'), cw_at m hi, ho i hi e']
  rw [h2] at h1
  exact h1
theorem WAt.other {w : World} {g n : Nat} {ty : TypeId} {m : Nat → Nat} (h : WAt w g ty n m) {a : Addr} {v : Value} (hne : g ≠ a.block) : WAt (w.setCell a v) g ty n m :=
  (heap_setCell_other w a g v hne).trans h
end Go.Proofs.YtcpapaceggnaoaaDoor
