/- The program's own mustRise and Put, as landed at 7a0984bd. -/
import Derived.Test.YtmbabfelnieagabDoorB7
import Derived.IntWalk
namespace Go.Proofs.YtmbabfelnieagabDoor
open Go.RowKit Go.Deep
set_option linter.unusedVariables false
set_option linter.unusedSimpArgs false

/-- what is asked of a key behind a list -/
def Px.rise (L : List Px.Pr) (k : Px.B) : Nat := if Px.behind (L.getLast?.map (·.1)) k = true then 0 else 92
set_option maxRecDepth 100000 in
set_option maxHeartbeats 200000 in
theorem rise_none (A : Option Addr) (cap : Nat) (a b : ByteArray) (w : World) :
    Calls Tryd.prog 26 #[.slice A 0 cap, .agg #[.string a, .string b]] w fun e w' => e = .returned (.tuple #[]) ∧ Bw w w' := by
  obtain ⟨W, hW⟩ : ∃ W, Hid (w.alloc (.cells #[.string a, .string b] 23) = W) := ⟨_, rfl⟩
  have hw0 : Bw w W := by rw [← hW.out]; exact Below.alloc (Below.refl _ _) (Nat.le_refl _) _
  go_enter Tryd.func26, Tryd.ntmps26
  go_wp2
  rw [hW.out]
  go_quiet ((go_at_call 28; exact Calls.quiet_of_same (must_yes _ rfl _ _)))
  refine bodyPost_end (results_none rfl _ _ _) rfl ?_
  exact ⟨rfl, hw0.trans (Bw.drewN _ _)⟩
set_option maxRecDepth 100000 in
set_option maxHeartbeats 400000 in
theorem rise_yes (g o n cap : Nat) (hn : n ≤ 4611686018427387904) (k a b : ByteArray) (w : World) (hc : w.cell? ⟨g, o + n * 2, none⟩ = some (.string k)) (hls : Op.bytesLess k.toList a.toList = true) :
    Calls Tryd.prog 26 #[.slice (some ⟨g, o, none⟩) (n + 1) cap, .agg #[.string a, .string b]] w fun e w' => e = .returned (.tuple #[]) ∧ Bw w w' := by
  obtain ⟨W, hW⟩ : ∃ W, Hid (w.alloc (.cells #[.string a, .string b] 23) = W) := ⟨_, rfl⟩
  have hw0 : Bw w W := by rw [← hW.out]; exact Below.alloc (Below.refl _ _) (Nat.le_refl _) _
  have hc1 : W.cell? ⟨g, o + n * 2, none⟩ = some (.string k) := (hw0.cell (p := ⟨g, o + n * 2, none⟩) (block_lt_of_cell hc)).trans hc
  have hg : W.heap[w.heap.size]? = some (.cells #[.string a, .string b] 23 (0, 0)) := by rw [← hW.out]; exact World.alloc_heap_new w _
  have hc2 : W.cell? ⟨w.heap.size, 0, none⟩ = some (.string a) := cell_of_row _ _ 0 _ _ _ hg
  have en : ((n : Int) + 1 == 0) = false := beq_eq_false_iff_ne.2 (by omega)
  clear hg hc
  go_enter Tryd.func26, Tryd.ntmps26
  go_wp2
  rw [hW.out]
  go_quiet ((go_at_call 28; exact Calls.quiet_of_same (must_yes _ (by first | rfl | assumption) _ _)))
  refine bodyPost_end (results_none rfl _ _ _) rfl ?_
  exact ⟨rfl, hw0.trans (Bw.drewN _ _)⟩
end Go.Proofs.YtmbabfelnieagabDoor
