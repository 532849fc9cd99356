/- What the document's own One makes. -/
import Derived.Test.YtpgjkhlffcomgabM7
import Derived.Deep.OwnRows
namespace Go.Proofs.Ytpgjkhlffcomgab
open Go.RowKit Go.Deep

theorem made_bytes (n : Nat) (h : n ≤ 140737488355328) : ∃ M : Array Value, M.size = n ∧ (∀ i, i < n → M[i]? = some (.int .u8 0)) ∧
    ∀ w, (Instr.makeSlice 22 (.int .i64 (n : Int)) (.int .i64 (n : Int))).run Try.prog w = .ok (.slice (some ⟨w.heap.size, 0, none⟩) n n) (w.alloc (.cells M 5)) := by
  refine ⟨madeCells #[.int .u8 0] n, ?_, ?_, fun w => run_make_row' 22 5 (.int .u8 0) 1 Try.underlying22 info_u8 rfl .i64 .i64 n (by omega) (by omega) w⟩
  · simp [madeCells]
  · intro i hi
    simp [madeCells, hi, Nat.mod_one]

/-- a row that has just been laid -/
theorem row_new (W : World) (cs : Array Value) (t : TypeId) (n : Nat) (f : Nat → Int) (hf : ∀ i, 0 ≤ f i ∧ f i < 256) (h : ∀ i, i < n → cs[i]? = some (.int .u8 (f i))) : RowAt (W.alloc (.cells cs t)) (some ⟨W.heap.size, 0, none⟩) n f :=
  ⟨Or.inr ⟨W.heap.size, 0, rfl, fun i hi => by rw [Nat.zero_add, World.cell?_alloc_at cs t _ i rfl]; exact h i hi⟩, hf⟩

def oneZ (i j : Nat) : Int := if i = j then 1 else 0
theorem oneZ_bd (i j : Nat) : 0 ≤ oneZ i j ∧ oneZ i j < 256 := by unfold oneZ; split <;> decide

end Go.Proofs.Ytpgjkhlffcomgab
