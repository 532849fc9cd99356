/- Contracts of the document's own turned, numbers and words, of layer 5. -/
import Derived.Test.YtcpapaceggnaoaaDoorK4
import Derived.Test.YtcpapaceggnaoaaDoorDm
import Derived.BigRegion
namespace Go.Proofs.YtcpapaceggnaoaaDoor
open Go.RowKit Go.Deep

theorem rot_or (x n : Nat) (hx : x < 4294967296) : bits .or .u32 ((x / 2 ^ n : Nat) : Int) ((x * 2 ^ (32 - n) % 4294967296 : Nat) : Int) = ((Sha.rot n x : Nat) : Int) :=
  u32_or_nat _ _ (Nat.lt_of_le_of_lt (Nat.div_le_self _ _) hx) (Nat.mod_lt _ (by decide))

theorem turned_any (x n : Nat) (hx : x < 4294967296) (h1 : 1 ≤ n) (h2 : n < 32) (w : World) :
    Calls Tryd.prog 25 #[.int .u32 (x : Int), .int .i64 (n : Int)] w fun e w' => ∃ q, e = .returned (.int .u32 (Sha.rot n x : Nat)) ∧ w' = w.drewN q := by
  have n0 : (0 : Int) ≤ (n : Int) := Int.natCast_nonneg _
  have n1 : (n : Int) < 32 := by omega
  have m0 : (0 : Int) ≤ 32 - (n : Int) := by omega
  go_enter Tryd.func25, Tryd.ntmps25
  go_wp2
  go_quiet (fail)
  go_wp2
  go_ret
  refine ⟨nq, ret_int ?_, rfl⟩
  have e := rot_or x n hx
  rw [Int.natCast_ediv, Int.natCast_emod, Int.natCast_mul, Int.natCast_pow, Int.natCast_pow] at e
  exact e

def kcells : Array Value := (Sha.ks.map (fun k : Nat => Value.int .u32 (k : Int))).toArray
theorem kcells_size : kcells.size = 64 := by kernel_rfl
theorem kcells_at (t : Nat) (h : t < 64) : kcells[t]? = some (.int .u32 ((Sha.kn t : Nat) : Int)) := by
  unfold kcells Sha.kn
  rw [List.getElem?_toArray, List.getElem?_map, List.getD_eq_getElem?_getD, List.getElem?_eq_getElem (by show t < 64; exact h)]; rfl
theorem kcells_all : kcells.all (·.oneCell') = true := by kernel_rfl
def zeros64 : Array Value := Array.replicate 64 (.int .u32 0)
theorem zero64 (w : World) : (zeroValue 50).run Tryd.prog w = .ok (.agg zeros64) w := by kernel_rfl

theorem wpList_built {P : Program} {ops : Array Oper} {rest : List Oper} {o : Oper} {a : Act} {w : World} {Q : Exit → Act → World → Prop} (hg : o.guard = none) (t : TypeId) (parts : Array (Nat × Operand)) (ho : o.op = .build t parts)
    (cells : Array Value) (hb : P.built t (parts.map fun (i, x) => (i, a.eval x)).toList = some cells)
    (h : wpList P ops Q rest (a.put o.dst (.agg cells)) w) : wpList P ops Q (o :: rest) a w :=
  wpList_build hg t parts ho (by rw [hb]; rfl) (by rw [hb]; exact h)

set_option maxRecDepth 100000 in
set_option maxHeartbeats 1000000 in
theorem numbers_any (W : World) :
    Calls Tryd.prog 24 #[] W fun e w' => e = .returned (.agg kcells) ∧ w' = W.alloc (.cells kcells 50) := by
  have hi : (Tryd.prog.info? 50).map (·.size) = some kcells.size := by rw [kcells_size]; kernel_rfl
  have hz := zero64
  go_enter Tryd.func24, Tryd.ntmps24
  go_wp2_with (first
    | refine wpList_built rfl 50 _ rfl kcells (by kernel_rfl) ?_
    | refine wpList_store_row rfl 50 _ _ rfl W.heap.size kcells rfl rfl 50 zeros64 (heap_alloc_new _ _) hi (by rw [kcells_size]; rfl) kcells_all ?_)
  rw [setRow_alloc_new]
  exact bodyPost_ret (results_cell_row Tryd.results24 _ _ W.heap.size 50 kcells (0, 0) _ rfl (heap_alloc_new _ _) Tryd.underlying50 rfl hi) rfl ⟨rfl, rfl⟩
end Go.Proofs.YtcpapaceggnaoaaDoor
