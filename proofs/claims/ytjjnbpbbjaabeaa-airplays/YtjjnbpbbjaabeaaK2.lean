/- Contract of crc's parts: the array of what each byte comes to. -/
import Derived.Test.YtjjnbpbbjaabeaaK1
import Derived.Laws.Rows
namespace Go.Proofs.Ytjjnbpbbjaabeaa
open Go.RowKit

theorem size_alloc (w : World) (o : Obj) : (w.alloc o).heap.size = w.heap.size + 1 := by
  show (w.heap.push o).size = _
  simp

theorem setRow_alloc_new (W : World) (a b : Array Value) (t : TypeId) : (W.alloc (.cells a t)).setRow W.heap.size b = W.alloc (.cells b t) := by
  unfold World.setRow World.alloc
  congr 1
  apply Array.ext_getElem?
  intro k
  simp only [Array.getElem?_modify, Array.getElem?_push]
  by_cases hk : k = W.heap.size
  · subst hk; simp
  · simp [hk, Ne.symm hk]

theorem setRow_alloc_past (w : World) (g : Nat) (b : Array Value) (o : Obj) (h : g < w.heap.size) : (w.alloc o).setRow g b = (w.setRow g b).alloc o := by
  unfold World.setRow World.alloc
  congr 1
  apply Array.ext_getElem?
  intro k
  simp only [Array.getElem?_modify, Array.getElem?_push, Array.size_modify]
  by_cases hk : k = w.heap.size
  · subst hk; simp [Nat.ne_of_lt h]
  · simp [hk]

theorem setRow_low2 (W : World) (a b : Array Value) (t : TypeId) (B : Obj) :
    ((W.alloc (.cells a t)).alloc B).setRow W.heap.size b = (W.alloc (.cells b t)).alloc B := by
  rw [setRow_alloc_past _ _ _ _ (by rw [size_alloc]; omega), setRow_alloc_new]

def zerosP : Array Value := Array.replicate 256 (.int .u32 0)
/-- the array when k bytes are looked at -/
def tabP : Nat → Array Value
  | 0 => zerosP
  | k + 1 => (tabP k).setIfInBounds k (.int .u32 ((Crc.mv k : Nat) : Int))
theorem tabP_size : ∀ k, (tabP k).size = 256
  | 0 => by simp [tabP, zerosP]
  | k + 1 => by simp [tabP, tabP_size k]
theorem tabP_all : ∀ k, (tabP k).all (·.oneCell') = true := by
  intro k
  rw [Array.all_eq_true_iff_forall_mem]
  induction k with
  | zero => intro x hx; simp [tabP, zerosP] at hx; subst hx; rfl
  | succ k ih =>
    intro x hx
    unfold tabP at hx
    rcases Array.mem_or_eq_of_mem_setIfInBounds hx with h | h
    · exact ih x h
    · subst h; rfl
theorem tabP_at (j : Nat) (hj : j < 256) : ∀ k, (tabP k)[j]? = some (.int .u32 (if j < k then ((Crc.mv j : Nat) : Int) else 0))
  | 0 => by
    show (Array.replicate 256 (Value.int .u32 0))[j]? = _
    rw [Array.getElem?_replicate, if_pos (by omega), if_neg (by omega)]
  | k + 1 => by
    have hs := tabP_size k
    unfold tabP
    by_cases e : k = j
    · subst e
      rw [Array.getElem?_setIfInBounds_self_of_lt (by omega), if_pos (by omega)]
    · rw [Array.getElem?_setIfInBounds_ne e, tabP_at j hj k]
      by_cases h : j < k
      · rw [if_pos h, if_pos (by omega)]
      · rw [if_neg h, if_neg (by omega)]
theorem tabP_mv (j : Nat) (hj : j < 256) : (tabP 256)[j]? = some (.int .u32 ((Crc.mv j : Nat) : Int)) := by
  rw [tabP_at j hj 256, if_pos hj]

end Go.Proofs.Ytjjnbpbbjaabeaa
