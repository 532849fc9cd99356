/- Contract of crc's parts: the array of what each byte comes to. -/
import Derived.Test.YtcnafcoifhdigaaK1
import Derived.Laws.Rows
namespace Go.Proofs.Ytcnafcoifhdigaa
open Go.RowKit

theorem size_alloc (w : World) (o : Obj) : (w.alloc o).heap.size = w.heap.size + 1 := by
  show (w.heap.push o).size = _
  simp

theorem setRow_alloc_new (W : World) (a b : Array Value) (t : TypeId) : (W.alloc (.cells a t)).setRow W.heap.size b = W.alloc (.cells b t) := by
  unfold World.setRow World.alloc
  congr 1
  apply Array.ext_getElem?
  intro k
  simp only [Array.getElem?_modify, Array.getElem?_push]
  by_cases hk : k = W.heap.size
  · subst hk; simp
  · simp [hk, Ne.symm hk]

theorem setRow_alloc_past (w : World) (g : Nat) (b : Array Value) (o : Obj) (h : g < w.heap.size) : (w.alloc o).setRow g b = (w.setRow g b).alloc o := by
  unfold World.setRow World.alloc
  congr 1
  apply Array.ext_getElem?
  intro k
  simp only [Array.getElem?_modify, Array.getElem?_push, Array.size_modify]
  by_cases hk : k = w.heap.size
  · subst hk; simp [Nat.ne_of_lt h]
  · simp [hk]

theorem setRow_low2 (W : World) (a b : Array Value) (t : TypeId) (B : Obj) :
    ((W.alloc (.cells a t)).alloc B).setRow W.heap.size b = (W.alloc (.cells b t)).alloc B := by
  rw [setRow_alloc_past _ _ _ _ (by rw [size_alloc]; omega), setRow_alloc_new]

def zerosP : Array Value := Array.replicate 256 (.int .u32 0)
/-- the array when k bytes are looked at -/
def tabP : Nat → Array Value
  | 0 => zerosP
  | k + 1 => (tabP k).setIfInBounds k (.int .u32 ((Crc.mv k : Nat) : Int))
theorem tabP_size : ∀ k, (tabP k).size = 256
  | 0 => by simp [tabP, zerosP]
  | k + 1 => by simp [tabP, tabP_size k]
theorem zeroP (w : World) : (zeroValue 56).run Try.prog w = .ok (.agg zerosP) w := by kernel_rfl
theorem tabP_all : ∀ k, (tabP k).all (·.oneCell') = true := by
  intro k
  rw [Array.all_eq_true_iff_forall_mem]
  induction k with
  | zero => intro x hx; simp [tabP, zerosP] at hx; subst hx; rfl
  | succ k ih =>
    intro x hx
    unfold tabP at hx
    rcases Array.mem_or_eq_of_mem_setIfInBounds hx with h | h
    · exact ih x h
    · subst h; rfl
theorem tabP_at (j : Nat) (hj : j < 256) : ∀ k, (tabP k)[j]? = some (.int .u32 (if j < k then ((Crc.mv j : Nat) : Int) else 0))
  | 0 => by
    show (Array.replicate 256 (Value.int .u32 0))[j]? = _
    rw [Array.getElem?_replicate, if_pos (by omega), if_neg (by omega)]
  | k + 1 => by
    have hs := tabP_size k
    unfold tabP
    by_cases e : k = j
    · subst e
      rw [Array.getElem?_setIfInBounds_self_of_lt (by omega), if_pos (by omega)]
    · rw [Array.getElem?_setIfInBounds_ne e, tabP_at j hj k]
      by_cases h : j < k
      · rw [if_pos h, if_pos (by omega)]
      · rw [if_neg h, if_neg (by omega)]
theorem tabP_mv (j : Nat) (hj : j < 256) : (tabP 256)[j]? = some (.int .u32 ((Crc.mv j : Nat) : Int)) := by
  rw [tabP_at j hj 256, if_pos hj]

set_option maxRecDepth 100000 in
theorem parts_gen (W : World) (Z : Array Value) (T : Nat → Array Value) (hz : ∀ w, (zeroValue 56).run Try.prog w = .ok (.agg Z) w)
    (h0 : Hid (T 0 = Z)) (hT : Hid (∀ k, T (k + 1) = (T k).setIfInBounds k (.int .u32 ((Crc.mv k : Nat) : Int)))) (hs : Hid (∀ k, (T k).size = 256)) (ha : Hid (∀ k, (T k).all (·.oneCell') = true)) :
    Calls Try.prog 34 #[] W fun e w' => e = .returned (.agg (T 256)) ∧ w' = (W.alloc (.cells (T 256) 56)).alloc (.cells (T 256) 56) := by
  have hZ : Z.size = (T 256).size := by rw [hs.out, ← h0.out, hs.out]
  have hi : (Try.prog.info? 56).map (·.size) = some (T 256).size := by rw [hs.out]; kernel_rfl
  go_enter Try.func34, Try.ntmps34
  go_wp2
  go_loopw [3] (fun i wr => ∃ k : Nat, k ≤ 256 ∧ i = .int .u32 k ∧ wr = (W.alloc (.cells Z 56)).alloc (.cells (T k) 56)) (fun i _ => 256 - (intOf i).toNat)
  case atStart => exact ⟨0, Nat.zero_le _, rfl, by rw [h0.out]⟩
  case round =>
    obtain ⟨k, hk, rfl, rfl⟩ := hrel
    by_cases hlt : k < 256
    · obtain ⟨v1, hv1⟩ : ∃ v, (T k)[k]? = some v := ⟨_, Array.getElem?_eq_getElem (by rw [hs.out]; omega)⟩
      go_wp2_with (go_at_call 35; refine (moved_any _ (by omega) _).mono ?_; rintro e w' ⟨rfl, rfl⟩)
      go_roundw
      case rel => exact ⟨k + 1, by omega, by go_num, by rw [hT.out]⟩
      case measure => simp [intOf]; omega
    · have e8 : k = 256 := by omega
      subst e8
      clear hlt hk
      go_wp2_with (first | refine wpList_load_row rfl 56 _ rfl (W.heap.size + 1) rfl 56 (T 256) (0, 0) _ (heap_alloc2_new _ _ _) Try.underlying56 rfl hi ?_ | refine wpList_store_row rfl 56 _ _ rfl W.heap.size (T 256) rfl rfl 56 Z (heap_alloc2_old _ _ _) hi hZ (ha.out 256) ?_)
      rw [setRow_low2]
      exact bodyPost_ret (results_cell_row Try.results34 _ _ W.heap.size 56 (T 256) (0, 0) _ rfl (heap_alloc2_old _ _ _) Try.underlying56 rfl hi) rfl ⟨rfl, rfl⟩

theorem parts_any (W : World) :
    Calls Try.prog 34 #[] W fun e w' => e = .returned (.agg (tabP 256)) ∧ w' = (W.alloc (.cells (tabP 256) 56)).alloc (.cells (tabP 256) 56) :=
  parts_gen W zerosP tabP zeroP rfl (fun _ => rfl) tabP_size tabP_all

end Go.Proofs.Ytcnafcoifhdigaa
