/- Contracts of makeTables and of the closure in it. -/
import Derived.Test.YtpgjkhlffcomgaaW1
import Derived.Laws.Rows
namespace Go.Proofs.Ytpgjkhlffcomgaa
open Go.RowKit

theorem put_any (n x : Int) (W : World) (r cs : Array Value) (hs : cs.size = 511) (n0 : 0 ≤ n) (n1 : n < 255) (x0 : 0 ≤ x) (x1 : x < 256) :
    Calls Try.prog 53 #[.int .i64 n, .pointer (some ⟨W.heap.size + 2, 0, none⟩), .pointer (some ⟨W.heap.size + 1, 0, none⟩)] (((W.alloc (.cells r 65)).alloc (.cells cs 65)).alloc (.cells #[.int .u8 x] 5)) fun e w' => e = .returned (.tuple #[]) ∧
      w' = ((W.alloc (.cells r 65)).alloc (.cells ((cs.setIfInBounds n.toNat (.int .u8 x)).setIfInBounds (255 + x.toNat) (.int .u8 n)) 65)).alloc (.cells #[.int .u8 (dblI x)] 5) := by
  obtain ⟨v1, hv1⟩ : ∃ v, cs[n.toNat]? = some v := ⟨_, Array.getElem?_eq_getElem (by omega)⟩
  obtain ⟨v2, hv2⟩ : ∃ v, (cs.setIfInBounds n.toNat (.int .u8 x))[255 + x.toNat]? = some v := ⟨_, Array.getElem?_eq_getElem (by simp; omega)⟩
  go_enter Try.func53, Try.ntmps53
  go_wp2_with (go_at_call 41; refine (dbl_any _ (by omega) (by omega) _).mono ?_; rintro e w' ⟨rfl, rfl⟩)
  go_end0
  exact ⟨rfl, rfl⟩

def zeros : Array Value := Array.replicate 511 (.int .u8 0)

def tab : Nat → Array Value
  | 0 => zeros
  | k + 1 => ((tab k).setIfInBounds k (.int .u8 ((Gf.exp k : Nat) : Int))).setIfInBounds (255 + Gf.exp k) (.int .u8 (k : Int))

theorem tab_size : ∀ k, (tab k).size = 511
  | 0 => by simp [tab, zeros]
  | k + 1 => by simp [tab, tab_size k]

theorem zero42 (w : World) : (zeroValue 65).run Try.prog w = .ok (.agg zeros) w := by kernel_rfl

theorem expE (k : Nat) : dblI ((Gf.exp k : Nat) : Int) = ((Gf.exp (k + 1) : Nat) : Int) := by
  unfold dblI; rw [Int.toNat_natCast]; rfl

theorem tab_all : ∀ k, (tab k).all (·.oneCell') = true := by
  intro k
  rw [Array.all_eq_true_iff_forall_mem]
  induction k with
  | zero => intro x hx; simp [tab, zeros] at hx; subst hx; rfl
  | succ k ih =>
    intro x hx
    unfold tab at hx
    rcases Array.mem_or_eq_of_mem_setIfInBounds hx with h | h
    · rcases Array.mem_or_eq_of_mem_setIfInBounds h with h | h
      · exact ih x h
      · subst h; rfl
    · subst h; rfl

theorem size_alloc (w : World) (o : Obj) : (w.alloc o).heap.size = w.heap.size + 1 := by
  show (w.heap.push o).size = _
  simp

theorem heap3_mid (W : World) (A B C : Obj) : (((W.alloc A).alloc B).alloc C).heap[W.heap.size + 1]? = some B := by
  rw [Below.heap_alloc _ _ _ (by rw [size_alloc, size_alloc]; omega)]
  exact heap_alloc2_new W A B

theorem heap3_low (W : World) (A B C : Obj) : (((W.alloc A).alloc B).alloc C).heap[W.heap.size]? = some A := by
  rw [Below.heap_alloc _ _ _ (by rw [size_alloc, size_alloc]; omega)]
  exact heap_alloc2_old W A B

theorem setRow_alloc_new (W : World) (a b : Array Value) (t : TypeId) : (W.alloc (.cells a t)).setRow W.heap.size b = W.alloc (.cells b t) := by
  unfold World.setRow World.alloc
  congr 1
  apply Array.ext_getElem?
  intro k
  simp only [Array.getElem?_modify, Array.getElem?_push]
  by_cases hk : k = W.heap.size
  · subst hk; simp
  · simp [hk, Ne.symm hk]

theorem setRow_alloc_past (w : World) (g : Nat) (b : Array Value) (o : Obj) (h : g < w.heap.size) : (w.alloc o).setRow g b = (w.setRow g b).alloc o := by
  unfold World.setRow World.alloc
  congr 1
  apply Array.ext_getElem?
  intro k
  simp only [Array.getElem?_modify, Array.getElem?_push, Array.size_modify]
  by_cases hk : k = w.heap.size
  · subst hk; simp [Nat.ne_of_lt h]
  · simp [hk]

theorem setRow_low (W : World) (a b : Array Value) (t : TypeId) (B C : Obj) :
    (((W.alloc (.cells a t)).alloc B).alloc C).setRow W.heap.size b = ((W.alloc (.cells b t)).alloc B).alloc C := by
  rw [setRow_alloc_past _ _ _ _ (by rw [size_alloc, size_alloc]; omega), setRow_alloc_past _ _ _ _ (by rw [size_alloc]; omega), setRow_alloc_new]

set_option maxRecDepth 100000 in
theorem tables_gen (W : World) (Z : Array Value) (T : Nat → Array Value) (X : Nat → Int) (hz : ∀ w, (zeroValue 65).run Try.prog w = .ok (.agg Z) w)
    (h0 : Hid (T 0 = Z)) (hx0 : Hid (X 0 = 1)) (hT : Hid (∀ k, T (k + 1) = ((T k).setIfInBounds k (.int .u8 (X k))).setIfInBounds (255 + (X k).toNat) (.int .u8 (k : Int)))) (hX : Hid (∀ k, X (k + 1) = dblI (X k)))
    (hb : ∀ k, 0 ≤ X k ∧ X k < 256) (hs : Hid (∀ k, (T k).size = 511)) (ha : Hid (∀ k, (T k).all (·.oneCell') = true)) (h255 : Hid (X 255 = 1)) :
    Calls Try.prog 51 #[] W fun e w' => e = .returned (.agg (T 255)) ∧ w' = ((W.alloc (.cells (T 255) 65)).alloc (.cells (T 255) 65)).alloc (.cells #[.int .u8 1] 5) := by
  have hZ : Z.size = (T 255).size := by rw [hs.out, ← h0.out, hs.out]
  have hi : (Try.prog.info? 65).map (·.size) = some (T 255).size := by rw [hs.out]; kernel_rfl
  go_enter Try.func51, Try.ntmps51
  go_wp2
  go_loopw [6] (fun i wr => ∃ k : Nat, k ≤ 255 ∧ i = .int .i64 k ∧ wr = ((W.alloc (.cells Z 65)).alloc (.cells (T k) 65)).alloc (.cells #[.int .u8 (X k)] 5)) (fun i _ => 255 - (intOf i).toNat)
  case atStart => exact ⟨0, Nat.zero_le _, rfl, by rw [h0.out, hx0.out]⟩
  case round =>
    obtain ⟨k, hk, rfl, rfl⟩ := hrel
    have hx := hb k
    by_cases hlt : k < 255
    · go_wp2_with (go_at_call 53; refine (put_any _ _ _ _ _ (hs.out k) (by omega) (by omega) (by omega) (by omega)).mono ?_; rintro e w' ⟨rfl, rfl⟩)
      go_roundw
      case rel => exact ⟨k + 1, by omega, by go_num, by rw [hT.out, hX.out]⟩
      case measure => simp [intOf]; omega
    · have e8 : k = 255 := by omega
      subst e8
      clear hlt hx hk
      go_wp2_with (first | refine wpList_load_row rfl 65 _ rfl (W.heap.size + 1) rfl 65 (T 255) (0, 0) _ (heap3_mid _ _ _ _) Try.underlying65 rfl hi ?_ | refine wpList_store_row rfl 65 _ _ rfl W.heap.size (T 255) rfl rfl 65 Z (heap3_low _ _ _ _) hi hZ (ha.out 255) ?_)
      rw [setRow_low]
      exact bodyPost_ret (results_cell_row Try.results51 _ _ W.heap.size 65 (T 255) (0, 0) _ rfl (heap3_low _ _ _ _) Try.underlying65 rfl hi) rfl ⟨rfl, by rw [h255.out]⟩

/-- makeTables answers the two tables and leaves three blocks behind what was there. -/
theorem tables_any (W : World) :
    Calls Try.prog 51 #[] W fun e w' => e = .returned (.agg (tab 255)) ∧ w' = ((W.alloc (.cells (tab 255) 65)).alloc (.cells (tab 255) 65)).alloc (.cells #[.int .u8 1] 5) :=
  tables_gen W zeros tab (fun k => ((Gf.exp k : Nat) : Int)) zero42 rfl rfl (fun k => by rw [Int.toNat_natCast]; rfl) (fun k => (expE k).symm)
    (fun k => by have := Gf.exp_lt k; omega) tab_size tab_all (by show ((Gf.exp 255 : Nat) : Int) = 1; rw [Gf.exp_255]; rfl)

theorem tab_lo (j : Nat) (hj : j < 255) : ∀ k, k ≤ 255 → (tab k)[j]? = some (.int .u8 (if j < k then ((Gf.exp j : Nat) : Int) else 0))
  | 0, _ => by
    show (Array.replicate 511 (Value.int .u8 0))[j]? = _
    rw [Array.getElem?_replicate, if_pos (by omega), if_neg (by omega)]
  | k + 1, hk => by
    have hs := tab_size k
    unfold tab
    rw [Array.getElem?_setIfInBounds_ne (by omega)]
    by_cases e : k = j
    · subst e
      rw [Array.getElem?_setIfInBounds_self_of_lt (by omega), if_pos (by omega)]
    · rw [Array.getElem?_setIfInBounds_ne e, tab_lo j hj k (by omega)]
      by_cases h : j < k
      · rw [if_pos h, if_pos (by omega)]
      · rw [if_neg h, if_neg (by omega)]

theorem tab_hi (j : Nat) (hj : j < 256) : ∀ k, k ≤ 255 → (tab k)[255 + j]? = some (.int .u8 ((Gf.num k j : Nat) : Int))
  | 0, _ => by
    show (Array.replicate 511 (Value.int .u8 0))[255 + j]? = _
    rw [Array.getElem?_replicate, if_pos (by omega)]; rfl
  | k + 1, hk => by
    have hs := tab_size k
    have hx := Gf.exp_lt k
    unfold tab
    unfold Gf.num
    by_cases e : j = Gf.exp k
    · subst e
      rw [Array.getElem?_setIfInBounds_self_of_lt (by simp; omega), Nat.beq_refl]; rfl
    · have hb : Nat.beq j (Gf.exp k) = false := by
        rw [Bool.eq_false_iff]; intro hc; exact e (Nat.eq_of_beq_eq_true hc)
      rw [Array.getElem?_setIfInBounds_ne (by omega), Array.getElem?_setIfInBounds_ne (by omega), tab_hi j hj k (by omega), hb]; rfl

theorem tab_exp (j : Nat) (hj : j < 255) : (tab 255)[j]? = some (.int .u8 ((Gf.exp j : Nat) : Int)) := by
  rw [tab_lo j hj 255 (Nat.le_refl _), if_pos hj]
theorem tab_lg (j : Nat) (hj : j < 256) : (tab 255)[255 + j]? = some (.int .u8 ((Gf.lg j : Nat) : Int)) := tab_hi j hj 255 (Nat.le_refl _)

end Go.Proofs.Ytpgjkhlffcomgaa
