/- Layer 16: the document's own space in memory: which cells are taken. -/
import Derived.Test.YtfdfkhmaeeonpaaRf
namespace Go.Proofs.Ytfdfkhmaeeonpaa
open Go.RowKit Go.Deep
set_option linter.unusedVariables false
set_option linter.unusedSimpArgs false

/-- the document's space in block g, its cells in block b -/
structure RfAt (w : World) (g b n : Nat) (f : Nat → Bool) : Prop where
  hd : w.heap[g]? = some (.cells #[.slice (some ⟨b, 0, none⟩) n n] 53 (0, 0))
  row : ∃ cur, w.heap[b]? = some (.cells cur 4 (0, 0)) ∧ cur.size = n ∧ ∀ j, j < n → cur[j]? = some (.bool (f j))
  n1 : n ≤ 65536
namespace RfAt
variable {w w' : World} {g b n : Nat} {f : Nat → Bool}
theorem lt (h : RfAt w g b n f) : g < w.heap.size := (Array.getElem?_eq_some_iff.1 h.hd).1
theorem ltb (h : RfAt w g b n f) : b < w.heap.size := by obtain ⟨cur, h1, _⟩ := h.row; exact (Array.getElem?_eq_some_iff.1 h1).1
theorem ne (h : RfAt w g b n f) : g ≠ b := fun e => by
  obtain ⟨cur, h1, _⟩ := h.row
  have h2 := h.hd
  rw [e, h1] at h2
  simp only [Option.some.injEq, Obj.cells.injEq] at h2
  exact absurd h2.2.1 (by decide)
theorem kept (h : RfAt w g b n f) (k1 : w'.heap[g]? = w.heap[g]?) (k2 : w'.heap[b]? = w.heap[b]?) : RfAt w' g b n f := by
  obtain ⟨cur, h1, h2⟩ := h.row
  exact ⟨k1.trans h.hd, ⟨cur, k2.trans h1, h2⟩, h.n1⟩
theorem keep (h : RfAt w g b n f) (k : Bw w w') : RfAt w' g b n f := h.kept (k.block g h.lt) (k.block b h.ltb)
theorem keepx {S : Nat → Prop} (h : RfAt w g b n f) (k : Bx S w w') (h1 : ¬ S g) (h2 : ¬ S b) : RfAt w' g b n f := h.kept (k.block g h.lt h1) (k.block b h.ltb h2)
theorem c0 (h : RfAt w g b n f) : w.cell? ⟨g, 0, none⟩ = some (.slice (some ⟨b, 0, none⟩) n n) := cell_of_row w g 0 _ _ _ h.hd
theorem cell (h : RfAt w g b n f) {j : Nat} (hj : j < n) : w.cell? ⟨b, j, none⟩ = some (.bool (f j)) := by
  obtain ⟨cur, h1, h2, h3⟩ := h.row
  exact (cell_of_row w b j cur _ _ h1).trans (h3 j hj)
theorem free (h : RfAt w g b n f) (j : Nat) : w.frozen? ⟨b, j, none⟩ = false := by obtain ⟨cur, h1, _⟩ := h.row; exact frozen_of_row w b j cur _ h1
theorem congr {f' : Nat → Bool} (h : RfAt w g b n f) (e : ∀ j, j < n → f' j = f j) : RfAt w g b n f' := by
  obtain ⟨cur, h1, h2, h3⟩ := h.row
  exact ⟨h.hd, ⟨cur, h1, h2, fun j hj => by rw [e j hj]; exact h3 j hj⟩, h.n1⟩
theorem put (h : RfAt w g b n f) (x : Nat) (v : Bool) : RfAt (w.setCell ⟨b, x, none⟩ (.bool v)) g b n (fun j => if j = x then v else f j) := by
  obtain ⟨cur, h1, h2, h3⟩ := h.row
  have hX : Bx (· = b) w (w.setCell ⟨b, x, none⟩ (.bool v)) := (Bx.refl _ w).put rfl
  refine ⟨(hX.block g h.lt h.ne).trans h.hd, ⟨_, heap_setCell_same w b x cur _ _ h1, by simpa using h2, fun j hj => ?_⟩, h.n1⟩
  by_cases e : j = x
  · subst e
    simp [h2, hj]
  · have := h3 j hj
    simp only [e, if_false]
    rw [← this]
    simp only [Array.set!_eq_setIfInBounds, Array.getElem?_setIfInBounds]
    rw [if_neg (by omega)]
end RfAt
/-- cells of a run become so -/
def setF (f : Nat → Bool) (x k : Nat) (t : Bool) : Nat → Bool := fun j => if x ≤ j ∧ j < x + k then t else f j
set_option maxRecDepth 100000 in
set_option maxHeartbeats 1000000 in
theorem rall16_any {w : World} {g b n : Nat} {f : Nat → Bool} (hs : RfAt w g b n f) (x k : Nat) (hx : x + k ≤ n) (t : Bool) :
    Calls Try.prog 26 #[.pointer (some ⟨g, 0, none⟩), .agg #[.int .i64 (x : Int), .int .i64 (k : Int)], .bool t] w fun e w' => ∃ r : Bool, e = .returned (.bool r) ∧ (r = true ↔ ∀ j, x ≤ j → j < x + k → f j = t) ∧ Bw w w' := by
  have hn1 := hs.n1
  obtain ⟨W, hW⟩ : ∃ W, W = w.alloc (.cells #[.int .i64 (x : Int), .int .i64 (k : Int)] 32) := ⟨_, rfl⟩
  obtain ⟨z, hz⟩ : ∃ z, Hid (w.heap.size = z) := ⟨_, rfl⟩
  have kW : Hid (Bw w W) := by refine (?_ : Bw w W); rw [hW]; exact bw_alloc16 (Bw.refl _) _
  have HC : Hid (∀ u, Bw W u → u.cell? ⟨z, 0, none⟩ = some (.int .i64 (x : Int)) ∧ u.cell? ⟨z, 1, none⟩ = some (.int .i64 (k : Int))) := fun u ku => by
    have h := cells2_new w (.int .i64 (x : Int)) (.int .i64 (k : Int)) 32
    rw [← hW, hz.out] at h
    exact ⟨keep_cell16 h.1 ku, keep_cell16 h.2 ku⟩
  have HS : Hid (∀ u, Bw W u → RfAt u g b n f) := fun u ku => hs.keep (kW.out.trans ku)
  obtain ⟨c0, c1⟩ := cells2_new w (.int .i64 (x : Int)) (.int .i64 (k : Int)) 32
  have p1 : (0 : Int) ≤ (x : Int) + (k : Int) := by omega
  have p2 : (x : Int) + (k : Int) ≤ 65536 := by omega
  clear hs
  go_enter Try.func26, Try.ntmps26
  go_wp2
  rw [← hW, hz.out]
  clear c0 c1 hW
  go_loopw [7] (fun s7 wr => ∃ i : Nat, s7 = .int .i64 (i : Int) ∧ x ≤ i ∧ i ≤ x + k ∧ Hid (∀ j, x ≤ j → j < i → f j = t) ∧ Hid (Bw W wr)) (fun s7 _ => x + k - (intOf s7).toNat)
  case atStart => exact ⟨x, rfl, Nat.le_refl _, by omega, fun j h1 h2 => by omega, Bw.refl _⟩
  case round =>
    obtain ⟨i, rfl, hi0, hi, hall, hbw⟩ := hrel
    obtain ⟨c0, c1⟩ := HC.out _ hbw.out
    have i0 : (0 : Int) ≤ (i : Int) := Int.natCast_nonneg _
    by_cases hlt : i < x + k
    · have i1 : (i : Int) < (x : Int) + (k : Int) := by omega
      have i2 : (i : Int) < (n : Int) := by omega
      have q0 := (HS.out _ hbw.out).c0
      have q1 := (HS.out _ hbw.out).cell (j := i) (by omega)
      by_cases hf : f i = t
      · have hn : Hid (∀ j, x ≤ j → j < i + 1 → f j = t) := fun j h1 h2 => by
          rcases Nat.lt_or_ge j i with h | h
          · exact hall.out j h1 h
          · obtain rfl : j = i := by omega
            exact hf
        rw [hf] at q1
        clear hf hlt
        go_wp2
        go_roundw
        case rel => exact ⟨i + 1, by go_num, by omega, by omega, hn, hbw.out⟩
        case measure => simp [intOf]; omega
      · have hne : Hid (¬ ∀ j, x ≤ j → j < x + k → f j = t) := fun h => hf (h i hi0 hlt)
        have e : ((Value.bool (f i)) = .bool (!t)) := by cases h1 : f i <;> cases t <;> simp_all
        rw [e] at q1
        clear hf e hlt
        cases t
        all_goals go_wp2
        all_goals go_ret
        all_goals exact ⟨false, rfl, ⟨fun h => absurd h (by decide), fun h => absurd h hne.out⟩, kW.out.trans hbw.out⟩
    · obtain rfl : i = x + k := by omega
      have i1 : ((x + k : Nat) : Int) = (x : Int) + (k : Int) := by omega
      go_wp2
      go_ret
      exact ⟨true, rfl, ⟨fun _ => hall.out, fun _ => rfl⟩, kW.out.trans hbw.out⟩
set_option maxRecDepth 100000 in
set_option maxHeartbeats 1000000 in
theorem rput16_any {w : World} {g b n : Nat} {f : Nat → Bool} (hs : RfAt w g b n f) (x k : Nat) (hx : x + k ≤ n) (t : Bool) :
    Calls Try.prog 27 #[.pointer (some ⟨g, 0, none⟩), .agg #[.int .i64 (x : Int), .int .i64 (k : Int)], .bool t] w fun e w' => e = .returned (.tuple #[]) ∧ RfAt w' g b n (setF f x k t) ∧ Bx (· = b) w w' := by
  have hn1 := hs.n1
  obtain ⟨W, hW⟩ : ∃ W, W = w.alloc (.cells #[.int .i64 (x : Int), .int .i64 (k : Int)] 32) := ⟨_, rfl⟩
  obtain ⟨z, hz⟩ : ∃ z, Hid (w.heap.size = z) := ⟨_, rfl⟩
  have kW : Hid (Bw w W) := by refine (?_ : Bw w W); rw [hW]; exact bw_alloc16 (Bw.refl _) _
  have hzb : Hid (z ≠ b) := by have := hs.ltb; have := hz.out; exact (by omega : z ≠ b)
  have HC : Hid (∀ u, Bx (· = b) W u → u.cell? ⟨z, 0, none⟩ = some (.int .i64 (x : Int)) ∧ u.cell? ⟨z, 1, none⟩ = some (.int .i64 (k : Int))) := fun u ku => by
    have h := cells2_new w (.int .i64 (x : Int)) (.int .i64 (k : Int)) 32
    rw [← hW, hz.out] at h
    have hl : z < W.heap.size := block_lt_of_cell h.1
    have kb := ku.block z hl hzb.out
    have hk : ∀ j v, W.cell? ⟨z, j, none⟩ = some v → u.cell? ⟨z, j, none⟩ = some v := fun j v hv => by
      rw [World.cell?_of_block (w := W) (w' := u) (a := ⟨z, j, none⟩) kb]; exact hv
    exact ⟨hk _ _ h.1, hk _ _ h.2⟩
  have hs0 : Hid (RfAt W g b n f) := hs.keep kW.out
  obtain ⟨c0, c1⟩ := cells2_new w (.int .i64 (x : Int)) (.int .i64 (k : Int)) 32
  have p1 : (0 : Int) ≤ (x : Int) + (k : Int) := by omega
  have p2 : (x : Int) + (k : Int) ≤ 65536 := by omega
  clear hs
  go_enter Try.func27, Try.ntmps27
  go_wp2
  rw [← hW, hz.out]
  clear c0 c1 hW
  go_loopw [6] (fun s6 wr => ∃ i : Nat, s6 = .int .i64 (i : Int) ∧ x ≤ i ∧ i ≤ x + k ∧ Hid (RfAt wr g b n (setF f x (i - x) t)) ∧ Hid (Bx (· = b) W wr)) (fun s6 _ => x + k - (intOf s6).toNat)
  case atStart => exact ⟨x, rfl, Nat.le_refl _, by omega, hs0.out.congr (fun j _ => by unfold setF; rw [if_neg (by omega)]), Bx.refl _ _⟩
  case round =>
    obtain ⟨i, rfl, hi0, hi, hr, hbw⟩ := hrel
    obtain ⟨c0, c1⟩ := HC.out _ hbw.out
    have i0 : (0 : Int) ≤ (i : Int) := Int.natCast_nonneg _
    by_cases hlt : i < x + k
    · have i1 : (i : Int) < (x : Int) + (k : Int) := by omega
      have i2 : (i : Int) < (n : Int) := by omega
      have q0 := hr.out.c0
      have q1 := hr.out.cell (j := i) (by omega)
      have q2 := hr.out.free i
      have hn : Hid (RfAt (wr.setCell ⟨b, i, none⟩ (.bool t)) g b n (setF f x (i + 1 - x) t)) := (hr.out.put i t).congr (fun j _ => by
        unfold setF
        by_cases e : j = i
        · rw [if_pos e, if_pos (by omega)]
        · rw [if_neg e]
          by_cases e2 : x ≤ j ∧ j < x + (i - x)
          · rw [if_pos e2, if_pos (by omega)]
          · rw [if_neg e2, if_neg (by omega)])
      clear hr hlt
      go_wp2
      go_roundw
      case rel => exact ⟨i + 1, by go_num, by omega, by omega, hn.out, hbw.out.put rfl⟩
      case measure => simp [intOf]; omega
    · obtain rfl : i = x + k := by omega
      have i1 : ((x + k : Nat) : Int) = (x : Int) + (k : Int) := by omega
      go_wp2
      go_end0
      refine ⟨rfl, ?_, (Bx.of_bw kW.out).trans hbw.out⟩
      have h := hr.out
      rwa [show x + k - x = k by omega] at h
end Go.Proofs.Ytfdfkhmaeeonpaa
