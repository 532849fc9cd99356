/- The program's own Record, as landed at 7a0984bd. -/
import Derived.Test.YtmbabfelnieagabDoorB6
namespace Go.Proofs.YtmbabfelnieagabDoor
open Go.RowKit Go.Deep
set_option linter.unusedVariables false
set_option linter.unusedSimpArgs false

theorem own_set9 {W : World} {base g : Nat} {e : TypeId} {s n : Nat} {v u : Value} {xs : List Value} (h : W.ownsRow base e s v n xs) (hg : g < base) : (W.setCell ⟨g, 0, none⟩ u).ownsRow base e s v n xs := by
  rcases h with ⟨h0, h1 | ⟨g', cap, cur, h1, h2, h3, h4⟩⟩
  · exact ⟨h0, .inl h1⟩
  · exact ⟨h0, .inr ⟨g', cap, cur, h1, h2, (Below.heap_setCell W ⟨g, 0, none⟩ u g' (by show g' ≠ g; omega)).trans h3, h4⟩⟩
/-- a variable of one cell in a block of its own -/
def VarAt (w : World) (g : Nat) (t : TypeId) (v : Value) : Prop := w.heap[g]? = some (.cells #[v] t (0, 0))
theorem VarAt.keep {w w' : World} {g B : Nat} {t : TypeId} {v : Value} (h : VarAt w g t v) (k : Below B w w') (hB : g < B) : VarAt w' g t v := (k.block g hB).trans h
theorem VarAt.cell {w : World} {g : Nat} {t : TypeId} {v : Value} (h : VarAt w g t v) : w.cell? ⟨g, 0, none⟩ = some v := cell_of_row w g 0 _ _ _ h
theorem VarAt.free {w : World} {g : Nat} {t : TypeId} {v : Value} (h : VarAt w g t v) : w.frozen? ⟨g, 0, none⟩ = false := by
  unfold VarAt at h
  simp [World.frozen?, h]
theorem VarAt.lt {w : World} {g : Nat} {t : TypeId} {v : Value} (h : VarAt w g t v) : g < w.heap.size := (Array.getElem?_eq_some_iff.1 h).1
theorem VarAt.new (w : World) (v : Value) (t : TypeId) : VarAt (w.alloc (.cells #[v] t)) w.heap.size t v := heap_alloc_new w _
theorem VarAt.more {w : World} {g : Nat} {t : TypeId} {v : Value} (h : VarAt w g t v) (o : Obj) : VarAt (w.alloc o) g t v := (Below.heap_alloc w o g h.lt).trans h
theorem VarAt.set {w : World} {g : Nat} {t : TypeId} {v : Value} (h : VarAt w g t v) (u : Value) : VarAt (w.setCell ⟨g, 0, none⟩ u) g t u := by
  unfold VarAt at h ⊢
  unfold World.setCell
  show (w.heap.modify g _)[g]? = _
  rw [Array.getElem?_modify, if_pos rfl, h]
  rfl
theorem own_slice {W : World} {base : Nat} {e : TypeId} {s n : Nat} {v : Value} {xs : List Value} (h : W.ownsRow base e s v n xs) : ∃ A c, v = .slice A n c := by
  rcases h with ⟨h0, ⟨h1, h2⟩ | ⟨g', cap, cur, h1, h2⟩⟩
  · exact ⟨none, 0, by rw [h1, h2]⟩
  · exact ⟨_, _, h1⟩
theorem VarAt.other {w : World} {g g' : Nat} {t : TypeId} {v : Value} (h : VarAt w g t v) (u : Value) (hne : g ≠ g') : VarAt (w.setCell ⟨g', 0, none⟩ u) g t v := (Below.heap_setCell w ⟨g', 0, none⟩ u g hne).trans h
theorem bw_set {w w' : World} {g : Nat} {u : Value} {B : Nat} (h : Below B w w') (hg : B ≤ g) : Below B w (w'.setCell ⟨g, 0, none⟩ u) := h.setCell hg u
theorem Px.recF_no {p : Px.Pr} (h : Px.fits p ≠ 0) : Px.recF p = ([], Px.fits p) := by unfold Px.recF; rw [if_pos h]
theorem Px.recF_ok {p : Px.Pr} (h : Px.fits p = 0) : Px.recF p = (Px.rcd p, 0) := by unfold Px.recF; rw [if_neg (fun k => k h)]
theorem Px.recF_fits (p : Px.Pr) : (Px.recF p).2 = Px.fits p := by
  by_cases h : Px.fits p = 0
  · rw [Px.recF_ok h, h]
  · rw [Px.recF_no h]
/-- what Record's work does -/
def Rec1 (p : Px.Pr) (g1 : Nat) (W : World) (er : Nat) (w' : World) : Prop := er = Px.fits p ∧ Bx (· = g1) W w' ∧ ∃ v, VarAt w' g1 27 v ∧ w'.ownsRow W.heap.size 5 1 v (Px.recF p).1.length (Px.cellsB (Px.recF p).1)
set_option maxRecDepth 100000 in
set_option maxHeartbeats 2000000 in
theorem rec1_any (a b : ByteArray) (ha : a.size ≤ 140737488355328) (hb : b.size ≤ 140737488355328) (g0 g1 : Nat) (W : World) (hk : KAt W) (h0 : W.cell? ⟨g0, 0, none⟩ = some (.string a) ∧ W.cell? ⟨g0, 1, none⟩ = some (.string b)) (h1 : VarAt W g1 27 (.slice none 0 0)) :
    Calls Tryd.prog 20 #[.pointer (some ⟨g0, 0, none⟩), .pointer (some ⟨g1, 0, none⟩)] W fun e w' => ∃ er, Asks er e ∧ Rec1 (a.toList, b.toList) g1 W er w' := by
  obtain ⟨c1, c2⟩ := h0
  by_cases hf : Px.fits (a.toList, b.toList) = 0
  · have HF : Hid (Px.fits (a.toList, b.toList) = 0) := hf
    clear hf
    go_enter Tryd.func20, Tryd.ntmps20
    go_wp2_with (go_at_call 21; refine (rec_any a b ha hb _ hk).mono ?_; rintro e w1 ⟨hA, hw1⟩; rcases hA with ⟨h, -⟩ | ⟨-, v, rfl, hown⟩; exact absurd HF.out h; obtain ⟨A, cv, rfl⟩ := own_slice hown; have hv1 := (h1.keep hw1 h1.lt); have hc1 := hv1.cell; have hz1 := hv1.free)
    refine bodyPost_end (results_none rfl _ _ _) rfl ?_
    refine ⟨0, .inl ⟨rfl, rfl⟩, HF.out.symm, (Bx.of_bw hw1).put rfl, _, hv1.set _, ?_⟩
    rw [Px.recF_ok HF.out]
    exact own_set9 hown h1.lt
  · have HF : Hid (Px.fits (a.toList, b.toList) ≠ 0) := hf
    clear hf
    go_enter Tryd.func20, Tryd.ntmps20
    go_wp2_with (go_at_call 21; refine (rec_any a b ha hb _ hk).mono ?_; rintro e w1 ⟨hA, hw1⟩; rcases hA with ⟨-, rfl⟩ | ⟨h, -⟩; rotate_left; exact absurd h HF.out; unfold thrown)
    refine ⟨rfl, _, .inr ⟨HF.out, rfl⟩, rfl, Bx.of_bw hw1, _, h1.keep hw1 h1.lt, ?_⟩
    rw [Px.recF_no HF.out]
    exact World.ownsRow_nil _ _ _ _
/-- what Record answers -/
def RecOwn (p : Px.Pr) (base : Nat) (e : Ending) (w' : World) : Prop := ∃ v, e = .returned (.tuple #[v, .int .i64 ((Px.recF p).2 : Int)]) ∧ w'.ownsRow base 5 1 v (Px.recF p).1.length (Px.cellsB (Px.recF p).1)
theorem alloc_size9 (w : World) (o : Obj) : (w.alloc o).heap.size = w.heap.size + 1 := by simp
set_option maxRecDepth 100000 in
set_option maxHeartbeats 2000000 in
theorem precord_own (a b : ByteArray) (ha : a.size ≤ 140737488355328) (hb : b.size ≤ 140737488355328) (w : World) (hk : KAt w) :
    Calls Tryd.prog 10 #[.agg #[.string a, .string b]] w fun e w' => RecOwn (a.toList, b.toList) w.heap.size e w' ∧ Bw w w' := by
  have hmf : ∀ (fn : Fn) (first cap : Array Value) (w : World), (Instr.makeFunc fn first cap).run Tryd.prog w = .ok (.func fn first cap) w := fun _ _ _ _ => rfl
  obtain ⟨W1, hW1⟩ : ∃ W, Hid (w.alloc (.cells #[.string a, .string b] 23) = W) := ⟨_, rfl⟩
  obtain ⟨W2, hW2⟩ : ∃ W, Hid (W1.alloc (.cells #[.slice none 0 0] 27) = W) := ⟨_, rfl⟩
  have s1 : Hid (W1.heap.size = w.heap.size + 1) := by show _ = _; rw [← hW1.out]; exact alloc_size9 _ _
  have s2 : Hid (W2.heap.size = w.heap.size + 2) := by show _ = _; rw [← hW2.out, alloc_size9, s1.out]
  have b1 : Bw w W1 := by rw [← hW1.out]; exact Below.alloc (Below.refl _ _) (Nat.le_refl _) _
  have b2 : Bw W1 W2 := by rw [← hW2.out]; exact Below.alloc (Below.refl _ _) (Nat.le_refl _) _
  have hwork : Works 20 #[.pointer (some ⟨w.heap.size, 0, none⟩), .pointer (some ⟨w.heap.size + 1, 0, none⟩)] W2 (Rec1 (a.toList, b.toList) (w.heap.size + 1) (W2.alloc (.cells #[.int .i64 0] 28))) := by
    have b3 : Bw W2 (W2.alloc (.cells #[.int .i64 0] 28)) := Below.alloc (Below.refl _ _) (Nat.le_refl _) _
    have hv : VarAt W2 (w.heap.size + 1) 27 (.slice none 0 0) := by rw [← hW2.out, ← s1.out]; exact VarAt.new _ _ _
    have he : VarAt (W2.alloc (.cells #[.int .i64 0] 28)) W2.heap.size 28 (.int .i64 0) := VarAt.new _ _ _
    have g1 : W1.heap[w.heap.size]? = some (.cells #[.string a, .string b] 23 (0, 0)) := by rw [← hW1.out]; exact World.alloc_heap_new w _
    have g := ((b2.trans b3).block w.heap.size (by rw [s1.out]; omega)).trans g1
    refine (rec1_any a b ha hb w.heap.size (w.heap.size + 1) _ (hk.keep (b1.trans (b2.trans b3))) ⟨cell_of_row _ _ 0 _ _ _ g, cell_of_row _ _ 1 _ _ _ g⟩ (hv.more _)).mono ?_
    rintro e w' ⟨er, hA, hR⟩
    have he2 : VarAt w' W2.heap.size 28 (.int .i64 0) := (hR.2.1.block _ he.lt (by rw [s2.out]; omega)).trans he
    exact ⟨er, hA, ⟨he2.cell, he2.free⟩, hR⟩
  have HC := caught_any 20 _ W2 _ (enters_of Tryd.func20 (by kernel_rfl) rfl) hwork
  have HH : Hid (Calls Tryd.prog 19 #[.func (.func 20) #[] #[.pointer (some ⟨w.heap.size, 0, none⟩), .pointer (some ⟨w.heap.size + 1, 0, none⟩)]] W2 fun e w' => ∃ v, e = .returned (.int .i64 ((Px.recF (a.toList, b.toList)).2 : Int)) ∧ Bw w w' ∧ VarAt w' (w.heap.size + 1) 27 v ∧ w'.ownsRow w.heap.size 5 1 v (Px.recF (a.toList, b.toList)).1.length (Px.cellsB (Px.recF (a.toList, b.toList)).1)) := by
    refine HC.mono ?_
    rintro e w' ⟨er, w1, rfl, ⟨h1, h2, v, h3, h4⟩, rfl⟩
    have b3 : Bw W2 (W2.alloc (.cells #[.int .i64 0] 28)) := Below.alloc (Below.refl _ _) (Nat.le_refl _) _
    have h5 : Below w.heap.size (W2.alloc (.cells #[.int .i64 0] 28)) w1 := h2.below (Nat.le_trans b1.size (Nat.le_trans b2.size b3.size)) (fun b hb => by rw [hb]; omega)
    refine ⟨v, by rw [Px.recF_fits, h1], (Below.trans (b1.trans (b2.trans b3)) h5).setCell (by show _ ≤ W2.heap.size; rw [s2.out]; omega) _, h3.other _ (by rw [s2.out]; omega), own_lower9 (own_set9 h4 (by rw [alloc_size9]; omega)) (by rw [alloc_size9, s2.out]; omega)⟩
  clear HC hwork
  have HH2 := HH.out
  rw [← hW2.out, ← hW1.out] at HH2
  obtain ⟨r, er, hR⟩ : ∃ r er, Hid (Px.recF (a.toList, b.toList) = (r, er)) := ⟨_, _, show Px.recF (a.toList, b.toList) = _ from rfl⟩
  unfold RecOwn
  rw [hR.out] at HH2 ⊢
  dsimp only at HH2 ⊢
  clear HH
  go_enter Tryd.func10, Tryd.ntmps10
  go_wp2_with (go_at_call 19; refine HH2.mono ?_; rintro e w3 ⟨v, rfl, hw3, hv3, ho3⟩; obtain ⟨A, cv, rfl⟩ := own_slice ho3; have hc3 := hv3.cell)
  go_ret2
  exact ⟨⟨_, rfl, ho3⟩, hw3⟩
theorem precord_any (a b : ByteArray) (ha : a.size ≤ 140737488355328) (hb : b.size ≤ 140737488355328) (w : World) (hk : KAt w) :
    Calls Tryd.prog 10 #[.agg #[.string a, .string b]] w fun e w' => RecSays (a.toList, b.toList) e w' ∧ Bw w w' :=
  (precord_own a b ha hb w hk).mono fun e w' ⟨⟨v, h1, h2⟩, h3⟩ => ⟨⟨v, h1, rowis_own h2⟩, h3⟩
end Go.Proofs.YtmbabfelnieagabDoor
