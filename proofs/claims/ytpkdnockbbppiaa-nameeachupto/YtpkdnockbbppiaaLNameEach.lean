/- Proved: for every text and every number the statement NameEach answers true (the document's P8.3: every Each, stopped behind so many pieces, and gone over from the beginning again), where what comes in is of bulk at most 1048576. -/
import Derived.Test.YtpkdnockbbppiaaND
import Derived.Test.YtpkdnockbbppiaaFs
import Derived.ShutString
import Derived.ChangeOld
import Derived.JoinedCond
import Derived.Deep.CondSized
namespace Go.Proofs.Ytpkdnockbbppiaa.nameEach
open Go.ChangeShapes Go.WideShapes Go.ChangeAt Go.RowKit
set_option linter.unusedVariables false

open Go.Deep Go.Shelf
set_option linter.unusedSimpArgs false
attribute [local go_sem] Oper.semAt_some eq_nilFunc
set_option maxRecDepth 100000 in
set_option maxHeartbeats 2000000 in
theorem each_law (s : ByteArray) (stop : Int) (hs : s.size ≤ 1048576) (w : World) :
    CallsIn Fence.wide 10 Try.prog 5 #[.string s, .int .i64 stop] w fun e w' => e = .returned (.bool true) ∧ Below w.heap.size w w' := by
  have HN : Hid ((Nm.pieces s.toList).length = (Nm.all s.toList).length) := by show _ = _; unfold Nm.all; rw [Nm.ats_length]
  have HNB : Hid ((Nm.pieces s.toList).length ≤ 1048577) := by
    show _ ≤ _
    have := Nm.len_pieces s.toList
    rw [Nm.size_toList] at this
    omega
  refine callsIn_of_wp_marks Try.func5 rfl trivial ?_ rfl
  simp only [Try.ntmps5, List.size_toArray, List.length_cons, List.length_nil, Nat.reduceAdd, Nat.reduceSub, Array.replicate_succ, Array.replicate_zero, List.push_toArray, List.append_toArray, List.nil_append, List.cons_append]
  gi_wp2_with (first
    | (refine ⟨trivial, ?_⟩; gi_at_call 15; refine (callsIn_wide.2 (rpieces_any s (by omega) _)).mono ?_; rintro e w1 ⟨v, rfl, hp, hw1⟩; obtain ⟨gp, cp, rfl, hcp, hgp, hcells⟩ := hp)
    | (refine ⟨trivial, ?_⟩; gi_at_call 16; refine (callsIn_wide.2 (neach_any s _)).mono ?_; rintro e w2 ⟨rfl, hbx, hw2⟩))
  have z1 : w.heap.size + 2 ≤ w1.heap.size := by have := hw1.size; simp at this; omega
  have z2 : w1.heap.size + 1 ≤ w2.heap.size := by have := hw2.size; simp at this; omega
  rw [World.size_alloc] at hbx
  have z3 : w1.heap.size + 1 < w2.heap.size := block_lt_of_cell hbx
  have c0 := new_cell8 w (.int .i64 stop) 3
  have c1 := new_cell8 (w.alloc (.cells #[.int .i64 stop] 3)) (.bool false) 4
  rw [World.size_alloc] at c1
  have c2 := new_cell8 w1 (.slice (some ⟨gp, 0, none⟩) (Nm.pieces s.toList).length cp) 35
  have c3 := new_cell8 w2 (.int .i64 0) 3
  have HS : Hid (w2.cell? ⟨w.heap.size, 0, none⟩ = some (.int .i64 stop)) := by
    show _ = _
    rw [hw2.cell (p := ⟨w.heap.size, 0, none⟩) (by simp; omega)]
    refine kept_cell8 _ ?_
    rw [hw1.cell (p := ⟨w.heap.size, 0, none⟩) (by simp only [World.size_alloc]; omega)]
    exact kept_cell8 _ c0.1
  have HR : Hid (w2.cell? ⟨w.heap.size + 1, 0, none⟩ = some (.bool false)) := by
    show _ = _
    rw [hw2.cell (p := ⟨w.heap.size + 1, 0, none⟩) (by simp; omega)]
    refine kept_cell8 _ ?_
    rw [hw1.cell (p := ⟨w.heap.size + 1, 0, none⟩) (by simp)]
    exact c1.1
  have HRF : Hid (w2.frozen? ⟨w.heap.size + 1, 0, none⟩ = false) := by
    show _ = _
    rw [hw2.frozen (p := ⟨w.heap.size + 1, 0, none⟩) (by simp; omega)]
    refine kept_froz8 _ (v := .bool false) ?_ ?_
    · rw [hw1.cell (p := ⟨w.heap.size + 1, 0, none⟩) (by simp)]; exact c1.1
    · rw [hw1.frozen (p := ⟨w.heap.size + 1, 0, none⟩) (by simp)]; exact c1.2
  have HW : Hid (w2.cell? ⟨w1.heap.size, 0, none⟩ = some (.slice (some ⟨gp, 0, none⟩) (Nm.pieces s.toList).length cp)) := by
    show _ = _
    rw [hw2.cell (p := ⟨w1.heap.size, 0, none⟩) (by simp)]
    exact c2.1
  have HC : Hid (∀ j (h : j < (Nm.pieces s.toList).length), w2.cell? ⟨gp, j * 2, none⟩ = some (.int .i64 ((Nm.tot ((Nm.pieces s.toList).take j) : Nat) : Int)) ∧ w2.cell? ⟨gp, j * 2 + 1, none⟩ = some (.string (Nm.S (Nm.pieces s.toList)[j]))) := by
    intro j h
    rw [hw2.cell (p := ⟨gp, j * 2, none⟩) (by simp; omega), hw2.cell (p := ⟨gp, j * 2 + 1, none⟩) (by simp; omega)]
    exact ⟨kept_cell8 _ (hcells j h).1, kept_cell8 _ (hcells j h).2⟩
  have HB0 : Hid (Below w.heap.size w w2) := by
    have h1 : Below w.heap.size w ((w.alloc (.cells #[.int .i64 stop] 3)).alloc (.cells #[.bool false] 4)) := ((Below.refl _ w).alloc (Nat.le_refl _) _).alloc (by simp) _
    have h2 : Below w.heap.size w w1 := h1.trans (hw1.mono (by simp; omega))
    exact (h2.alloc (by omega) _).trans (hw2.mono (by simp; omega))
  have hbx2 : Hid (w2.cell? ⟨w1.heap.size + 1, 0, none⟩ = some (.string s)) := hbx
  clear hcells hbx c0 c1 c2 hw1 hw2
  rename_i K hK
  have hcont : ∀ (D m : Nat) (W : World), w2.heap.size + 1 ≤ D → W.heap[D]? = some (.deferred (some [])) → Below w2.heap.size w2 W → m ≤ (Nm.pieces s.toList).length →
      W.cell? ⟨w2.heap.size, 0, none⟩ = some (.int .i64 (m : Int)) → W.frozen? ⟨w2.heap.size, 0, none⟩ = false → (m = (Nm.pieces s.toList).length ∨ (m : Int) = stop) →
      K { tmps := #[.string s, .int .i64 stop, undef, .pointer (some ⟨w.heap.size, 0, none⟩), .pointer (some ⟨w.heap.size + 1, 0, none⟩), .pointer (some ⟨w1.heap.size, 0, none⟩), .func (.func 29) #[] #[.pointer (some ⟨w1.heap.size + 1, 0, none⟩)], .pointer (some ⟨w2.heap.size, 0, none⟩), undef, undef, undef, undef, .string s, .slice (some ⟨gp, 0, none⟩) (Nm.pieces s.toList).length cp, .string s, .func (.func 29) #[] #[.pointer (some ⟨w1.heap.size + 1, 0, none⟩)], .func (.func 29) #[] #[.pointer (some ⟨w1.heap.size + 1, 0, none⟩)], .bool false, .func (.func 29) #[] #[.pointer (some ⟨w1.heap.size + 1, 0, none⟩)], undef, undef, undef, undef, undef, undef, undef, undef, undef, undef, undef, undef, undef, undef, undef, undef, undef, undef, undef, undef, undef, undef, undef, undef, undef, undef, undef, undef, undef, undef, undef, undef, undef, undef, undef, undef, undef, undef, undef, undef, undef, undef, undef, undef, undef, undef, undef, undef, undef, undef, undef, undef, undef, undef, undef, undef, undef, undef, undef, undef, undef, undef, undef, undef, undef, undef, undef, undef, undef], defers := [{ target := .collected D, args := #[] }] } W := by
    intro D m W hD hD2 hB hmle hc hf hor
    have q1 := HS.out
    have q2 := HR.out
    have q3 := HRF.out
    have q4 := HW.out
    rw [← hB.cell (p := ⟨w.heap.size, 0, none⟩) (show w.heap.size < _ by omega)] at q1
    rw [← hB.cell (p := ⟨w.heap.size + 1, 0, none⟩) (show w.heap.size + 1 < _ by omega)] at q2
    rw [← hB.frozen (p := ⟨w.heap.size + 1, 0, none⟩) (show w.heap.size + 1 < _ by omega)] at q3
    rw [← hB.cell (p := ⟨w1.heap.size, 0, none⟩) (show w1.heap.size < _ by omega)] at q4
    have k0 : (0 : Int) ≤ (m : Int) := Int.natCast_nonneg _
    have k2 := HNB.out
    have hDs : D < W.heap.size := (Array.getElem?_eq_some_iff.1 hD2).1
    have hbx3 : W.cell? ⟨w1.heap.size + 1, 0, none⟩ = some (.string s) := (hB.cell (p := ⟨w1.heap.size + 1, 0, none⟩) z3).trans hbx2.out
    have hcW : (W.setCell ⟨w2.heap.size, 0, none⟩ (.int .i64 0)).cell? ⟨w2.heap.size, 0, none⟩ = some (.int .i64 0) := World.cell?_setCell_same' _ _ _ (by rw [hc]; rfl)
    have hfW : (W.setCell ⟨w2.heap.size, 0, none⟩ (.int .i64 0)).frozen? ⟨w2.heap.size, 0, none⟩ = false := by rw [World.frozen?_setCell]; exact hf
    have hBW : Below w2.heap.size w2 (W.setCell ⟨w2.heap.size, 0, none⟩ (.int .i64 0)) := hB.setCell (p := ⟨w2.heap.size, 0, none⟩) (Nat.le_refl _) _
    have hDW : (W.setCell ⟨w2.heap.size, 0, none⟩ (.int .i64 0)).heap[D]? = some (.deferred (some [])) := (Below.heap_setCell W ⟨w2.heap.size, 0, none⟩ _ D (by show D ≠ w2.heap.size; omega)).trans hD2
    have hszW : (W.setCell ⟨w2.heap.size, 0, none⟩ (.int .i64 0)).heap.size = W.heap.size := by simp
    refine hK _ _ ?_
    gi_wp2
    rotate_left
    · rename_i h1 h2
      rcases hor with h | h
      · exact absurd (by rw [h]) h1
      · have := h2.2; rw [h] at this; simp at this
    · clear q1 q2 q3 q4 hor hc hf
      obtain ⟨V, hV⟩ : ∃ V, V = W.setCell ⟨w2.heap.size, 0, none⟩ (.int .i64 0) := ⟨_, rfl⟩
      rw [← hV] at hcW hfW hBW hDW hszW ⊢
      have hVB : w2.heap.size < V.heap.size := block_lt_of_cell hcW
      refine' wpIn_rangeFunc_ownF rfl (by omega) (gf := 29) (lb := #[.pointer (some ⟨w1.heap.size + 1, 0, none⟩)]) rfl trivial (enters_of Try.func29 (by kernel_rfl) rfl)
        (each_stops 9 (by omega) (w1.heap.size + 1) w2.heap.size s (by omega) z3 V ((hBW.cell (p := ⟨w1.heap.size + 1, 0, none⟩) z3).trans hbx2.out)) belowK_t (belowK_b (by omega)) (Below.refl _ _) (fun _ => rfl)
        (fun pre W => ((pre <+: Nm.all s.toList ∧ W.cell? ⟨w2.heap.size, 0, none⟩ = some (.int .i64 (pre.length : Int)) ∧ W.frozen? ⟨w2.heap.size, 0, none⟩ = false) ∧ Below w2.heap.size w2 W) ∧ W.heap[D]? = some (.deferred (some [])))
        (fun c pre W => c = .ret ∧ ¬ pre <+: Nm.all s.toList)
        (OwnFrom.and (OwnFrom.and (Own.from (fun s A B row hs hg hr => ⟨hs.1, cell_kept hs.2.1 hg hr, (frozen_kept hs.2.1 hg hr).trans hs.2.2⟩) _) (ownFrom_below (Nat.le_refl _) (by omega))) (own_heap8 (by omega)))
        (fun c s A B row hs hg hr => hs)
        ⟨⟨⟨List.nil_prefix, hcW, hfW⟩, hBW⟩, hDW⟩
        _ ?assign2a ?body2a ?done2a ?stop2a
      case assign2a =>
        intro l x W K hK
        unfold encP
        gi_wp2
        exact hK
      case stop2a =>
        rintro D2 c pre W hD hpre ⟨rfl, hno⟩ hK2
        exact absurd hpre hno
      case body2a =>
        clear hB hD2 hbx3 hV hcW hfW hBW hDW
        rintro l pre x W ⟨⟨⟨hpre, hc, hf⟩, hB⟩, hD2⟩ hlt
        have hlt2 : pre.length < (Nm.pieces s.toList).length := by rw [HN.out]; exact hlt
        obtain ⟨p1, p2⟩ := HC.out pre.length hlt2
        rw [← hB.cell (p := ⟨gp, pre.length * 2, none⟩) (Nat.lt_of_lt_of_le hgp (by omega))] at p1
        rw [← hB.cell (p := ⟨gp, pre.length * 2 + 1, none⟩) (Nat.lt_of_lt_of_le hgp (by omega))] at p2
        have q2 := HR.out
        have q3 := HRF.out
        have q4 := HW.out
        rw [← hB.cell (p := ⟨w.heap.size + 1, 0, none⟩) (show w.heap.size + 1 < _ by omega)] at q2
        rw [← hB.frozen (p := ⟨w.heap.size + 1, 0, none⟩) (show w.heap.size + 1 < _ by omega)] at q3
        rw [← hB.cell (p := ⟨w1.heap.size, 0, none⟩) (show w1.heap.size < _ by omega)] at q4
        have k0 : (0 : Int) ≤ (pre.length : Int) := Int.natCast_nonneg _
        have k1 : (pre.length : Int) < ((Nm.pieces s.toList).length : Int) := by omega
        obtain ⟨T, hT⟩ : ∃ T : Nat, Hid (T = Nm.tot ((Nm.pieces s.toList).take pre.length)) := ⟨_, rfl⟩
        rw [← hT.out] at p1
        obtain ⟨X, hX⟩ : ∃ X, Hid (X = (Nm.pieces s.toList)[pre.length]) := ⟨_, show (Nm.pieces s.toList)[pre.length] = _ from rfl⟩
        rw [← hX.out] at p2
        have hnx := Nm.all_next (x := x) hpre hlt2
        rw [← hT.out, ← hX.out] at hnx
        have HX : Hid ((pre ++ [x] <+: Nm.all s.toList) ↔ (T = x.1 ∧ X = x.2)) := hnx
        clear hnx
        show Code.wpIn _ _ _ _ _ _ _
        gi_wp2
        · rename_i h1 h2
          refine ⟨KeepsOthers.setCell _ _ _, rfl, fun h => ?_⟩
          have h3 := (HX.out.1 h).2
          rcases h2 with h2 | h2
          · omega
          · rw [(Nm.S_eq _ _).2 h3] at h2; cases h2
        · rename_i h1 h2
          have h4 : X = x.2 := (Nm.S_eq _ _).1 (by have := h2.2; simpa using this)
          refine ⟨KeepsOthers.setCell _ _ _, (Below.refl w2.heap.size W).setCell (p := ⟨w2.heap.size, 0, none⟩) (Nat.le_refl _) _, ⟨⟨?_, ?_, ?_⟩, hB.setCell (p := ⟨w2.heap.size, 0, none⟩) (Nat.le_refl _) _⟩, (Below.heap_setCell W ⟨w2.heap.size, 0, none⟩ _ D (by show D ≠ w2.heap.size; omega)).trans hD2⟩
          · exact HX.out.2 ⟨by omega, h4⟩
          · rw [World.cell?_setCell_same' _ _ _ (by rw [hc]; rfl), List.length_append]; rfl
          · rw [World.frozen?_setCell]; exact hf
        · rename_i h1
          refine ⟨KeepsOthers.setCell _ _ _, rfl, fun h => ?_⟩
          exact h1 (by rw [(HX.out.1 h).1])
      case done2a =>
        clear hB hD2 hbx3 hV hcW hfW hBW hDW
        rintro D2 ys W hDD rfl ⟨⟨⟨_, hc, hf⟩, hB⟩, hD1⟩ hK2
        rw [← HN.out] at hc
        have q2 := HR.out
        have q3 := HRF.out
        have q4 := HW.out
        rw [← hB.cell (p := ⟨w.heap.size + 1, 0, none⟩) (show w.heap.size + 1 < _ by omega)] at q2
        rw [← hB.frozen (p := ⟨w.heap.size + 1, 0, none⟩) (show w.heap.size + 1 < _ by omega)] at q3
        rw [← hB.cell (p := ⟨w1.heap.size, 0, none⟩) (show w1.heap.size < _ by omega)] at q4
        have hr5 : (W.setCell ⟨w.heap.size + 1, 0, none⟩ (.bool true)).cell? ⟨w.heap.size + 1, 0, none⟩ = some (.bool true) := World.cell?_setCell_same' _ _ _ (by rw [q2]; rfl)
        have hd2 : (W.setCell ⟨w.heap.size + 1, 0, none⟩ (.bool true)).heap[D2]? = some (.deferred (some [])) := (Below.heap_setCell W ⟨w.heap.size + 1, 0, none⟩ _ D2 (by show D2 ≠ w.heap.size + 1; omega)).trans hK2
        have hd1 : (W.setCell ⟨w.heap.size + 1, 0, none⟩ (.bool true)).heap[D]? = some (.deferred (some [])) := (Below.heap_setCell W ⟨w.heap.size + 1, 0, none⟩ _ D (by show D ≠ w.heap.size + 1; omega)).trans hD1
        have hd3 : ((W.setCell ⟨w.heap.size + 1, 0, none⟩ (.bool true)).putObj D2 (.deferred none)).heap[D]? = some (.deferred (some [])) :=
          own_heap8 (β := Unit) (D := D) (B := D + 1) (Nat.lt_succ_self _) () _ _ (some D2) hd1 (grownBy_putObj' _ D2 _) (fun r e => by cases e; exact ⟨by omega, _, hd2, rfl⟩)
        have hr6 := cell_kept hr5 (grownBy_putObj' _ D2 (.deferred none)) (fun r e => by cases e; exact ⟨_, hd2, rfl⟩)
        have hr7 := cell_kept hr6 (grownBy_putObj' _ D (.deferred none)) (fun r e => by cases e; exact ⟨_, hd3, rfl⟩)
        have hB5 : Below w.heap.size w (W.setCell ⟨w.heap.size + 1, 0, none⟩ (.bool true)) := (HB0.out.trans (hB.mono (by omega))).setCell (p := ⟨w.heap.size + 1, 0, none⟩) (by simp) _
        have hB6 := hB5.trans (belowK_b (w := w) (Nat.le_refl _) _ D2 _ (.deferred none) (by omega) hd2 rfl rfl)
        have hB7 := hB6.trans (belowK_b (w := w) (Nat.le_refl _) _ D _ (.deferred none) (by omega) hd3 rfl rfl)
        gi_wp2
        refine ⟨by simp, .inl ⟨_, _, rfl, run_takeDeferred hd2, ?_⟩⟩
        refine ⟨by simp, .inl ⟨_, _, rfl, run_takeDeferred hd3, ?_⟩⟩
        refine ⟨.bool true, ?_, rfl, hB7⟩
        simp [results, Try.f5, go_sem, hr7]
    · clear q1 q2 q3 q4 hor hc hf
      obtain ⟨V, hV⟩ : ∃ V, V = W.setCell ⟨w2.heap.size, 0, none⟩ (.int .i64 0) := ⟨_, rfl⟩
      rw [← hV] at hcW hfW hBW hDW hszW ⊢
      have hVB : w2.heap.size < V.heap.size := block_lt_of_cell hcW
      refine' wpIn_rangeFunc_ownF rfl (by omega) (gf := 29) (lb := #[.pointer (some ⟨w1.heap.size + 1, 0, none⟩)]) rfl trivial (enters_of Try.func29 (by kernel_rfl) rfl)
        (each_stops 9 (by omega) (w1.heap.size + 1) w2.heap.size s (by omega) z3 V ((hBW.cell (p := ⟨w1.heap.size + 1, 0, none⟩) z3).trans hbx2.out)) belowK_t (belowK_b (by omega)) (Below.refl _ _) (fun _ => rfl)
        (fun pre W => ((pre <+: Nm.all s.toList ∧ W.cell? ⟨w2.heap.size, 0, none⟩ = some (.int .i64 (pre.length : Int)) ∧ W.frozen? ⟨w2.heap.size, 0, none⟩ = false) ∧ Below w2.heap.size w2 W) ∧ W.heap[D]? = some (.deferred (some [])))
        (fun c pre W => c = .ret ∧ ¬ pre <+: Nm.all s.toList)
        (OwnFrom.and (OwnFrom.and (Own.from (fun s A B row hs hg hr => ⟨hs.1, cell_kept hs.2.1 hg hr, (frozen_kept hs.2.1 hg hr).trans hs.2.2⟩) _) (ownFrom_below (Nat.le_refl _) (by omega))) (own_heap8 (by omega)))
        (fun c s A B row hs hg hr => hs)
        ⟨⟨⟨List.nil_prefix, hcW, hfW⟩, hBW⟩, hDW⟩
        _ ?assign2b ?body2b ?done2b ?stop2b
      case assign2b =>
        intro l x W K hK
        unfold encP
        gi_wp2
        exact hK
      case stop2b =>
        rintro D2 c pre W hD hpre ⟨rfl, hno⟩ hK2
        exact absurd hpre hno
      case body2b =>
        clear hB hD2 hbx3 hV hcW hfW hBW hDW
        rintro l pre x W ⟨⟨⟨hpre, hc, hf⟩, hB⟩, hD2⟩ hlt
        have hlt2 : pre.length < (Nm.pieces s.toList).length := by rw [HN.out]; exact hlt
        obtain ⟨p1, p2⟩ := HC.out pre.length hlt2
        rw [← hB.cell (p := ⟨gp, pre.length * 2, none⟩) (Nat.lt_of_lt_of_le hgp (by omega))] at p1
        rw [← hB.cell (p := ⟨gp, pre.length * 2 + 1, none⟩) (Nat.lt_of_lt_of_le hgp (by omega))] at p2
        have q2 := HR.out
        have q3 := HRF.out
        have q4 := HW.out
        rw [← hB.cell (p := ⟨w.heap.size + 1, 0, none⟩) (show w.heap.size + 1 < _ by omega)] at q2
        rw [← hB.frozen (p := ⟨w.heap.size + 1, 0, none⟩) (show w.heap.size + 1 < _ by omega)] at q3
        rw [← hB.cell (p := ⟨w1.heap.size, 0, none⟩) (show w1.heap.size < _ by omega)] at q4
        have k0 : (0 : Int) ≤ (pre.length : Int) := Int.natCast_nonneg _
        have k1 : (pre.length : Int) < ((Nm.pieces s.toList).length : Int) := by omega
        obtain ⟨T, hT⟩ : ∃ T : Nat, Hid (T = Nm.tot ((Nm.pieces s.toList).take pre.length)) := ⟨_, rfl⟩
        rw [← hT.out] at p1
        obtain ⟨X, hX⟩ : ∃ X, Hid (X = (Nm.pieces s.toList)[pre.length]) := ⟨_, show (Nm.pieces s.toList)[pre.length] = _ from rfl⟩
        rw [← hX.out] at p2
        have hnx := Nm.all_next (x := x) hpre hlt2
        rw [← hT.out, ← hX.out] at hnx
        have HX : Hid ((pre ++ [x] <+: Nm.all s.toList) ↔ (T = x.1 ∧ X = x.2)) := hnx
        clear hnx
        show Code.wpIn _ _ _ _ _ _ _
        gi_wp2
        · rename_i h1 h2
          refine ⟨KeepsOthers.setCell _ _ _, rfl, fun h => ?_⟩
          have h3 := (HX.out.1 h).2
          rcases h2 with h2 | h2
          · omega
          · rw [(Nm.S_eq _ _).2 h3] at h2; cases h2
        · rename_i h1 h2
          have h4 : X = x.2 := (Nm.S_eq _ _).1 (by have := h2.2; simpa using this)
          refine ⟨KeepsOthers.setCell _ _ _, (Below.refl w2.heap.size W).setCell (p := ⟨w2.heap.size, 0, none⟩) (Nat.le_refl _) _, ⟨⟨?_, ?_, ?_⟩, hB.setCell (p := ⟨w2.heap.size, 0, none⟩) (Nat.le_refl _) _⟩, (Below.heap_setCell W ⟨w2.heap.size, 0, none⟩ _ D (by show D ≠ w2.heap.size; omega)).trans hD2⟩
          · exact HX.out.2 ⟨by omega, h4⟩
          · rw [World.cell?_setCell_same' _ _ _ (by rw [hc]; rfl), List.length_append]; rfl
          · rw [World.frozen?_setCell]; exact hf
        · rename_i h1
          refine ⟨KeepsOthers.setCell _ _ _, rfl, fun h => ?_⟩
          exact h1 (by rw [(HX.out.1 h).1])
      case done2b =>
        clear hB hD2 hbx3 hV hcW hfW hBW hDW
        rintro D2 ys W hDD rfl ⟨⟨⟨_, hc, hf⟩, hB⟩, hD1⟩ hK2
        rw [← HN.out] at hc
        have q2 := HR.out
        have q3 := HRF.out
        have q4 := HW.out
        rw [← hB.cell (p := ⟨w.heap.size + 1, 0, none⟩) (show w.heap.size + 1 < _ by omega)] at q2
        rw [← hB.frozen (p := ⟨w.heap.size + 1, 0, none⟩) (show w.heap.size + 1 < _ by omega)] at q3
        rw [← hB.cell (p := ⟨w1.heap.size, 0, none⟩) (show w1.heap.size < _ by omega)] at q4
        have hr5 : (W.setCell ⟨w.heap.size + 1, 0, none⟩ (.bool true)).cell? ⟨w.heap.size + 1, 0, none⟩ = some (.bool true) := World.cell?_setCell_same' _ _ _ (by rw [q2]; rfl)
        have hd2 : (W.setCell ⟨w.heap.size + 1, 0, none⟩ (.bool true)).heap[D2]? = some (.deferred (some [])) := (Below.heap_setCell W ⟨w.heap.size + 1, 0, none⟩ _ D2 (by show D2 ≠ w.heap.size + 1; omega)).trans hK2
        have hd1 : (W.setCell ⟨w.heap.size + 1, 0, none⟩ (.bool true)).heap[D]? = some (.deferred (some [])) := (Below.heap_setCell W ⟨w.heap.size + 1, 0, none⟩ _ D (by show D ≠ w.heap.size + 1; omega)).trans hD1
        have hd3 : ((W.setCell ⟨w.heap.size + 1, 0, none⟩ (.bool true)).putObj D2 (.deferred none)).heap[D]? = some (.deferred (some [])) :=
          own_heap8 (β := Unit) (D := D) (B := D + 1) (Nat.lt_succ_self _) () _ _ (some D2) hd1 (grownBy_putObj' _ D2 _) (fun r e => by cases e; exact ⟨by omega, _, hd2, rfl⟩)
        have hr6 := cell_kept hr5 (grownBy_putObj' _ D2 (.deferred none)) (fun r e => by cases e; exact ⟨_, hd2, rfl⟩)
        have hr7 := cell_kept hr6 (grownBy_putObj' _ D (.deferred none)) (fun r e => by cases e; exact ⟨_, hd3, rfl⟩)
        have hB5 : Below w.heap.size w (W.setCell ⟨w.heap.size + 1, 0, none⟩ (.bool true)) := (HB0.out.trans (hB.mono (by omega))).setCell (p := ⟨w.heap.size + 1, 0, none⟩) (by simp) _
        have hB6 := hB5.trans (belowK_b (w := w) (Nat.le_refl _) _ D2 _ (.deferred none) (by omega) hd2 rfl rfl)
        have hB7 := hB6.trans (belowK_b (w := w) (Nat.le_refl _) _ D _ (.deferred none) (by omega) hd3 rfl rfl)
        gi_wp2
        refine ⟨by simp, .inl ⟨_, _, rfl, run_takeDeferred hd2, ?_⟩⟩
        refine ⟨by simp, .inl ⟨_, _, rfl, run_takeDeferred hd3, ?_⟩⟩
        refine ⟨.bool true, ?_, rfl, hB7⟩
        simp [results, Try.f5, go_sem, hr7]
  refine wpIn_rangeFunc_ownF rfl (by omega) (gf := 29) (lb := #[.pointer (some ⟨w1.heap.size + 1, 0, none⟩)]) rfl trivial (enters_of Try.func29 (by kernel_rfl) rfl)
    (each_stops 9 (by omega) (w1.heap.size + 1) w2.heap.size s (by omega) z3 _ (kept_cell8 _ hbx2.out)) belowK_t (belowK_b (by simp)) (Below.refl _ _) (fun _ => rfl)
    (fun pre W => (pre <+: Nm.all s.toList ∧ W.cell? ⟨w2.heap.size, 0, none⟩ = some (.int .i64 (pre.length : Int)) ∧ W.frozen? ⟨w2.heap.size, 0, none⟩ = false) ∧ Below w2.heap.size w2 W)
    (fun c pre W => ((c = .ret ∧ ¬ pre <+: Nm.all s.toList) ∨ (c = .exit 0 ∧ (pre.length : Int) = stop ∧ W.cell? ⟨w2.heap.size, 0, none⟩ = some (.int .i64 (pre.length : Int)) ∧ W.frozen? ⟨w2.heap.size, 0, none⟩ = false ∧ Below w2.heap.size w2 W)))
    (OwnFrom.and (Own.from (fun s A B row hs hg hr => ⟨hs.1, cell_kept hs.2.1 hg hr, (frozen_kept hs.2.1 hg hr).trans hs.2.2⟩) _) (ownFrom_below (Nat.le_refl _) (by simp)))
    (fun c s A B row hs hg hr => hs.imp id (fun h => ⟨h.1, h.2.1, cell_kept h.2.2.1 hg (fun r e => (hr r e).2), (frozen_kept h.2.2.1 hg (fun r e => (hr r e).2)).trans h.2.2.2.1, ownFrom_below (Nat.le_refl _) (by simp) s A B row h.2.2.2.2 hg hr⟩))
    ⟨⟨List.nil_prefix, c3.1, c3.2⟩, (Below.refl _ w2).alloc (Nat.le_refl _) _⟩
    (fun x => { tmps := #[.string s, .int .i64 stop, undef, .pointer (some ⟨w.heap.size, 0, none⟩), .pointer (some ⟨w.heap.size + 1, 0, none⟩), .pointer (some ⟨w1.heap.size, 0, none⟩), .func (.func 29) #[] #[.pointer (some ⟨w1.heap.size + 1, 0, none⟩)], .pointer (some ⟨w2.heap.size, 0, none⟩), .int .i64 (x.1 : Int), .string (Nm.S x.2), undef, undef, .string s, .slice (some ⟨gp, 0, none⟩) (Nm.pieces s.toList).length cp, .string s, .func (.func 29) #[] #[.pointer (some ⟨w1.heap.size + 1, 0, none⟩)], .func (.func 29) #[] #[.pointer (some ⟨w1.heap.size + 1, 0, none⟩)], .bool false, .func (.func 29) #[] #[.pointer (some ⟨w1.heap.size + 1, 0, none⟩)], .int .i64 (x.1 : Int), .string (Nm.S x.2), undef, undef, undef, undef, undef, undef, undef, undef, undef, undef, undef, undef, undef, undef, undef, undef, undef, undef, undef, undef, undef, undef, undef, undef, undef, undef, undef, undef, undef, undef, undef, undef, undef, undef, undef, undef, undef, undef, undef, undef, undef, undef, undef, undef, undef, undef, undef, undef, undef, undef, undef, undef, undef, undef, undef, undef, undef, undef, undef, undef, undef, undef, undef, undef, undef, undef, undef], defers := [] }) ?assign ?body ?done ?stop
  case assign =>
    intro l x W K hK
    unfold encP
    gi_wp2
    exact hK
  case done =>
    rintro D ys W hD rfl ⟨⟨_, hc, hf⟩, hB⟩ hK2
    exact hcont D _ W (by simpa using hD) hK2 hB (Nat.le_of_eq HN.out.symm) hc hf (.inl HN.out.symm)
  case stop =>
    rintro D c pre W hD hpre (⟨rfl, hno⟩ | ⟨rfl, hst, hc, hf, hB⟩) hK2
    · exact absurd hpre hno
    · gi_wp2
      exact hcont D _ W (by simpa using hD) hK2 hB (by rw [HN.out]; exact hpre.length_le) hc hf (.inr hst)
  case body =>
    rintro l pre x W ⟨⟨hpre, hc, hf⟩, hB⟩ hlt
    have hlt2 : pre.length < (Nm.pieces s.toList).length := by rw [HN.out]; exact hlt
    obtain ⟨p1, p2⟩ := HC.out pre.length hlt2
    rw [← hB.cell (p := ⟨gp, pre.length * 2, none⟩) (Nat.lt_of_lt_of_le hgp (by omega))] at p1
    rw [← hB.cell (p := ⟨gp, pre.length * 2 + 1, none⟩) (Nat.lt_of_lt_of_le hgp (by omega))] at p2
    have q1 := HS.out
    have q2 := HR.out
    have q3 := HRF.out
    have q4 := HW.out
    rw [← hB.cell (p := ⟨w.heap.size, 0, none⟩) (show w.heap.size < _ by omega)] at q1
    rw [← hB.cell (p := ⟨w.heap.size + 1, 0, none⟩) (show w.heap.size + 1 < _ by omega)] at q2
    rw [← hB.frozen (p := ⟨w.heap.size + 1, 0, none⟩) (show w.heap.size + 1 < _ by omega)] at q3
    rw [← hB.cell (p := ⟨w1.heap.size, 0, none⟩) (show w1.heap.size < _ by omega)] at q4
    have k0 : (0 : Int) ≤ (pre.length : Int) := Int.natCast_nonneg _
    have k1 : (pre.length : Int) < ((Nm.pieces s.toList).length : Int) := by omega
    have k2 := HNB.out
    obtain ⟨T, hT⟩ : ∃ T : Nat, Hid (T = Nm.tot ((Nm.pieces s.toList).take pre.length)) := ⟨_, rfl⟩
    rw [← hT.out] at p1
    obtain ⟨X, hX⟩ : ∃ X, Hid (X = (Nm.pieces s.toList)[pre.length]) := ⟨_, show (Nm.pieces s.toList)[pre.length] = _ from rfl⟩
    rw [← hX.out] at p2
    have hnx := Nm.all_next (x := x) hpre hlt2
    rw [← hT.out, ← hX.out] at hnx
    have HX : Hid ((pre ++ [x] <+: Nm.all s.toList) ↔ (T = x.1 ∧ X = x.2)) := hnx
    clear hnx
    gi_wp2
    · rename_i h1 h2
      refine ⟨KeepsOthers.setCell _ _ _, .inl ⟨rfl, fun h => ?_⟩⟩
      have h3 := (HX.out.1 h).2
      rcases h2 with h2 | h2
      · omega
      · rw [(Nm.S_eq _ _).2 h3] at h2; cases h2
    · rename_i h1 h2 h3
      have h4 : X = x.2 := (Nm.S_eq _ _).1 (by have := h2.2; simpa using this)
      refine ⟨KeepsOthers.setCell _ _ _, .inr ⟨rfl, ?_, ?_, ?_, hB.setCell (p := ⟨w2.heap.size, 0, none⟩) (Nat.le_refl _) _⟩⟩
      · rw [List.length_append]; have := eq_of_beq h3; simp; exact this
      · rw [World.cell?_setCell_same' _ _ _ (by rw [hc]; rfl), List.length_append]; rfl
      · rw [World.frozen?_setCell]; exact hf
    · rename_i h1 h2 h3
      have h4 : X = x.2 := (Nm.S_eq _ _).1 (by have := h2.2; simpa using this)
      refine ⟨KeepsOthers.setCell _ _ _, (Below.refl w2.heap.size W).setCell (p := ⟨w2.heap.size, 0, none⟩) (Nat.le_refl _) _, ⟨?_, ?_, ?_⟩, hB.setCell (p := ⟨w2.heap.size, 0, none⟩) (Nat.le_refl _) _⟩
      · exact HX.out.2 ⟨by omega, h4⟩
      · rw [World.cell?_setCell_same' _ _ _ (by rw [hc]; rfl), List.length_append]; rfl
      · rw [World.frozen?_setCell]; exact hf
    · rename_i h1
      refine ⟨KeepsOthers.setCell _ _ _, .inl ⟨rfl, fun h => ?_⟩⟩
      exact h1 (by rw [(HX.out.1 h).1])
theorem walk (s0 : ByteArray) (a1 : Int) (w : World) (w0 : s0.size ≤ 1048576) (w1 : (Lit.int .i64 a1).wf = true) :
    Calls Try.prog 5 #[.string s0, .int .i64 a1] w fun e w' => e = .returned (.bool true) ∧ Below w.heap.size w w' := by
  exact callsIn_wide.1 (each_law s0 a1 w0 w)

set_option maxRecDepth 100000 in
theorem lifted (os : Os) (started : os.Started) (H : Type) (enc : TypeId × Value → H) (F : Stop.Interp) :
    ReturnsInHanded {} Try.checked os 5 .any ((Rows.OpenSpec.upto Rows.nameEachSpec).pre6 enc Try.prog Try.f5 Rows.nameEachUptoRow.domain false) (((Rows.OpenSpec.upto Rows.nameEachSpec).at F).post enc Try.prog Try.f5 false true false false) := by
  refine returnsInHanded_of_cond_sized (C := Try.checked) (s := Rows.OpenSpec.upto Rows.nameEachSpec) (k := Rows.uptoSmall) rfl own started (by kernel_rfl) Try.func5
    (OpenSpec.witness (enc := enc) (C := Try.checked) (s := Rows.OpenSpec.upto Rows.nameEachSpec) (k := Rows.uptoSmall) rfl false ⟨#[], #[.string .empty, .int .i64 0], []⟩ 8 (by kernel_rfl) (by kernel_rfl) (by kernel_rfl) (x := ([.lit (.string []), .lit (.int .i64 0)], [], [])) (by kernel_rfl) rfl (by kernel_rfl)) ?_
  intro W base args ds gs before hval0 hW hcnd hk0 hsz0 _
  have hval : ∀ (j : Nat) t v, Try.f5.params[j]? = some t → args[j]? = some v → Value.okWide Try.prog W .any base t v := hval0
  have hW1 : DataW.Whole enc Try.prog Try.f5.params.toList Rows.nameEachSpec.vars false W args.toList ds gs before := hW
  have hW' := hW1
  obtain ⟨p, q, hA0, hV, rfl, hfz, hnd⟩ := hW1
  have hA : DataW.TrodAll enc Try.prog W 0 (fun _ => true) true Try.f5.params.toList args.toList ds p := hA0
  have hsz : (DataW.weightsEach Try.prog (Try.f5.params.toList ++ Rows.nameEachSpec.plain.varTypes Try.prog) (ds ++ gs)).all (· ≤ reachBytes) = true := hsz0
  rw [Try.params5] at hA hval hsz
  obtain ⟨v0, vs0, d0, ds0, p0, q0, hargs, rfl, rfl, h0, r0⟩ := trodAll_cons hA
  obtain ⟨v1, vs1, d1, ds1, p1, q1, rfl, rfl, rfl, h1, r1⟩ := trodAll_cons r0
  obtain ⟨rfl, rfl, rfl⟩ := trodAll_nil r1
  obtain rfl : args = #[v0, v1] := by cases args; simp_all
  obtain ⟨rfl, rfl⟩ := trodVars_none hV
  have hk := hk0
  simp only [List.append_nil] at hk
  have k0 := h0
  have lt0 : ∀ x ∈ p0, x.block < W.heap.size := by obtain ⟨m, hm⟩ := k0; exact DataW.trod_lt m _ _ _ hm
  obtain ⟨s0, rfl, rfl, w0x⟩ := open_str (hval 0 9 v0 rfl rfl) h0 (fun x hx => by simpa using List.all_eq_true.1 hsz x (DataW.weights_mem_each (j := 0) (t := 9) rfl rfl x hx))
  have w0 := upto_str (s := s0) (by simp) hk
  obtain ⟨a1, rfl, rfl, rfl, w1⟩ := open_int Try.underlying3 (hval 1 3 v1 rfl rfl) h1
  clear hA0 hval0
  refine (walk s0 a1 W w0 w1).mono fun e W' ⟨he, bel⟩ => ?_
  subst he
  refine ⟨_, rfl, ?_⟩
  show Rows.nameEachSpec.post enc Try.prog Try.f5 false true false false _ _ _ _
  exact ⟨_, _, _, [], _, [], hW', trodAll_mk1 (shut_bool Try.underlying4 _), (trodAll_cons_mk (Below.trod laidOut (by kernel_rfl) (of_decide_eq_true (by kernel_rfl)) k0 bel lt0) (trodAll_cons_mk (shut_int Try.underlying3 w1) trodAll_mk0)), rfl, bel.frame _, fun h => by cases h⟩

theorem proved : Rows.NameEachUptoSaid :=
  OpenClaim.holds_of_cond 5 Try.f5 rfl rfl rfl rfl rfl rfl rfl ⟨rfl, rfl, rfl, rfl, rfl⟩ rfl rfl rfl rfl rfl (by kernel_rfl) Try.func5 (by kernel_rfl)
    (of_decide_eq_true (by kernel_rfl)) (by unfold Func.isWrapper; first | (rw [if_pos (by decide +kernel)]; kernel_rfl) | (rw [if_neg (by decide +kernel)]; exact ⟨rfl, rfl⟩))
    (fun os started H enc _ F => lifted os started H enc F)
#print axioms proved
end Go.Proofs.Ytpkdnockbbppiaa.nameEach
