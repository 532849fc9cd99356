/- Layer 16: what the program's calls answer and leave. -/
import Derived.Test.YtfdfkhmaeeonpaaRl
import Derived.Test.YtfdfkhmaeeonpaaRm
namespace Go.Proofs.Ytfdfkhmaeeonpaa
open Go.RowKit Go.Deep
set_option linter.unusedVariables false
set_option linter.unusedSimpArgs false

def NewEnds (n : Int) (w : World) (e : Ending) (w' : World) : Prop :=
  (n < 0 ∧ e = .returned (.tuple #[.pointer none, .int .i64 1]) ∧ Bw w w') ∨ (65536 < n ∧ e = .returned (.tuple #[.pointer none, .int .i64 2]) ∧ Bw w w') ∨
  ∃ N g b c : Nat, n = (N : Int) ∧ N ≤ 65536 ∧ e = .returned (.tuple #[.pointer (some ⟨g, 0, none⟩), .int .i64 0]) ∧ SpAt w' g N b c (Sp.wc [(0, N)]) ∧ w.heap.size ≤ g ∧ w.heap.size ≤ b ∧ Bw w w'
theorem Sp.wc_new (N : Nat) : Sp.Norm N (Sp.wc [(0, N)]) := by
  unfold Sp.wc
  rw [List.filter_cons]
  split
  · rename_i h
    have h0 : N ≠ 0 := by simpa using h
    exact ⟨fun r hr => by simp at hr; subst hr; exact ⟨by show 1 ≤ N; omega, by show 0 + N ≤ N; omega⟩, List.pairwise_singleton _ _⟩
  · exact Sp.Norm.nil N
theorem SpEnds.after {g n b : Nat} {M : List Sp.Rn} {w u w' : World} (h : SpEnds g n b M u w') (k : Bw w u) : SpEnds g n b M w w' := by
  obtain ⟨b', c', h1, h2, h3⟩ := h
  exact ⟨b', c', h1, h2.imp id (fun h => Nat.le_trans k.size h), (Bx.of_bw k).trans h3⟩
set_option maxRecDepth 100000 in
set_option maxHeartbeats 1000000 in
theorem snew_any (n : Int) (w : World) : Calls Try.prog 8 #[.int .i64 n] w fun e w' => NewEnds n w e w' := by
  by_cases h1 : n < 0
  · have d1 : decide (n < 0) = true := by rw [decide_eq_true_eq]; exact h1
    have HE : Hid (NewEnds n w (.returned (.tuple #[.pointer none, .int .i64 1])) w) := .inl ⟨h1, rfl, Bw.refl w⟩
    clear h1
    go_enter Try.func8, Try.ntmps8
    go_wp2
    go_ret2
    exact HE.out
  · have d1 : decide (n < 0) = false := by rw [decide_eq_false_iff_not]; exact h1
    by_cases h2 : 65536 < n
    · have d2 : decide (65536 < n) = true := by rw [decide_eq_true_eq]; exact h2
      have HE : Hid (NewEnds n w (.returned (.tuple #[.pointer none, .int .i64 2])) w) := .inr (.inl ⟨h2, rfl, Bw.refl w⟩)
      clear h1 h2
      go_enter Try.func8, Try.ntmps8
      go_wp2
      go_ret2
      exact HE.out
    · obtain ⟨N, rfl⟩ : ∃ N : Nat, n = (N : Int) := ⟨n.toNat, by omega⟩
      have hN : N ≤ 65536 := by omega
      have d2 : decide (65536 < (N : Int)) = false := by rw [decide_eq_false_iff_not]; omega
      obtain ⟨m, hm⟩ : ∃ m, Hid ((Sp.wc [(0, N)]).length = m) := ⟨_, rfl⟩
      have HW : Hid (∀ u, Calls Try.prog 22 #[.slice (some ⟨u.heap.size, 0, none⟩) 1 1] (u.alloc (.cells #[.int .i64 0, .int .i64 (N : Int)] 48)) fun e w' => e = .returned (.slice (some ⟨u.heap.size, 0, none⟩) m 1) ∧ Hid (RB w' 48 u.heap.size 1 (Sp.wc [(0, N)])) ∧ Bw u w') := fun u => by
        refine (withcells_any u.heap.size 1 [(0, N)] (by simp) _ (rb_new1 u (0, N))).mono ?_
        rintro e w' ⟨rfl, h1, h2⟩
        rw [hm.out]
        exact ⟨rfl, h1, Below.trans (Bw.alloc16x u _) (h2.below (by rw [size_alloc]; omega) (fun y hy => Nat.le_of_eq (Eq.symm hy)))⟩
      have HF : Hid (∀ w1 : World, RB w1 48 w.heap.size 1 (Sp.wc [(0, N)]) → Bw w w1 → NewEnds (N : Int) w (.returned (.tuple #[.pointer (some ⟨w1.heap.size, 0, none⟩), .int .i64 0])) (w1.alloc (.cells #[.int .i64 (N : Int), .slice (some ⟨w.heap.size, 0, none⟩) m 1] 50))) := fun w1 hR hb => by
        refine .inr (.inr ⟨N, w1.heap.size, w.heap.size, 1, rfl, hN, rfl, ⟨?_, hR.keep (Bw.alloc16x w1 _), Sp.wc_new N, hN⟩, hb.size, Nat.le_refl _, bw_alloc16 hb _⟩)
        rw [hm.out]
        exact (Go.MapKept.heap_alloc w1 _).1
      clear h1 h2 hN
      go_enter Try.func8, Try.ntmps8
      go_wp2_with (go_at_call 22; refine (HW.out _).mono ?_; rintro e w1 ⟨rfl, hR, hb1⟩)
      go_ret2
      exact HF.out _ hR.out hb1
def TakeEnds (g n b : Nat) (L : List Sp.Rn) (k : Int) (w : World) (e : Ending) (w' : World) : Prop :=
  (k < 1 ∧ e = .returned (.tuple #[.int .i64 0, .int .i64 1]) ∧ Bw w w') ∨ (∃ K : Nat, k = (K : Int) ∧ 1 ≤ K ∧ (∀ y, ¬ Sp.AllFree L y K) ∧ e = .returned (.tuple #[.int .i64 0, .int .i64 3]) ∧ Bw w w') ∨
  ∃ (K x : Nat) (M : List Sp.Rn), k = (K : Int) ∧ 1 ≤ K ∧ Sp.Place L K x ∧ x + K ≤ n ∧ e = .returned (.tuple #[.int .i64 (x : Int), .int .i64 0]) ∧ SpEnds g n b M w w' ∧ ∀ j, Sp.cov M j + Sp.inr (x, K) j = Sp.cov L j
set_option maxRecDepth 100000 in
theorem stake_nil (k : Int) (w : World) : Calls Try.prog 10 #[.pointer none, .int .i64 k] w fun e w' => e = .returned (.tuple #[.int .i64 0, .int .i64 8]) ∧ Bw w w' := by
  go_enter Try.func10, Try.ntmps10
  go_wp2
  go_ret2
  exact ⟨rfl, Bw.refl _⟩
set_option maxRecDepth 100000 in
set_option maxHeartbeats 1000000 in
theorem stake_any {w : World} {g n b c : Nat} {L : List Sp.Rn} (hs : SpAt w g n b c L) (k : Int) : Calls Try.prog 10 #[.pointer (some ⟨g, 0, none⟩), .int .i64 k] w fun e w' => TakeEnds g n b L k w e w' := by
  by_cases h1 : k < 1
  · have d1 : decide (k < 1) = true := by rw [decide_eq_true_eq]; exact h1
    have HE : Hid (TakeEnds g n b L k w (.returned (.tuple #[.int .i64 0, .int .i64 1])) w) := .inl ⟨h1, rfl, Bw.refl w⟩
    clear h1 hs
    go_enter Try.func10, Try.ntmps10
    go_wp2
    go_ret2
    exact HE.out
  · obtain ⟨K, rfl⟩ : ∃ K : Nat, k = (K : Int) := ⟨k.toNat, by omega⟩
    have hK : 1 ≤ K := by omega
    have d1 : decide ((K : Int) < 1) = false := by rw [decide_eq_false_iff_not]; exact h1
    have hfew := hs.few
    have HI := index_fits 0 (K : Int) (some ⟨b, 0, none⟩) c L (by omega) w hs.row.src0
    have hn1 := hs.n1
    rcases Sp.idx_cases L (fun r : Sp.Rn => decide ((K : Int) ≤ (r.2 : Int))) with ⟨e1, e2⟩ | ⟨i, r, e1, e2, e3, e4⟩
    · have HE : Hid (∀ w', Bw w w' → TakeEnds g n b L (K : Int) w (.returned (.tuple #[.int .i64 0, .int .i64 3])) w') := fun w' kb => .inr (.inl ⟨K, rfl, hK, Sp.place_none hs.norm hK (fun r hr => by have := e2 r hr; simp at this; omega), rfl, kb⟩)
      rw [e1] at HI
      have c1 := hs.c1
      obtain ⟨m, hm⟩ : ∃ m, Hid (L.length = m) := ⟨_, rfl⟩
      rw [hm.out] at HI c1
      clear hs e1 e2 hfew hn1 hK h1
      go_enter Try.func10, Try.ntmps10
      go_wp2_with (go_at_call 23; refine HI.mono ?_; rintro e w1 ⟨rfl, hb1⟩)
      go_ret2
      exact HE.out _ hb1
    · have hKr : K ≤ r.2 := by have := e3; simp at this; omega
      have hno : ∀ (j : Nat) (q : Sp.Rn), j < i → L[j]? = some q → q.2 < K := fun j q hj hq => by have := e4 j q hj hq; simp at this; omega
      have hri := hs.norm.ok r (List.mem_of_getElem? e2)
      obtain ⟨hcN, hcov⟩ := Sp.cut_at hs.norm e2 (x := r.1) (k := K) (Nat.le_refl _) (by omega) hK
      have HCut : Hid (∀ u, Bw w u → Calls Try.prog 25 #[.pointer (some ⟨g, 0, none⟩), .int .i64 (i : Int), .agg #[.int .i64 (r.1 : Int), .int .i64 (K : Int)]] u fun e w' => e = .returned (.tuple #[]) ∧ TakeEnds g n b L (K : Int) w (.returned (.tuple #[.int .i64 (r.1 : Int), .int .i64 0])) w') := fun u ku => by
        refine (cut_any (hs.keep ku) e2 r.1 K (Nat.le_refl _) (by omega) hK).mono ?_
        rintro e w' ⟨rfl, hh⟩
        exact ⟨rfl, .inr (.inr ⟨K, r.1, _, rfl, hK, Sp.place_first hs.norm hK e2 hKr hno, by omega, rfl, hh.after ku, hcov⟩)⟩
      rw [e1] at HI
      have HC : Hid (∀ v, Bw w v → v.cell? ⟨g, 1, none⟩ = some (.slice (some ⟨b, 0, none⟩) L.length c) ∧ v.cell? ⟨b, i * 2, none⟩ = some (.int .i64 (r.1 : Int))) := fun v kv => ⟨(hs.keep kv).c1, ((hs.keep kv).row.cells e2).1⟩
      have c1 := (HC.out w (Bw.refl w)).1
      have hil := (List.getElem?_eq_some_iff.1 e2).1
      obtain ⟨m, hm⟩ : ∃ m, Hid (L.length = m) := ⟨_, rfl⟩
      rw [hm.out] at HI c1 hil HC
      have i0 : (0 : Int) ≤ (i : Int) := Int.natCast_nonneg _
      have i1 : (i : Int) < (m : Int) := by omega
      have d3 : decide ((i : Int) < 0) = false := by rw [decide_eq_false_iff_not]; omega
      clear hs e1 e2 e3 e4 hfew hn1 hK h1 hKr hno hri hcN hcov
      go_enter Try.func10, Try.ntmps10
      go_wp2_with (first
        | (go_at_call 23; refine HI.mono ?_; rintro e w1 ⟨rfl, hb1⟩; obtain ⟨z1, z2⟩ := HC.out _ hb1)
        | (go_at_call 25; refine (HCut.out _ hb1).mono ?_; rintro e w2 ⟨rfl, hh⟩; have hh : Hid _ := hh))
      go_ret2
      exact hh.out
end Go.Proofs.Ytfdfkhmaeeonpaa
