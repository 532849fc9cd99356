/- Layer 19: two datagrams compared. -/
import Derived.Test.YtjjnbpbbjaabeaaTm
namespace Go.Proofs.Ytjjnbpbbjaabeaa
open Go.RowKit Go.Deep
set_option linter.unusedVariables false
set_option linter.unusedSimpArgs false

/-- are two datagrams one -/
def Ai.eqb (d e : Ai.Dg) : Bool := decide (d.src = e.src) && decide (d.dst = e.dst) && decide (d.b = e.b)
theorem rows_eq {w : World} {v v' : Value} {l l' : List Nat} (h : RowV w v l) (h' : RowV w v' l') : (str (rowL l) l.length).toList = (str (rowL l') l'.length).toList ↔ l = l' := by
  obtain ⟨A, c, _, _, _, _, h4⟩ := h
  obtain ⟨A', c', _, _, _, _, h4'⟩ := h'
  rw [str_inj h4.2 h4'.2]
  constructor
  · rintro ⟨h1, h2⟩
    rw [← datF_rowL l, ← datF_rowL l', h1]
    exact datF_congr (fun i hi => h2 i (by omega))
  · rintro rfl
    exact ⟨rfl, fun _ _ => rfl⟩
theorem conv_v {w : World} {v : Value} {l : List Nat} (h : RowV w v l) : (convert 33 9 v).run Try.prog w = .ok (.string (str (rowL l) l.length)) w := by
  obtain ⟨A, c, rfl, _, _, _, h4⟩ := h
  exact conv_row h4
set_option maxRecDepth 100000 in
set_option maxHeartbeats 4000000 in
theorem same19_any {w : World} (d e : Ai.Dg) {v u : Value} (hv : RowV w v d.b) (hu : RowV w u e.b) :
    Calls Try.prog 17 #[.agg #[.int .i64 d.src, .int .i64 d.dst, v], .agg #[.int .i64 e.src, .int .i64 e.dst, u]] w fun x w' => x = .returned (.bool (Ai.eqb d e)) ∧ Bw w w' := by
  obtain ⟨x1, y1, l1⟩ := d
  obtain ⟨x2, y2, l2⟩ := e
  have HC : Hid (∀ W, Bw w W → (convert 33 9 v).run Try.prog W = .ok (.string (str (rowL l1) l1.length)) W ∧ (convert 33 9 u).run Try.prog W = .ok (.string (str (rowL l2) l2.length)) W) := fun W k => ⟨conv_v (hv.keep k), conv_v (hu.keep k)⟩
  have hEq := rows_eq hv hu
  dsimp only at hEq
  have k2 : Bw w ((w.alloc (.cells #[.int .i64 x1, .int .i64 y1, v] 35)).alloc (.cells #[.int .i64 x2, .int .i64 y2, u] 35)) := bw_allocx (bw_allocx (Bw.refl _))
  unfold Ai.eqb
  dsimp only
  by_cases h1 : x1 = x2
  · subst h1
    by_cases h2 : y1 = y2
    · subst h2
      rw [decide_eq_true (rfl : x1 = x1), decide_eq_true (rfl : y1 = y1), Bool.true_and, Bool.true_and]
      obtain ⟨s1, hs1⟩ : ∃ s, Hid (str (rowL l1) l1.length = s) := ⟨_, rfl⟩
      obtain ⟨s2, hs2⟩ : ∃ s, Hid (str (rowL l2) l2.length = s) := ⟨_, rfl⟩
      obtain ⟨c1, c2⟩ := HC.out _ k2
      rw [hs1.out] at c1 hEq
      rw [hs2.out] at c2 hEq
      have hb : decide (l1 = l2) = (s1.toList == s2.toList) := by rw [Bool.beq_eq_decide_eq, decide_eq_decide]; exact hEq.symm
      rw [hb]
      clear hv hu HC hEq hb hs1 hs2
      go_enter Try.func17, Try.ntmps17
      go_wp2
      go_ret
      exact ⟨rfl, k2⟩
    · rw [decide_eq_true (rfl : x1 = x1), decide_eq_false h2]
      have d2 : (y1 == y2) = false := by rw [beq_eq_false_iff_ne]; exact h2
      clear hv hu HC hEq h2
      go_enter Try.func17, Try.ntmps17
      go_wp2
      go_ret
      exact ⟨rfl, k2⟩
  · rw [decide_eq_false h1]
    have d1 : (x1 == x2) = false := by rw [beq_eq_false_iff_ne]; exact h1
    clear hv hu HC hEq h1
    go_enter Try.func17, Try.ntmps17
    go_wp2
    go_ret
    exact ⟨rfl, k2⟩
end Go.Proofs.Ytjjnbpbbjaabeaa
