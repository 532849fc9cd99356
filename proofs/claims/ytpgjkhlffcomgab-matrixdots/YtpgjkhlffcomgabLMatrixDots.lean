/- Proved: for every three rows of bytes the statement MatrixDots answers true (the document's P2.1: a row's product with a sum is the sum of its products), with no condition but the reach; arguments may share memory. -/
import Derived.Test.YtpgjkhlffcomgabP13
import Derived.Test.YtpgjkhlffcomgabFr
import Derived.ShutString
import Derived.ChangeOld
namespace Go.Proofs.Ytpgjkhlffcomgab.matrixDots
open Go.ChangeShapes Go.WideShapes Go.ChangeAt Go.RowKit
set_option linter.unusedVariables false

theorem dots_great (A B C : Option Addr) (la ca lb cb lc cc : Nat) (w : World) (h : 4096 < la ∨ (la ≤ 4096 ∧ 4096 < lb) ∨ (la ≤ 4096 ∧ lb ≤ 4096 ∧ 4096 < lc)) :
    Calls Try.prog 3 #[.slice A la ca, .slice B lb cb, .slice C lc cc] w fun e w' => e = .returned (.bool true) ∧ Bw w w' := by
  rcases h with h1 | ⟨h1, h2⟩ | ⟨h1, h2, h3⟩
  all_goals
    go_enter Try.func3, Try.ntmps3
    go_wp2_with (go_at_call 4; refine (wakes2_any _).mono ?_; rintro e w1 ⟨rfl, hw1⟩)
    go_ret
    exact ⟨rfl, hw1⟩

theorem dots_bad (A B C : Option Addr) (la ca lb cb lc cc : Nat) (g h : Nat → Int) (w : World) (hb : RowAt w B lb g) (hc : RowAt w C lc h) (h1 : la ≤ 4096) (h2 : lb ≤ 4096) (h3 : lc ≤ 4096) (h0 : (twoE lb lc != 0) = true) :
    Calls Try.prog 3 #[.slice A la ca, .slice B lb cb, .slice C lc cc] w fun e w' => e = .returned (.bool true) ∧ Bw w w' := by
  go_enter Try.func3, Try.ntmps3
  go_wp2_with (first
    | (go_at_call 5; refine (plus_any B C lb cb lc cc g h 1 (by omega) (by omega) _ hb hc).mono ?_; rintro e w1 ⟨A', n', cap', s, rfl, hn1, hw1, hs1⟩)
    | (go_at_call 4; refine (wakes2_any _).mono ?_; rintro e w2 ⟨rfl, hw2⟩))
  go_ret
  exact ⟨rfl, hw1.trans hw2⟩

theorem dots_shape (A B C : Option Addr) (la ca lb cb lc cc : Nat) (g h : Nat → Int) (w : World) (hb : RowAt w B lb g) (hc : RowAt w C lc h) (h1 : la ≤ 4096) (h2 : lb ≤ 4096) (h3 : lc ≤ 4096) (h0 : twoE lb lc = 0) (h4 : la ≠ lb) :
    Calls Try.prog 3 #[.slice A la ca, .slice B lb cb, .slice C lc cc] w fun e w' => e = .returned (.bool true) ∧ Bw w w' := by
  have h5 : ((la : Int) != (lb : Int)) = true := by simp; omega
  go_enter Try.func3, Try.ntmps3
  go_wp2_with (first
    | (go_at_call 5; refine (plus_any B C lb cb lc cc g h 1 (by omega) (by omega) _ hb hc).mono ?_; rintro e w1 ⟨A', n', cap', s, rfl, hn1, hw1, hs1⟩; rw [h0])
    | (go_at_call 4; refine (wakes2_any _).mono ?_; rintro e w2 ⟨rfl, hw2⟩))
  go_ret
  exact ⟨rfl, hw1.trans hw2⟩

theorem two_same {n : Nat} (h : n ≤ 4096) : twoE n n = 0 := by unfold twoE; rw [if_neg (by omega), if_neg (by omega)]

theorem dots_ok (A B C : Option Addr) (n ca cb cc : Nat) (f g h : Nat → Int) (w : World) (ha : RowAt w A n f) (hb : RowAt w B n g) (hc : RowAt w C n h) (h1 : n ≤ 4096) :
    Calls Try.prog 3 #[.slice A n ca, .slice B n cb, .slice C n cc] w fun e w' => e = .returned (.bool true) ∧ Bw w w' := by
  have e0 := two_same h1
  have ed : ∀ g', dotE n n f g' = dotU f g' n := fun g' => by unfold dotE; rw [if_pos e0]
  have d1 := dotU_bd f g ha.2 n
  have d2 := dotU_bd f h ha.2 n
  have hx := u8_xor _ _ d1.1 d1.2 d2.1 d2.2
  go_enter Try.func3, Try.ntmps3
  go_wp2_with (first
    | (go_at_call 5; refine (plus_any B C n cb n cc g h 1 (by omega) (by omega) _ hb hc).mono ?_; rintro e w1 ⟨A', n', cap', s, rfl, hn1, hw1, hs1⟩; rw [e0]; obtain ⟨-, rfl, hs⟩ := hs1.resolve_right (fun e => e.1 e0); have ha1 := ha.keep hw1; have hb1 := hb.keep hw1; have hc1 := hc.keep hw1; have hsum := dot_sum f g h s _ ha.2 hb.2 hc.2 hs)
    | (go_at_call_of 6 (Value.slice B n' cb); refine (dot_any A B n' ca n' cb f g _ ha2 hb2).mono ?_; rintro e w3 ⟨rfl, hw3⟩; rw [e0, ed]; have ha3 := ha2.keep hw3; have hc3 := hc2.keep hw3)
    | (go_at_call_of 6 (Value.slice C n' cc); refine (dot_any A C n' ca n' cc f h _ ha3 hc3).mono ?_; rintro e w4 ⟨rfl, hw4⟩; rw [e0, ed])
    | (go_at_call 6; refine (dot_any A A' n' ca n' cap' f s _ ha1 hn1.row).mono ?_; rintro e w2 ⟨rfl, hw2⟩; rw [e0, ed, hsum]; have ha2 := ha1.keep hw2; have hb2 := hb1.keep hw2; have hc2 := hc1.keep hw2)
    | (go_at_call 4; refine (wakes2_any _).mono ?_; rintro e w5 ⟨rfl, hw5⟩))
  go_ret
  exact ⟨rfl, hw1.trans (hw2.trans (hw3.trans (hw4.trans hw5)))⟩

theorem walk (a0 : Option Addr) (len0 cap0 : Nat) (f0 : Nat → Int) (a1 : Option Addr) (len1 cap1 : Nat) (f1 : Nat → Int) (a2 : Option Addr) (len2 cap2 : Nat) (f2 : Nat → Int) (w : World) (w0 : InRow w a0 len0 cap0 f0) (w1 : InRow w a1 len1 cap1 f1) (w2 : InRow w a2 len2 cap2 f2) :
    Calls Try.prog 3 #[.slice a0 len0 cap0, .slice a1 len1 cap1, .slice a2 len2 cap2] w fun e w' => e = .returned (.bool true) ∧ Below w.heap.size w w' := by
  by_cases h1 : 4096 < len0
  · exact dots_great _ _ _ _ _ _ _ _ _ w (Or.inl h1)
  · by_cases h2 : 4096 < len1
    · exact dots_great _ _ _ _ _ _ _ _ _ w (Or.inr (Or.inl ⟨by omega, h2⟩))
    · by_cases h3 : 4096 < len2
      · exact dots_great _ _ _ _ _ _ _ _ _ w (Or.inr (Or.inr ⟨by omega, by omega, h3⟩))
      · by_cases h4 : len1 = len2
        · subst h4
          by_cases h5 : len0 = len1
          · subst h5
            exact dots_ok _ _ _ _ _ _ _ _ _ _ w w0.row w1.row w2.row (by omega)
          · exact dots_shape _ _ _ _ _ _ _ _ _ _ _ w w1.row w2.row (by omega) (by omega) (by omega) (two_same (by omega)) h5
        · exact dots_bad _ _ _ _ _ _ _ _ _ _ _ w w1.row w2.row (by omega) (by omega) (by omega) (by unfold twoE; rw [if_neg (by omega), if_pos h4]; rfl)

set_option maxRecDepth 100000 in
theorem lifted (os : Os) (started : os.Started) (H : Type) (enc : TypeId × Value → H) :
    ReturnsInHanded {} Try.checked os 3 .any (Rows.matrixDotsSpec.pre6 enc Try.prog Try.f3 Rows.matrixDotsRow.domain false) (Rows.matrixDotsSpec.post enc Try.prog Try.f3 false true false false) := by
  refine returnsInHanded_of_change_sized (C := Try.checked) own started (by kernel_rfl) Try.func3
    (ChangeSpec.witness6 (enc := enc) (C := Try.checked) false ⟨#[], #[.slice none 0 0, .slice none 0 0, .slice none 0 0], []⟩ 8 (by kernel_rfl) (by kernel_rfl) (by kernel_rfl) (by kernel_rfl)) ?_
  intro W base args ds gs before hval0 hW hcnd hsz0 _
  have hval : ∀ (j : Nat) t v, Try.f3.params[j]? = some t → args[j]? = some v → Value.okWide Try.prog W .any base t v := hval0
  have hW' := hW
  obtain ⟨p, q, hA0, hV, rfl, hfz, hnd⟩ := hW
  have hA : DataW.TrodAll enc Try.prog W 0 (fun _ => true) true Try.f3.params.toList args.toList ds p := hA0
  have hsz : (DataW.weightsEach Try.prog (Try.f3.params.toList ++ Rows.matrixDotsSpec.plain.varTypes Try.prog) (ds ++ gs)).all (· ≤ reachBytes) = true := hsz0
  rw [Try.params3] at hA hval hsz
  obtain ⟨v0, vs0, d0, ds0, p0, q0, hargs, rfl, rfl, h0, r0⟩ := trodAll_cons hA
  obtain ⟨v1, vs1, d1, ds1, p1, q1, rfl, rfl, rfl, h1, r1⟩ := trodAll_cons r0
  obtain ⟨v2, vs2, d2, ds2, p2, q2, rfl, rfl, rfl, h2, r2⟩ := trodAll_cons r1
  obtain ⟨rfl, rfl, rfl⟩ := trodAll_nil r2
  obtain rfl : args = #[v0, v1, v2] := by cases args; simp_all
  obtain ⟨rfl, rfl⟩ := trodVars_none hV
  obtain ⟨a0, len0, cap0, rfl⟩ := okWide_slice Try.underlying22 (hval 0 22 v0 rfl rfl)
  have k0 := h0
  have lt0 : ∀ x ∈ p0, x.block < W.heap.size := by obtain ⟨m, hm⟩ := k0; exact DataW.trod_lt m _ _ _ hm
  obtain ⟨f0, w0⟩ := open_bytes h0 (fun x hx => by simpa using List.all_eq_true.1 hsz x (DataW.weights_mem_each (j := 0) (t := 22) rfl rfl x hx))
  obtain ⟨a1, len1, cap1, rfl⟩ := okWide_slice Try.underlying22 (hval 1 22 v1 rfl rfl)
  have k1 := h1
  have lt1 : ∀ x ∈ p1, x.block < W.heap.size := by obtain ⟨m, hm⟩ := k1; exact DataW.trod_lt m _ _ _ hm
  obtain ⟨f1, w1⟩ := open_bytes h1 (fun x hx => by simpa using List.all_eq_true.1 hsz x (DataW.weights_mem_each (j := 1) (t := 22) rfl rfl x hx))
  obtain ⟨a2, len2, cap2, rfl⟩ := okWide_slice Try.underlying22 (hval 2 22 v2 rfl rfl)
  have k2 := h2
  have lt2 : ∀ x ∈ p2, x.block < W.heap.size := by obtain ⟨m, hm⟩ := k2; exact DataW.trod_lt m _ _ _ hm
  obtain ⟨f2, w2⟩ := open_bytes h2 (fun x hx => by simpa using List.all_eq_true.1 hsz x (DataW.weights_mem_each (j := 2) (t := 22) rfl rfl x hx))
  clear hA0 hval0
  refine (walk a0 len0 cap0 f0 a1 len1 cap1 f1 a2 len2 cap2 f2 W w0 w1 w2).mono fun e W' ⟨he, bel⟩ => ?_
  subst he
  exact ⟨_, rfl, _, _, _, [], _, [], hW', trodAll_mk1 (shut_bool Try.underlying4 _), (trodAll_cons_mk (Below.trod laidOut (by kernel_rfl) (of_decide_eq_true (by kernel_rfl)) k0 bel lt0) (trodAll_cons_mk (Below.trod laidOut (by kernel_rfl) (of_decide_eq_true (by kernel_rfl)) k1 bel lt1) (trodAll_cons_mk (Below.trod laidOut (by kernel_rfl) (of_decide_eq_true (by kernel_rfl)) k2 bel lt2) trodAll_mk0))), rfl, bel.frame _, fun h => by cases h⟩

theorem over : Rows.matrixDotsRow.holds Try.pinned (OpenSpec.ofChange Rows.matrixDotsSpec) :=
  OpenClaim.holds_of_wide 3 Try.f3 rfl rfl rfl rfl rfl rfl rfl ⟨rfl, rfl, rfl, rfl, rfl⟩ rfl rfl rfl rfl rfl (by kernel_rfl) Try.func3 (by kernel_rfl)
    (of_decide_eq_true (by kernel_rfl)) (by unfold Func.isWrapper; first | (rw [if_pos (by decide +kernel)]; kernel_rfl) | (rw [if_neg (by decide +kernel)]; exact ⟨rfl, rfl⟩))
    (fun os started H enc _ => lifted os started H enc)

theorem proved : Rows.MatrixDotsSaid := over
#print axioms proved
end Go.Proofs.Ytpgjkhlffcomgab.matrixDots
