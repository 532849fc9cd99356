/- The document's own link and May, of layer 11 (written by mku5.py). -/
import Derived.Test.YtldkhbkgmiicbaaU4
namespace Go.Proofs.Ytldkhbkgmiicbaa
open Go.RowKit Go.Deep
set_option linter.unusedVariables false
set_option linter.unusedSimpArgs false

theorem rcheckL (p : Tr.B) (h : p.length ≤ 4611686018427387904) (w : World) : Calls Try.prog 14 #[.string (Nm.S p)] w fun e w' => e = .returned (.tuple #[.int .i64 (Nm.check p).1, .int .i64 (Nm.check p).2]) ∧ Bw w w' := by
  have := rcheck_any (Nm.S p) (by rw [Nm.size_S]; exact h) w
  rwa [Nm.toList_S] at this
theorem rleadL (p q : Tr.B) (h : p.length ≤ 4611686018427387904) (k : q.length ≤ 4611686018427387904) (w : World) : Calls Try.prog 16 #[.string (Nm.S p), .string (Nm.S q)] w fun e w' => e = .returned (.tuple #[.string (Nm.S (Nm.lead p q).1), .int .i64 (Nm.lead p q).2]) ∧ Bw w w' := by
  have := rlead_any (Nm.S p) (Nm.S q) (by rw [Nm.size_S]; exact h) (by rw [Nm.size_S]; exact k) w
  rwa [Nm.toList_S, Nm.toList_S] at this
/-- a link's kind -/
def Tr.lnk (k : Nat) : Bool := decide (k = 3 ∨ k = 4)
theorem rlink_any (k : Nat) (w : World) : Calls Try.prog 15 #[.int .u8 (k : Int)] w fun e w' => e = .returned (.bool (Tr.lnk k)) ∧ w' = w := by
  obtain ⟨r, hR⟩ : ∃ r, Hid (Tr.lnk k = r) := ⟨_, rfl⟩
  rw [hR.out]
  by_cases h3 : k = 3
  · subst h3
    obtain rfl : r = true := hR.out.symm.trans rfl
    go_enter Try.func15, Try.ntmps15
    go_wp2
    go_ret
    exact ⟨rfl, rfl⟩
  · have e3 : ((k : Int) == 3) = false := by rw [beq_eq_false_iff_ne]; omega
    by_cases h4 : k = 4
    · subst h4
      obtain rfl : r = true := hR.out.symm.trans rfl
      go_enter Try.func15, Try.ntmps15
      go_wp2
      go_ret
      exact ⟨rfl, rfl⟩
    · have e4 : ((k : Int) == 4) = false := by rw [beq_eq_false_iff_ne]; omega
      obtain rfl : r = false := hR.out.symm.trans (decide_eq_false (fun h => by omega))
      clear h3 h4
      go_enter Try.func15, Try.ntmps15
      go_wp2
      go_ret
      exact ⟨rfl, rfl⟩
namespace Tr
/-- the four tests -/
def tK (x : It) : Bool := decide (x.kind < 1 ∨ 4 < x.kind)
def tT (x : It) : Bool := decide (x.time < 0 ∨ 1099511627776 < x.time ∨ (x.kind = 3 ∧ x.time ≠ 0))
def tM (x : It) : Bool := decide (x.mode < 0 ∨ 4095 < x.mode ∨ ((x.kind = 3 ∨ x.kind = 4) ∧ x.mode ≠ 0))
def tI (x : It) : Bool := decide ((0 < x.body.length ∧ x.kind ≠ 1) ∨ (x.to ≠ [] ∧ ¬ (x.kind = 3 ∨ x.kind = 4)))
theorem may_tests (x : It) : mayE x = if (Nm.check x.path).2 ≠ 0 then (Nm.check x.path).2 else if tK x = true then 1 else if tT x = true then 1 else if tM x = true then 1 else if tI x = true then 110 else if 65536 < x.body.length then 2 else if x.kind = 3 then (Nm.check x.to).2 else if x.kind = 4 then (Nm.lead x.path x.to).2 else 0 := by
  unfold mayE tK tT tM tI
  simp only [decide_eq_true_eq]
end Tr
set_option maxRecDepth 100000 in
set_option maxHeartbeats 8000000 in
theorem rmay_any (y : Tr.Iv) (hf : Tr.Fit y.it) (w : World) : Calls Try.prog 8 #[.agg y.arr] w fun e w' => e = .returned (.int .i64 (Tr.mayE y.it)) ∧ Bw w w' := by
  rw [Tr.may_tests]
  have HF : Hid (Tr.Fit y.it) := hf
  obtain ⟨f1, f2, f3, f4, f5, f6⟩ := hf
  obtain ⟨W, hW⟩ : ∃ W, W = w.alloc (.cells y.arr 25) := ⟨_, rfl⟩
  have hbw : Bw w W := by rw [hW]; exact bw_alloc11 (Bw.refl _) _
  have hX : Hid (BoxAt W w.heap.size y) := by rw [hW]; exact BoxAt.new _ _
  obtain ⟨bK, hK⟩ : ∃ r, Hid (Tr.tK y.it = r) := ⟨_, rfl⟩
  obtain ⟨bT, hT⟩ : ∃ r, Hid (Tr.tT y.it = r) := ⟨_, rfl⟩
  obtain ⟨bM, hM⟩ : ∃ r, Hid (Tr.tM y.it = r) := ⟨_, rfl⟩
  obtain ⟨bI, hI⟩ : ∃ r, Hid (Tr.tI y.it = r) := ⟨_, rfl⟩
  obtain ⟨cA, cE, hc⟩ : ∃ a b, Hid (Nm.check y.it.path = (a, b)) := ⟨_, _, show Nm.check y.it.path = _ from rfl⟩
  have HC : Hid (∀ u, Calls Try.prog 14 #[.string (Nm.S y.it.path)] u fun e w' => e = .returned (.tuple #[.int .i64 cA, .int .i64 cE]) ∧ Bw u w') := fun u => by
    have := rcheckL y.it.path (by omega) u
    rwa [hc.out] at this
  rw [hc.out, hK.out, hT.out, hM.out, hI.out]
  dsimp only
  obtain ⟨R, hR⟩ : ∃ R, Hid ((if 65536 < y.it.body.length then (2 : Int) else if y.it.kind = 3 then (Nm.check y.it.to).2 else if y.it.kind = 4 then (Nm.lead y.it.path y.it.to).2 else 0) = R) := ⟨_, rfl⟩
  rw [hR.out]
  obtain ⟨x0, x1, x2, x3, x4, x5⟩ := hX.out.cells
  by_cases hce : cE = 0
  · subst hce
    rw [if_neg (by simp)]
    go_enter Try.func8, Try.ntmps8
    go_upto_region 1 with fail
    rw [← hW]
    clear hW
    go_upto_region 4 with (first
      | (go_at_call 14; refine (HC.out _).mono ?_; rintro e w1 ⟨rfl, hw1⟩; have hb1 := hbw.trans hw1; clear x0 x1 x2 x3 x4 x5; have hX1 : Hid (BoxAt w1 w.heap.size y) := hX.out.keep hw1; obtain ⟨x0, x1, x2, x3, x4, x5⟩ := hX1.out.cells))
    go_cut [21] from 14 to 21 (fun v wc => v = .bool bK ∧ wc = w1)
    case first =>
      by_cases a1 : y.it.kind < 1
      · obtain rfl : bK = true := hK.out.symm.trans (decide_eq_true (.inl a1))
        have q1 : (y.it.kind : Int) < 1 := by omega
        go_wp2_with fail
        go_meet
        case rel => exact ⟨rfl, rfl⟩
      · have q1 : ¬ (y.it.kind : Int) < 1 := by omega
        by_cases a2 : 4 < y.it.kind
        · obtain rfl : bK = true := hK.out.symm.trans (decide_eq_true (.inr a2))
          have q2 : (4 : Int) < (y.it.kind : Int) := by omega
          go_wp2_with fail
          go_meet
          case rel => exact ⟨rfl, rfl⟩
        · obtain rfl : bK = false := hK.out.symm.trans (decide_eq_false (fun h => by omega))
          have q2 : ¬ (4 : Int) < (y.it.kind : Int) := by omega
          go_wp2_with fail
          go_meet
          case rel => exact ⟨by first | rfl | rw [decide_eq_false (by omega)], rfl⟩
    case rest =>
      obtain ⟨rfl, rfl⟩ := hcut
      cases bK with
      | true =>
        go_wp2
        go_ret
        exact ⟨rfl, hb1⟩
      | false =>
      have kk := of_decide_eq_false hK.out
      go_upto_region 6 with fail
      go_cut [39] from 22 to 39 (fun v wx => v = .bool bT ∧ wx = wc)
      case first =>
        by_cases a1 : y.it.time < 0
        · obtain rfl : bT = true := hT.out.symm.trans (decide_eq_true (.inl a1))
          go_wp2_with fail
          go_meet
          case rel => exact ⟨rfl, rfl⟩
        by_cases a2 : 1099511627776 < y.it.time
        · obtain rfl : bT = true := hT.out.symm.trans (decide_eq_true (.inr (.inl a2)))
          go_wp2_with fail
          go_meet
          case rel => exact ⟨rfl, rfl⟩
        by_cases a3 : y.it.kind = 3
        · have q3 : ((y.it.kind : Int) == 3) = true := by rw [a3]; rfl
          by_cases a4 : y.it.time = 0
          · obtain rfl : bT = false := hT.out.symm.trans (decide_eq_false (fun h => by omega))
            have q4 := Tr.i_yes a4
            clear a4
            go_wp2_with fail
            go_meet
            case rel => exact ⟨by first | rfl | (rw [q4]), rfl⟩
          · obtain rfl : bT = true := hT.out.symm.trans (decide_eq_true (.inr (.inr ⟨a3, a4⟩)))
            have q4 := Tr.i_no a4
            clear a4
            go_wp2_with fail
            go_meet
            case rel => exact ⟨by first | rfl | (rw [q4]), rfl⟩
        · have q3 : ((y.it.kind : Int) == 3) = false := by rw [beq_eq_false_iff_ne]; omega
          obtain rfl : bT = false := hT.out.symm.trans (decide_eq_false (fun h => by omega))
          clear a3
          go_wp2_with fail
          go_meet
          case rel => exact ⟨rfl, rfl⟩
      case rest =>
        obtain ⟨rfl, rfl⟩ := hcut
        cases bT with
        | true =>
          go_wp2
          go_ret
          exact ⟨rfl, hb1⟩
        | false =>
        have kt := of_decide_eq_false hT.out
        obtain ⟨bL, hL⟩ : ∃ r, Hid (Tr.lnk y.it.kind = r) := ⟨_, rfl⟩
        have HLK : Hid (∀ u, Calls Try.prog 15 #[.int .u8 (y.it.kind : Int)] u fun e w' => e = .returned (.bool bL) ∧ w' = u) := fun u => by rw [← hL.out]; exact rlink_any y.it.kind u
        go_upto_region 8 with fail
        go_cut [57] from 40 to 57 (fun v wx => v = .bool bM ∧ wx = wc)
        case first =>
          by_cases a1 : y.it.mode < 0
          · obtain rfl : bM = true := hM.out.symm.trans (decide_eq_true (.inl a1))
            go_wp2_with fail
            go_meet
            case rel => exact ⟨rfl, rfl⟩
          by_cases a2 : 4095 < y.it.mode
          · obtain rfl : bM = true := hM.out.symm.trans (decide_eq_true (.inr (.inl a2)))
            go_wp2_with fail
            go_meet
            case rel => exact ⟨rfl, rfl⟩
          cases bL with
          | true =>
            have a3 := of_decide_eq_true hL.out
            by_cases a4 : y.it.mode = 0
            · obtain rfl : bM = false := hM.out.symm.trans (decide_eq_false (fun h => by omega))
              have q4 := Tr.i_yes a4
              clear a4 a3
              go_wp2_with (go_at_call 15; refine (HLK.out _).mono ?_; rintro e w9 ⟨rfl, rfl⟩)
              go_meet
              case rel => exact ⟨by first | rfl | (rw [q4]), rfl⟩
            · obtain rfl : bM = true := hM.out.symm.trans (decide_eq_true (.inr (.inr ⟨a3, a4⟩)))
              have q4 := Tr.i_no a4
              clear a4 a3
              go_wp2_with (go_at_call 15; refine (HLK.out _).mono ?_; rintro e w9 ⟨rfl, rfl⟩)
              go_meet
              case rel => exact ⟨by first | rfl | (rw [q4]), rfl⟩
          | false =>
            have a3 := of_decide_eq_false hL.out
            obtain rfl : bM = false := hM.out.symm.trans (decide_eq_false (fun h => by omega))
            clear a3
            go_wp2_with (go_at_call 15; refine (HLK.out _).mono ?_; rintro e w9 ⟨rfl, rfl⟩)
            go_meet
            case rel => exact ⟨rfl, rfl⟩
        case rest =>
          obtain ⟨rfl, rfl⟩ := hcut
          cases bM with
          | true =>
            go_wp2
            go_ret
            exact ⟨rfl, hb1⟩
          | false =>
          go_upto_region 10 with fail
          go_cut [77] from 58 to 77 (fun v wx => v = .bool bI ∧ wx = wc)
          case first =>
            have ito : ∀ (h : y.it.to = []), ((Nm.S y.it.to).toList == []) = true := fun h => by rw [Nm.toList_S, h]; rfl
            have nto : ∀ (h : y.it.to ≠ []), ((Nm.S y.it.to).toList == []) = false := fun h => by rw [Nm.toList_S, beq_eq_false_iff_ne]; exact h
            have HTO : Hid (∀ (h : y.it.to = []), ((Nm.S y.it.to).toList == []) = true) := ito
            have HNT : Hid (∀ (h : y.it.to ≠ []), ((Nm.S y.it.to).toList == []) = false) := nto
            clear ito nto
            by_cases a1 : 0 < y.it.body.length
            · have q1 : (0 : Int) < (y.it.body.length : Int) := by omega
              by_cases a2 : y.it.kind = 1
              · have q2 : ((y.it.kind : Int) != 1) = false := by rw [a2]; rfl
                obtain rfl : bL = false := hL.out.symm.trans (decide_eq_false (fun h => by omega))
                by_cases a3 : y.it.to = []
                · obtain rfl : bI = false := hI.out.symm.trans (decide_eq_false (fun h => by
                    rcases h with h | h
                    · exact h.2 a2
                    · exact h.1 a3))
                  have q3 := HTO.out a3
                  clear a1 a2 a3
                  go_wp2_with (go_at_call 15; refine (HLK.out _).mono ?_; rintro e w9 ⟨rfl, rfl⟩)
                  go_meet
                  case rel => exact ⟨rfl, rfl⟩
                · obtain rfl : bI = true := hI.out.symm.trans (decide_eq_true (.inr ⟨a3, fun h => by omega⟩))
                  have q3 := HNT.out a3
                  clear a1 a2 a3
                  go_wp2_with (go_at_call 15; refine (HLK.out _).mono ?_; rintro e w9 ⟨rfl, rfl⟩)
                  go_meet
                  case rel => exact ⟨rfl, rfl⟩
              · have q2 : ((y.it.kind : Int) != 1) = true := by rw [bne_iff_ne]; omega
                obtain rfl : bI = true := hI.out.symm.trans (decide_eq_true (.inl ⟨a1, a2⟩))
                clear a1 a2
                go_wp2_with fail
                go_meet
                case rel => exact ⟨rfl, rfl⟩
            · have q1 : ¬ (0 : Int) < (y.it.body.length : Int) := by omega
              by_cases a3 : y.it.to = []
              · obtain rfl : bI = false := hI.out.symm.trans (decide_eq_false (fun h => by
                  rcases h with h | h
                  · exact a1 h.1
                  · exact h.1 a3))
                have q3 := HTO.out a3
                clear a1 a3
                go_wp2_with fail
                go_meet
                case rel => exact ⟨rfl, rfl⟩
              · have q3 := HNT.out a3
                cases bL with
                | true =>
                  have a4 := of_decide_eq_true hL.out
                  obtain rfl : bI = false := hI.out.symm.trans (decide_eq_false (fun h => by
                    rcases h with h | h
                    · exact a1 h.1
                    · exact h.2 a4))
                  clear a1 a3 a4
                  go_wp2_with (go_at_call 15; refine (HLK.out _).mono ?_; rintro e w9 ⟨rfl, rfl⟩)
                  go_meet
                  case rel => exact ⟨rfl, rfl⟩
                | false =>
                  have a4 := of_decide_eq_false hL.out
                  obtain rfl : bI = true := hI.out.symm.trans (decide_eq_true (.inr ⟨a3, a4⟩))
                  clear a1 a3 a4
                  go_wp2_with (go_at_call 15; refine (HLK.out _).mono ?_; rintro e w9 ⟨rfl, rfl⟩)
                  go_meet
                  case rel => exact ⟨rfl, rfl⟩
          case rest =>
            obtain ⟨rfl, rfl⟩ := hcut
            cases bI with
            | true =>
              go_wp2
              go_ret
              exact ⟨rfl, hb1⟩
            | false =>
            have hr := hR.out
            by_cases a1 : 65536 < y.it.body.length
            · have q1 : (65536 : Int) < (y.it.body.length : Int) := by omega
              rw [if_pos a1] at hr
              clear a1
              obtain rfl := hr
              go_wp2
              go_ret
              exact ⟨rfl, hb1⟩
            · have q1 : ¬ (65536 : Int) < (y.it.body.length : Int) := by omega
              rw [if_neg a1] at hr
              by_cases a3 : y.it.kind = 3
              · rw [if_pos a3] at hr
                have q3 : ((y.it.kind : Int) == 3) = true := by rw [a3]; rfl
                obtain ⟨tA, tE, ht⟩ : ∃ a b, Hid (Nm.check y.it.to = (a, b)) := ⟨_, _, show Nm.check y.it.to = _ from rfl⟩
                have HD : Hid (∀ u, Calls Try.prog 14 #[.string (Nm.S y.it.to)] u fun e w' => e = .returned (.tuple #[.int .i64 tA, .int .i64 tE]) ∧ Bw u w') := fun u => by
                  have := rcheckL y.it.to (by omega) u
                  rwa [ht.out] at this
                rw [ht.out] at hr
                dsimp only at hr
                obtain rfl := hr
                clear a1 a3
                go_wp2_with (go_at_call 14; refine (HD.out _).mono ?_; rintro e w2 ⟨rfl, hw2⟩)
                go_ret
                exact ⟨rfl, hb1.trans hw2⟩
              · rw [if_neg a3] at hr
                have q3 : ((y.it.kind : Int) == 3) = false := by rw [beq_eq_false_iff_ne]; omega
                by_cases a4 : y.it.kind = 4
                · rw [if_pos a4] at hr
                  have q4 : ((y.it.kind : Int) == 4) = true := by rw [a4]; rfl
                  obtain ⟨tA, tE, ht⟩ : ∃ a b, Hid (Nm.lead y.it.path y.it.to = (a, b)) := ⟨_, _, show Nm.lead y.it.path y.it.to = _ from rfl⟩
                  have HD : Hid (∀ u, Calls Try.prog 16 #[.string (Nm.S y.it.path), .string (Nm.S y.it.to)] u fun e w' => e = .returned (.tuple #[.string (Nm.S tA), .int .i64 tE]) ∧ Bw u w') := fun u => by
                    have := rleadL y.it.path y.it.to (by omega) (by omega) u
                    rwa [ht.out] at this
                  rw [ht.out] at hr
                  dsimp only at hr
                  obtain rfl := hr
                  clear a1 a3 a4
                  go_wp2_with (go_at_call 16; refine (HD.out _).mono ?_; rintro e w2 ⟨rfl, hw2⟩)
                  go_ret
                  exact ⟨rfl, hb1.trans hw2⟩
                · rw [if_neg a4] at hr
                  have q4 : ((y.it.kind : Int) == 4) = false := by rw [beq_eq_false_iff_ne]; omega
                  clear a1 a3 a4
                  obtain rfl := hr
                  go_wp2
                  go_ret
                  exact ⟨rfl, hb1⟩
  · rw [if_pos hce]
    have q1 : (cE != 0) = true := Tr.i_no hce
    clear hce
    go_enter Try.func8, Try.ntmps8
    go_upto_region 1 with fail
    rw [← hW]
    clear hW
    go_wp2_with (go_at_call 14; refine (HC.out _).mono ?_; rintro e w1 ⟨rfl, hw1⟩)
    go_ret
    exact ⟨rfl, hbw.trans hw1⟩
end Go.Proofs.Ytldkhbkgmiicbaa
