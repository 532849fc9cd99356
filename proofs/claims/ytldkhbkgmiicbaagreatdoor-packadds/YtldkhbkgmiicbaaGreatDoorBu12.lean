/- Texts of mine, put together. -/
import Derived.Test.YtldkhbkgmiicbaaGreatDoorBu11

/- The document's own link and May, of layer 11 (written by mku5.py). -/
namespace Go.Proofs.YtldkhbkgmiicbaaGreatDoor
open Go.RowKit Go.Deep
set_option linter.unusedVariables false
set_option linter.unusedSimpArgs false

theorem rcheckL (p : Tr.B) (h : p.length ≤ 4611686018427387904) (w : World) : Calls Tryz.prog 71 #[.string (Nm.S p)] w fun e w' => e = .returned (.tuple #[.int .i64 (Nm.check p).1, .int .i64 (Nm.check p).2]) ∧ Bw w w' := by
  have := rcheck_any (Nm.S p) (by rw [Nm.size_S]; exact h) w
  rwa [Nm.toList_S] at this
theorem rleadL (p q : Tr.B) (h : p.length ≤ 4611686018427387904) (k : q.length ≤ 4611686018427387904) (w : World) : Calls Tryz.prog 73 #[.string (Nm.S p), .string (Nm.S q)] w fun e w' => e = .returned (.tuple #[.string (Nm.S (Nm.lead p q).1), .int .i64 (Nm.lead p q).2]) ∧ Bw w w' := by
  have := rlead_any (Nm.S p) (Nm.S q) (by rw [Nm.size_S]; exact h) (by rw [Nm.size_S]; exact k) w
  rwa [Nm.toList_S, Nm.toList_S] at this
theorem rcompareL (p q : Tr.B) (h : p.length ≤ 1099511627776) (k : q.length ≤ 1099511627776) (w : World) : Calls Tryz.prog 46 #[.string (Nm.S p), .string (Nm.S q)] w fun e w' => e = .returned (.int .i64 (Nm.cmp p q)) ∧ Bw w w' := by
  have := rcompare_any (Nm.S p) (Nm.S q) (by rw [Nm.size_S]; exact h) (by rw [Nm.size_S]; exact k) w
  rwa [Nm.toList_S, Nm.toList_S] at this
theorem rupL (p : Tr.B) (h : p.length ≤ 1099511627776) (w : World) : Calls Tryz.prog 47 #[.string (Nm.S p)] w fun e w' => e = .returned (.string (Nm.S (Nm.up p))) ∧ Bw w w' := by
  have := rup_any (Nm.S p) (by rw [Nm.size_S]; exact h) w
  rwa [Nm.toList_S] at this
/-- a link's kind -/
def Tr.lnk (k : Nat) : Bool := decide (k = 3 ∨ k = 4)
theorem rlink_any (k : Nat) (w : World) : Calls Tryz.prog 72 #[.int .u8 (k : Int)] w fun e w' => e = .returned (.bool (Tr.lnk k)) ∧ w' = w := by
  obtain ⟨r, hR⟩ : ∃ r, Hid (Tr.lnk k = r) := ⟨_, rfl⟩
  rw [hR.out]
  by_cases h3 : k = 3
  · subst h3
    obtain rfl : r = true := hR.out.symm.trans rfl
    go_enter Tryz.func72, Tryz.ntmps72
    go_wp2
    go_ret
    exact ⟨rfl, rfl⟩
  · have e3 : ((k : Int) == 3) = false := by rw [beq_eq_false_iff_ne]; omega
    by_cases h4 : k = 4
    · subst h4
      obtain rfl : r = true := hR.out.symm.trans rfl
      go_enter Tryz.func72, Tryz.ntmps72
      go_wp2
      go_ret
      exact ⟨rfl, rfl⟩
    · have e4 : ((k : Int) == 4) = false := by rw [beq_eq_false_iff_ne]; omega
      obtain rfl : r = false := hR.out.symm.trans (decide_eq_false (fun h => by omega))
      clear h3 h4
      go_enter Tryz.func72, Tryz.ntmps72
      go_wp2
      go_ret
      exact ⟨rfl, rfl⟩
namespace Tr
/-- the four tests -/
def tK (x : It) : Bool := decide (x.kind < 1 ∨ 4 < x.kind)
def tT (x : It) : Bool := decide (x.time < 0 ∨ 1099511627776 < x.time ∨ (x.kind = 3 ∧ x.time ≠ 0))
def tM (x : It) : Bool := decide (x.mode < 0 ∨ 4095 < x.mode ∨ ((x.kind = 3 ∨ x.kind = 4) ∧ x.mode ≠ 0))
def tI (x : It) : Bool := decide ((0 < x.body.length ∧ x.kind ≠ 1) ∨ (x.to ≠ [] ∧ ¬ (x.kind = 3 ∨ x.kind = 4)))
theorem may_tests (x : It) : mayE x = if (Nm.check x.path).2 ≠ 0 then (Nm.check x.path).2 else if tK x = true then 1 else if tT x = true then 1 else if tM x = true then 1 else if tI x = true then 110 else if 65536 < x.body.length then 2 else if x.kind = 3 then (Nm.check x.to).2 else if x.kind = 4 then (Nm.lead x.path x.to).2 else 0 := by
  unfold mayE tK tT tM tI
  simp only [decide_eq_true_eq]
end Tr
set_option maxRecDepth 100000 in
set_option maxHeartbeats 8000000 in
theorem rmay_any (y : Tr.Iv) (hf : Tr.Fit y.it) (w : World) : Calls Tryz.prog 45 #[.agg y.arr] w fun e w' => e = .returned (.int .i64 (Tr.mayE y.it)) ∧ Bw w w' := by
  rw [Tr.may_tests]
  have HF : Hid (Tr.Fit y.it) := hf
  obtain ⟨f1, f2, f3, f4, f5, f6⟩ := hf
  obtain ⟨W, hW⟩ : ∃ W, W = w.alloc (.cells y.arr 47) := ⟨_, rfl⟩
  have hbw : Bw w W := by rw [hW]; exact bw_alloc11 (Bw.refl _) _
  have hX : Hid (BoxAt W w.heap.size y) := by rw [hW]; exact BoxAt.new _ _
  obtain ⟨bK, hK⟩ : ∃ r, Hid (Tr.tK y.it = r) := ⟨_, rfl⟩
  obtain ⟨bT, hT⟩ : ∃ r, Hid (Tr.tT y.it = r) := ⟨_, rfl⟩
  obtain ⟨bM, hM⟩ : ∃ r, Hid (Tr.tM y.it = r) := ⟨_, rfl⟩
  obtain ⟨bI, hI⟩ : ∃ r, Hid (Tr.tI y.it = r) := ⟨_, rfl⟩
  obtain ⟨cA, cE, hc⟩ : ∃ a b, Hid (Nm.check y.it.path = (a, b)) := ⟨_, _, show Nm.check y.it.path = _ from rfl⟩
  have HC : Hid (∀ u, Calls Tryz.prog 71 #[.string (Nm.S y.it.path)] u fun e w' => e = .returned (.tuple #[.int .i64 cA, .int .i64 cE]) ∧ Bw u w') := fun u => by
    have := rcheckL y.it.path (by omega) u
    rwa [hc.out] at this
  rw [hc.out, hK.out, hT.out, hM.out, hI.out]
  dsimp only
  obtain ⟨R, hR⟩ : ∃ R, Hid ((if 65536 < y.it.body.length then (2 : Int) else if y.it.kind = 3 then (Nm.check y.it.to).2 else if y.it.kind = 4 then (Nm.lead y.it.path y.it.to).2 else 0) = R) := ⟨_, rfl⟩
  rw [hR.out]
  obtain ⟨x0, x1, x2, x3, x4, x5⟩ := hX.out.cells
  by_cases hce : cE = 0
  · subst hce
    rw [if_neg (by simp)]
    go_enter Tryz.func45, Tryz.ntmps45
    go_upto_region 1 with fail
    rw [← hW]
    clear hW
    go_upto_region 4 with (first
      | (go_at_call 71; refine (HC.out _).mono ?_; rintro e w1 ⟨rfl, hw1⟩; have hb1 := hbw.trans hw1; clear x0 x1 x2 x3 x4 x5; have hX1 : Hid (BoxAt w1 w.heap.size y) := hX.out.keep hw1; obtain ⟨x0, x1, x2, x3, x4, x5⟩ := hX1.out.cells))
    go_cut [21] from 14 to 21 (fun v wc => v = .bool bK ∧ wc = w1)
    case first =>
      by_cases a1 : y.it.kind < 1
      · obtain rfl : bK = true := hK.out.symm.trans (decide_eq_true (.inl a1))
        have q1 : (y.it.kind : Int) < 1 := by omega
        go_wp2_with fail
        go_meet
        case rel => exact ⟨rfl, rfl⟩
      · have q1 : ¬ (y.it.kind : Int) < 1 := by omega
        by_cases a2 : 4 < y.it.kind
        · obtain rfl : bK = true := hK.out.symm.trans (decide_eq_true (.inr a2))
          have q2 : (4 : Int) < (y.it.kind : Int) := by omega
          go_wp2_with fail
          go_meet
          case rel => exact ⟨rfl, rfl⟩
        · obtain rfl : bK = false := hK.out.symm.trans (decide_eq_false (fun h => by omega))
          have q2 : ¬ (4 : Int) < (y.it.kind : Int) := by omega
          go_wp2_with fail
          go_meet
          case rel => exact ⟨by first | rfl | rw [decide_eq_false (by omega)], rfl⟩
    case rest =>
      obtain ⟨rfl, rfl⟩ := hcut
      cases bK with
      | true =>
        go_wp2
        go_ret
        exact ⟨rfl, hb1⟩
      | false =>
      have kk := of_decide_eq_false hK.out
      go_upto_region 6 with fail
      go_cut [39] from 22 to 39 (fun v wx => v = .bool bT ∧ wx = wc)
      case first =>
        by_cases a1 : y.it.time < 0
        · obtain rfl : bT = true := hT.out.symm.trans (decide_eq_true (.inl a1))
          go_wp2_with fail
          go_meet
          case rel => exact ⟨rfl, rfl⟩
        by_cases a2 : 1099511627776 < y.it.time
        · obtain rfl : bT = true := hT.out.symm.trans (decide_eq_true (.inr (.inl a2)))
          go_wp2_with fail
          go_meet
          case rel => exact ⟨rfl, rfl⟩
        by_cases a3 : y.it.kind = 3
        · have q3 : ((y.it.kind : Int) == 3) = true := by rw [a3]; rfl
          by_cases a4 : y.it.time = 0
          · obtain rfl : bT = false := hT.out.symm.trans (decide_eq_false (fun h => by omega))
            have q4 := Tr.i_yes a4
            clear a4
            go_wp2_with fail
            go_meet
            case rel => exact ⟨by first | rfl | (rw [q4]), rfl⟩
          · obtain rfl : bT = true := hT.out.symm.trans (decide_eq_true (.inr (.inr ⟨a3, a4⟩)))
            have q4 := Tr.i_no a4
            clear a4
            go_wp2_with fail
            go_meet
            case rel => exact ⟨by first | rfl | (rw [q4]), rfl⟩
        · have q3 : ((y.it.kind : Int) == 3) = false := by rw [beq_eq_false_iff_ne]; omega
          obtain rfl : bT = false := hT.out.symm.trans (decide_eq_false (fun h => by omega))
          clear a3
          go_wp2_with fail
          go_meet
          case rel => exact ⟨rfl, rfl⟩
      case rest =>
        obtain ⟨rfl, rfl⟩ := hcut
        cases bT with
        | true =>
          go_wp2
          go_ret
          exact ⟨rfl, hb1⟩
        | false =>
        have kt := of_decide_eq_false hT.out
        obtain ⟨bL, hL⟩ : ∃ r, Hid (Tr.lnk y.it.kind = r) := ⟨_, rfl⟩
        have HLK : Hid (∀ u, Calls Tryz.prog 72 #[.int .u8 (y.it.kind : Int)] u fun e w' => e = .returned (.bool bL) ∧ w' = u) := fun u => by rw [← hL.out]; exact rlink_any y.it.kind u
        go_upto_region 8 with fail
        go_cut [57] from 40 to 57 (fun v wx => v = .bool bM ∧ wx = wc)
        case first =>
          by_cases a1 : y.it.mode < 0
          · obtain rfl : bM = true := hM.out.symm.trans (decide_eq_true (.inl a1))
            go_wp2_with fail
            go_meet
            case rel => exact ⟨rfl, rfl⟩
          by_cases a2 : 4095 < y.it.mode
          · obtain rfl : bM = true := hM.out.symm.trans (decide_eq_true (.inr (.inl a2)))
            go_wp2_with fail
            go_meet
            case rel => exact ⟨rfl, rfl⟩
          cases bL with
          | true =>
            have a3 := of_decide_eq_true hL.out
            by_cases a4 : y.it.mode = 0
            · obtain rfl : bM = false := hM.out.symm.trans (decide_eq_false (fun h => by omega))
              have q4 := Tr.i_yes a4
              clear a4 a3
              go_wp2_with (go_at_call 72; refine (HLK.out _).mono ?_; rintro e w9 ⟨rfl, rfl⟩)
              go_meet
              case rel => exact ⟨by first | rfl | (rw [q4]), rfl⟩
            · obtain rfl : bM = true := hM.out.symm.trans (decide_eq_true (.inr (.inr ⟨a3, a4⟩)))
              have q4 := Tr.i_no a4
              clear a4 a3
              go_wp2_with (go_at_call 72; refine (HLK.out _).mono ?_; rintro e w9 ⟨rfl, rfl⟩)
              go_meet
              case rel => exact ⟨by first | rfl | (rw [q4]), rfl⟩
          | false =>
            have a3 := of_decide_eq_false hL.out
            obtain rfl : bM = false := hM.out.symm.trans (decide_eq_false (fun h => by omega))
            clear a3
            go_wp2_with (go_at_call 72; refine (HLK.out _).mono ?_; rintro e w9 ⟨rfl, rfl⟩)
            go_meet
            case rel => exact ⟨rfl, rfl⟩
        case rest =>
          obtain ⟨rfl, rfl⟩ := hcut
          cases bM with
          | true =>
            go_wp2
            go_ret
            exact ⟨rfl, hb1⟩
          | false =>
          go_upto_region 10 with fail
          go_cut [77] from 58 to 77 (fun v wx => v = .bool bI ∧ wx = wc)
          case first =>
            have ito : ∀ (h : y.it.to = []), ((Nm.S y.it.to).toList == []) = true := fun h => by rw [Nm.toList_S, h]; rfl
            have nto : ∀ (h : y.it.to ≠ []), ((Nm.S y.it.to).toList == []) = false := fun h => by rw [Nm.toList_S, beq_eq_false_iff_ne]; exact h
            have HTO : Hid (∀ (h : y.it.to = []), ((Nm.S y.it.to).toList == []) = true) := ito
            have HNT : Hid (∀ (h : y.it.to ≠ []), ((Nm.S y.it.to).toList == []) = false) := nto
            clear ito nto
            by_cases a1 : 0 < y.it.body.length
            · have q1 : (0 : Int) < (y.it.body.length : Int) := by omega
              by_cases a2 : y.it.kind = 1
              · have q2 : ((y.it.kind : Int) != 1) = false := by rw [a2]; rfl
                obtain rfl : bL = false := hL.out.symm.trans (decide_eq_false (fun h => by omega))
                by_cases a3 : y.it.to = []
                · obtain rfl : bI = false := hI.out.symm.trans (decide_eq_false (fun h => by
                    rcases h with h | h
                    · exact h.2 a2
                    · exact h.1 a3))
                  have q3 := HTO.out a3
                  clear a1 a2 a3
                  go_wp2_with (go_at_call 72; refine (HLK.out _).mono ?_; rintro e w9 ⟨rfl, rfl⟩)
                  go_meet
                  case rel => exact ⟨rfl, rfl⟩
                · obtain rfl : bI = true := hI.out.symm.trans (decide_eq_true (.inr ⟨a3, fun h => by omega⟩))
                  have q3 := HNT.out a3
                  clear a1 a2 a3
                  go_wp2_with (go_at_call 72; refine (HLK.out _).mono ?_; rintro e w9 ⟨rfl, rfl⟩)
                  go_meet
                  case rel => exact ⟨rfl, rfl⟩
              · have q2 : ((y.it.kind : Int) != 1) = true := by rw [bne_iff_ne]; omega
                obtain rfl : bI = true := hI.out.symm.trans (decide_eq_true (.inl ⟨a1, a2⟩))
                clear a1 a2
                go_wp2_with fail
                go_meet
                case rel => exact ⟨rfl, rfl⟩
            · have q1 : ¬ (0 : Int) < (y.it.body.length : Int) := by omega
              by_cases a3 : y.it.to = []
              · obtain rfl : bI = false := hI.out.symm.trans (decide_eq_false (fun h => by
                  rcases h with h | h
                  · exact a1 h.1
                  · exact h.1 a3))
                have q3 := HTO.out a3
                clear a1 a3
                go_wp2_with fail
                go_meet
                case rel => exact ⟨rfl, rfl⟩
              · have q3 := HNT.out a3
                cases bL with
                | true =>
                  have a4 := of_decide_eq_true hL.out
                  obtain rfl : bI = false := hI.out.symm.trans (decide_eq_false (fun h => by
                    rcases h with h | h
                    · exact a1 h.1
                    · exact h.2 a4))
                  clear a1 a3 a4
                  go_wp2_with (go_at_call 72; refine (HLK.out _).mono ?_; rintro e w9 ⟨rfl, rfl⟩)
                  go_meet
                  case rel => exact ⟨rfl, rfl⟩
                | false =>
                  have a4 := of_decide_eq_false hL.out
                  obtain rfl : bI = true := hI.out.symm.trans (decide_eq_true (.inr ⟨a3, a4⟩))
                  clear a1 a3 a4
                  go_wp2_with (go_at_call 72; refine (HLK.out _).mono ?_; rintro e w9 ⟨rfl, rfl⟩)
                  go_meet
                  case rel => exact ⟨rfl, rfl⟩
          case rest =>
            obtain ⟨rfl, rfl⟩ := hcut
            cases bI with
            | true =>
              go_wp2
              go_ret
              exact ⟨rfl, hb1⟩
            | false =>
            have hr := hR.out
            by_cases a1 : 65536 < y.it.body.length
            · have q1 : (65536 : Int) < (y.it.body.length : Int) := by omega
              rw [if_pos a1] at hr
              clear a1
              obtain rfl := hr
              go_wp2
              go_ret
              exact ⟨rfl, hb1⟩
            · have q1 : ¬ (65536 : Int) < (y.it.body.length : Int) := by omega
              rw [if_neg a1] at hr
              by_cases a3 : y.it.kind = 3
              · rw [if_pos a3] at hr
                have q3 : ((y.it.kind : Int) == 3) = true := by rw [a3]; rfl
                obtain ⟨tA, tE, ht⟩ : ∃ a b, Hid (Nm.check y.it.to = (a, b)) := ⟨_, _, show Nm.check y.it.to = _ from rfl⟩
                have HD : Hid (∀ u, Calls Tryz.prog 71 #[.string (Nm.S y.it.to)] u fun e w' => e = .returned (.tuple #[.int .i64 tA, .int .i64 tE]) ∧ Bw u w') := fun u => by
                  have := rcheckL y.it.to (by omega) u
                  rwa [ht.out] at this
                rw [ht.out] at hr
                dsimp only at hr
                obtain rfl := hr
                clear a1 a3
                go_wp2_with (go_at_call 71; refine (HD.out _).mono ?_; rintro e w2 ⟨rfl, hw2⟩)
                go_ret
                exact ⟨rfl, hb1.trans hw2⟩
              · rw [if_neg a3] at hr
                have q3 : ((y.it.kind : Int) == 3) = false := by rw [beq_eq_false_iff_ne]; omega
                by_cases a4 : y.it.kind = 4
                · rw [if_pos a4] at hr
                  have q4 : ((y.it.kind : Int) == 4) = true := by rw [a4]; rfl
                  obtain ⟨tA, tE, ht⟩ : ∃ a b, Hid (Nm.lead y.it.path y.it.to = (a, b)) := ⟨_, _, show Nm.lead y.it.path y.it.to = _ from rfl⟩
                  have HD : Hid (∀ u, Calls Tryz.prog 73 #[.string (Nm.S y.it.path), .string (Nm.S y.it.to)] u fun e w' => e = .returned (.tuple #[.string (Nm.S tA), .int .i64 tE]) ∧ Bw u w') := fun u => by
                    have := rleadL y.it.path y.it.to (by omega) (by omega) u
                    rwa [ht.out] at this
                  rw [ht.out] at hr
                  dsimp only at hr
                  obtain rfl := hr
                  clear a1 a3 a4
                  go_wp2_with (go_at_call 73; refine (HD.out _).mono ?_; rintro e w2 ⟨rfl, hw2⟩)
                  go_ret
                  exact ⟨rfl, hb1.trans hw2⟩
                · rw [if_neg a4] at hr
                  have q4 : ((y.it.kind : Int) == 4) = false := by rw [beq_eq_false_iff_ne]; omega
                  clear a1 a3 a4
                  obtain rfl := hr
                  go_wp2
                  go_ret
                  exact ⟨rfl, hb1⟩
  · rw [if_pos hce]
    have q1 : (cE != 0) = true := Tr.i_no hce
    clear hce
    go_enter Tryz.func45, Tryz.ntmps45
    go_upto_region 1 with fail
    rw [← hW]
    clear hW
    go_wp2_with (go_at_call 71; refine (HC.out _).mono ?_; rintro e w1 ⟨rfl, hw1⟩)
    go_ret
    exact ⟨rfl, hbw.trans hw1⟩
end Go.Proofs.YtldkhbkgmiicbaaGreatDoor

/- The program's own May, of layer 11, as landed at 97b3c5cd: what a kind's items have. -/
namespace Go.Proofs.YtldkhbkgmiicbaaGreatDoor
open Go.RowKit Go.Deep
set_option linter.unusedVariables false
set_option linter.unusedSimpArgs false

theorem ncheckL (p : Tr.B) (h : p.length ≤ 4611686018427387904) (w : World) : Calls Tryz.prog 102 #[.string (Nm.S p)] w fun e w' => e = .returned (.tuple #[.int .i64 (Nm.check p).1, .int .i64 (Nm.check p).2]) ∧ Bw w w' := by
  have := ncheck_any (Nm.S p) (by rw [Nm.size_S]; exact h) w
  rwa [Nm.toList_S] at this
theorem nleadL (p q : Tr.B) (h : p.length ≤ 4611686018427387904) (k : q.length ≤ 4611686018427387904) (w : World) : Calls Tryz.prog 129 #[.string (Nm.S p), .string (Nm.S q)] w fun e w' => e = .returned (.tuple #[.string (Nm.S (Nm.lead p q).1), .int .i64 (Nm.lead p q).2]) ∧ Bw w w' := by
  have := nlead_any (Nm.S p) (Nm.S q) (by rw [Nm.size_S]; exact h) (by rw [Nm.size_S]; exact k) w
  rwa [Nm.toList_S, Nm.toList_S] at this
theorem ncompareL (p q : Tr.B) (h : p.length ≤ 4611686018427387904) (k : q.length ≤ 4611686018427387904) (w : World) : Calls Tryz.prog 79 #[.string (Nm.S p), .string (Nm.S q)] w fun e w' => e = .returned (.int .i64 (Nm.cmp p q)) ∧ Bw w w' := by
  have := ncompare_any (Nm.S p) (Nm.S q) (by rw [Nm.size_S]; exact h) (by rw [Nm.size_S]; exact k) w
  rwa [Nm.toList_S, Nm.toList_S] at this
theorem nupL (p : Tr.B) (h : p.length ≤ 1099511627776) (w : World) : Calls Tryz.prog 80 #[.string (Nm.S p)] w fun e w' => e = .returned (.string (Nm.S (Nm.up p))) ∧ w' = w := by
  have := nup_still (Nm.S p) (by rw [Nm.size_S]; exact h) w
  rwa [Nm.toList_S] at this
theorem upto_any (n m : Int) (w : World) : Calls Tryz.prog 104 #[.int .i64 n, .int .i64 m] w fun e w' => e = .returned (.bool (decide (0 ≤ n ∧ n ≤ m))) ∧ w' = w := by
  obtain ⟨r, hR⟩ : ∃ r, Hid (decide (0 ≤ n ∧ n ≤ m) = r) := ⟨_, rfl⟩
  rw [hR.out]
  by_cases h1 : 0 ≤ n
  · by_cases h2 : n ≤ m
    · obtain rfl : r = true := hR.out.symm.trans (decide_eq_true ⟨h1, h2⟩)
      go_enter Tryz.func104, Tryz.ntmps104
      go_wp2
      go_ret
      exact ⟨rfl, rfl⟩
    · obtain rfl : r = false := hR.out.symm.trans (decide_eq_false (fun h => h2 h.2))
      go_enter Tryz.func104, Tryz.ntmps104
      go_wp2
      go_ret
      exact ⟨by first | rfl | rw [decide_eq_false (by omega)], rfl⟩
  · obtain rfl : r = false := hR.out.symm.trans (decide_eq_false (fun h => h1 h.1))
    go_enter Tryz.func104, Tryz.ntmps104
    go_wp2
    go_ret
    exact ⟨rfl, rfl⟩
theorem itself_any (p q : Tr.B) (w : World) : Calls Tryz.prog 127 #[.string (Nm.S p), .string (Nm.S q)] w fun e w' => e = .returned (.tuple #[.string (Nm.S p), .int .i64 0]) ∧ Bw w w' := by
  go_enter Tryz.func127, Tryz.ntmps127
  go_wp2
  go_ret2
  exact ⟨rfl, Bw.refl _⟩
theorem named_any (p q : Tr.B) (hq : q.length ≤ 4611686018427387904) (w : World) : Calls Tryz.prog 128 #[.string (Nm.S p), .string (Nm.S q)] w fun e w' => e = .returned (.tuple #[.string (Nm.S (if (Nm.check q).2 = 0 then q else [])), .int .i64 (Nm.check q).2]) ∧ Bw w w' := by
  obtain ⟨cA, cE, hc⟩ : ∃ a b, Hid (Nm.check q = (a, b)) := ⟨_, _, show Nm.check q = _ from rfl⟩
  have HC : Hid (∀ u, Calls Tryz.prog 102 #[.string (Nm.S q)] u fun e w' => e = .returned (.tuple #[.int .i64 cA, .int .i64 cE]) ∧ Bw u w') := fun u => by
    have := ncheckL q hq u
    rwa [hc.out] at this
  rw [hc.out]
  dsimp only
  by_cases h : cE = 0
  · subst h
    rw [if_pos rfl]
    go_enter Tryz.func128, Tryz.ntmps128
    go_wp2_with (go_at_call 102; refine (HC.out _).mono ?_; rintro e w1 ⟨rfl, hw1⟩)
    go_ret2
    exact ⟨rfl, hw1⟩
  · rw [if_neg h]
    have q1 := Tr.i_no h
    clear h
    go_enter Tryz.func128, Tryz.ntmps128
    go_wp2_with (go_at_call 102; refine (HC.out _).mono ?_; rintro e w1 ⟨rfl, hw1⟩)
    go_ret2
    exact ⟨rfl, hw1⟩
namespace Tr
/-- what a kind's items have -/
def tMode (k : Nat) : Int := if k = 1 ∨ k = 2 then 4095 else 0
def tTime (k : Nat) : Int := if k = 1 ∨ k = 2 ∨ k = 4 then 1099511627776 else 0
def tBody (k : Nat) : Int := if k = 1 then 65536 else 0
def tLead (k : Nat) : Value := if k = 1 ∨ k = 2 then .func (.func 127) #[] #[] else if k = 3 then .func (.func 128) #[] #[] else if k = 4 then .func (.func 129) #[] #[] else .nilFunc
def trv (k : Nat) : Array Value := #[.int .i64 (tMode k), .int .i64 (tTime k), .int .i64 (tBody k), .bool (lnk k), tLead k]
def isKind (k : Nat) : Bool := decide (1 ≤ k ∧ k ≤ 4)
theorem trv_other {k : Nat} (h : ¬ (1 ≤ k ∧ k ≤ 4)) : trv k = #[.int .i64 0, .int .i64 0, .int .i64 0, .bool false, .nilFunc] := by
  unfold trv tMode tTime tBody tLead lnk
  rw [if_neg (by omega), if_neg (by omega), if_neg (by omega), if_neg (by omega), if_neg (by omega), if_neg (by omega), decide_eq_false (by omega)]
end Tr
theorem results_row_tmp11 {P : Program} {fn : Func} {p u : Tmp} {ty : TypeId} (h : fn.results = #[.cell p ty, .tmp u]) (tmps : Array Value) (w : World) (g : Nat) (t : TypeId) (cs : Array Value) (fr : Nat × Nat) (d : TypeDesc)
    (hp : tmps.getD p undef = .pointer (some ⟨g, 0, none⟩)) (hg : w.heap[g]? = some (.cells cs t fr))
    (hu : P.underlying ty = some d) (hd : (match d with | .struct _ | .array _ _ => true | _ => false) = true) (hi : (P.info? ty).map (·.size) = some cs.size) :
    (results fn tmps).run P w = .ok (.tuple #[.agg cs, tmps.getD u undef]) w := by
  rw [results_cell_tmp h, hp]
  simp [asAddr, run_loadVar_row w g t ty cs fr d hg hu hd hi, Result.andThen]
theorem info_traits : (Tryz.prog.info? 158).map (·.size) = some 5 := by kernel_rfl
theorem info_trv (a b c : Int) (d : Bool) (f : Value) : (Tryz.prog.info? 158).map (·.size) = some (#[Value.int .i64 a, .int .i64 b, .int .i64 c, .bool d, f] : Array Value).size := info_traits
theorem one_trv (a b c : Int) (d : Bool) (f : Value) (hf : f.oneCell' = true) : (#[Value.int .i64 a, .int .i64 b, .int .i64 c, .bool d, f] : Array Value).all (·.oneCell') = true := by
  rw [Array.all_eq_true_iff_forall_mem]
  intro x hx
  simp only [List.mem_toArray, List.mem_cons, List.not_mem_nil, or_false] at hx
  rcases hx with rfl | rfl | rfl | rfl | rfl
  all_goals first | rfl | exact hf
set_option maxRecDepth 100000 in
theorem traits_1 (w : World) : Calls Tryz.prog 103 #[.int .u8 1] w fun e w' => e = .returned (.tuple #[.agg #[.int .i64 4095, .int .i64 1099511627776, .int .i64 65536, .bool false, .func (.func 127) #[] #[]], .bool true]) ∧ Bw w w' := by
  go_enter Tryz.func103, Tryz.ntmps103
  go_wp2_with (refine wpList_store_row rfl 158 _ _ rfl w.heap.size #[.int .i64 4095, .int .i64 1099511627776, .int .i64 65536, .bool false, .func (.func 127) #[] #[]] rfl rfl 158 _ (heap_alloc_new _ _) (info_trv _ _ _ _ _) rfl (one_trv _ _ _ _ _ rfl) ?_; rw [setRow_alloc_new])
  exact bodyPost_ret (results_row_tmp11 (p := 2) (u := 3) (by rfl) _ _ w.heap.size 158 #[.int .i64 4095, .int .i64 1099511627776, .int .i64 65536, .bool false, .func (.func 127) #[] #[]] (0, 0) _ rfl (heap_alloc_new _ _) Tryz.underlying158 rfl (info_trv _ _ _ _ _)) rfl ⟨rfl, bw_alloc11 (Bw.refl _) _⟩
set_option maxRecDepth 100000 in
theorem traits_2 (w : World) : Calls Tryz.prog 103 #[.int .u8 2] w fun e w' => e = .returned (.tuple #[.agg #[.int .i64 4095, .int .i64 1099511627776, .int .i64 0, .bool false, .func (.func 127) #[] #[]], .bool true]) ∧ Bw w w' := by
  go_enter Tryz.func103, Tryz.ntmps103
  go_wp2_with (refine wpList_store_row rfl 158 _ _ rfl w.heap.size #[.int .i64 4095, .int .i64 1099511627776, .int .i64 0, .bool false, .func (.func 127) #[] #[]] rfl rfl 158 _ (heap_alloc_new _ _) (info_trv _ _ _ _ _) rfl (one_trv _ _ _ _ _ rfl) ?_; rw [setRow_alloc_new])
  exact bodyPost_ret (results_row_tmp11 (p := 2) (u := 3) (by rfl) _ _ w.heap.size 158 #[.int .i64 4095, .int .i64 1099511627776, .int .i64 0, .bool false, .func (.func 127) #[] #[]] (0, 0) _ rfl (heap_alloc_new _ _) Tryz.underlying158 rfl (info_trv _ _ _ _ _)) rfl ⟨rfl, bw_alloc11 (Bw.refl _) _⟩
set_option maxRecDepth 100000 in
theorem traits_3 (w : World) : Calls Tryz.prog 103 #[.int .u8 3] w fun e w' => e = .returned (.tuple #[.agg #[.int .i64 0, .int .i64 0, .int .i64 0, .bool true, .func (.func 128) #[] #[]], .bool true]) ∧ Bw w w' := by
  go_enter Tryz.func103, Tryz.ntmps103
  go_wp2_with (refine wpList_store_row rfl 158 _ _ rfl w.heap.size #[.int .i64 0, .int .i64 0, .int .i64 0, .bool true, .func (.func 128) #[] #[]] rfl rfl 158 _ (heap_alloc_new _ _) (info_trv _ _ _ _ _) rfl (one_trv _ _ _ _ _ rfl) ?_; rw [setRow_alloc_new])
  exact bodyPost_ret (results_row_tmp11 (p := 2) (u := 3) (by rfl) _ _ w.heap.size 158 #[.int .i64 0, .int .i64 0, .int .i64 0, .bool true, .func (.func 128) #[] #[]] (0, 0) _ rfl (heap_alloc_new _ _) Tryz.underlying158 rfl (info_trv _ _ _ _ _)) rfl ⟨rfl, bw_alloc11 (Bw.refl _) _⟩
set_option maxRecDepth 100000 in
theorem traits_4 (w : World) : Calls Tryz.prog 103 #[.int .u8 4] w fun e w' => e = .returned (.tuple #[.agg #[.int .i64 0, .int .i64 1099511627776, .int .i64 0, .bool true, .func (.func 129) #[] #[]], .bool true]) ∧ Bw w w' := by
  go_enter Tryz.func103, Tryz.ntmps103
  go_wp2_with (refine wpList_store_row rfl 158 _ _ rfl w.heap.size #[.int .i64 0, .int .i64 1099511627776, .int .i64 0, .bool true, .func (.func 129) #[] #[]] rfl rfl 158 _ (heap_alloc_new _ _) (info_trv _ _ _ _ _) rfl (one_trv _ _ _ _ _ rfl) ?_; rw [setRow_alloc_new])
  exact bodyPost_ret (results_row_tmp11 (p := 2) (u := 3) (by rfl) _ _ w.heap.size 158 #[.int .i64 0, .int .i64 1099511627776, .int .i64 0, .bool true, .func (.func 129) #[] #[]] (0, 0) _ rfl (heap_alloc_new _ _) Tryz.underlying158 rfl (info_trv _ _ _ _ _)) rfl ⟨rfl, bw_alloc11 (Bw.refl _) _⟩
set_option maxRecDepth 100000 in
theorem traits_5 (k : Nat) (h : ¬ (1 ≤ k ∧ k ≤ 4)) (w : World) : Calls Tryz.prog 103 #[.int .u8 (k : Int)] w fun e w' => e = .returned (.tuple #[.agg #[.int .i64 0, .int .i64 0, .int .i64 0, .bool false, .nilFunc], .bool false]) ∧ Bw w w' := by
  have e1 : ((k : Int) == 1) = false := by rw [beq_eq_false_iff_ne]; omega
  have e2 : ((k : Int) == 2) = false := by rw [beq_eq_false_iff_ne]; omega
  have e3 : ((k : Int) == 3) = false := by rw [beq_eq_false_iff_ne]; omega
  have e4 : ((k : Int) == 4) = false := by rw [beq_eq_false_iff_ne]; omega
  clear h
  go_enter Tryz.func103, Tryz.ntmps103
  go_wp2_with (refine wpList_store_row rfl 158 _ _ rfl w.heap.size #[.int .i64 0, .int .i64 0, .int .i64 0, .bool false, .nilFunc] rfl rfl 158 _ (heap_alloc_new _ _) (info_trv _ _ _ _ _) rfl (one_trv _ _ _ _ _ rfl) ?_; rw [setRow_alloc_new])
  exact bodyPost_ret (results_row_tmp11 (p := 2) (u := 3) (by rfl) _ _ w.heap.size 158 #[.int .i64 0, .int .i64 0, .int .i64 0, .bool false, .nilFunc] (0, 0) _ rfl (heap_alloc_new _ _) Tryz.underlying158 rfl (info_trv _ _ _ _ _)) rfl ⟨rfl, bw_alloc11 (Bw.refl _) _⟩
theorem traits_any (k : Nat) (w : World) : Calls Tryz.prog 103 #[.int .u8 (k : Int)] w fun e w' => e = .returned (.tuple #[.agg (Tr.trv k), .bool (Tr.isKind k)]) ∧ Bw w w' := by
  by_cases h : 1 ≤ k ∧ k ≤ 4
  · have : k = 1 ∨ k = 2 ∨ k = 3 ∨ k = 4 := by omega
    rcases this with rfl | rfl | rfl | rfl
    · exact traits_1 w
    · exact traits_2 w
    · exact traits_3 w
    · exact traits_4 w
  · rw [Tr.trv_other h, show Tr.isKind k = false from decide_eq_false h]
    exact traits_5 k h w
end Go.Proofs.YtldkhbkgmiicbaaGreatDoor
