/- Texts of mine, put together. -/
import Derived.Test.YtldkhbkgmiicbaaGreatDoorBu12

/- The program's own May, of layer 11, as landed at 97b3c5cd. -/
namespace Go.Proofs.YtldkhbkgmiicbaaGreatDoor
open Go.RowKit Go.Deep
set_option linter.unusedVariables false
set_option linter.unusedSimpArgs false

namespace Tr
def bA (x : It) : Bool := !(isKind x.kind) || (!(decide (0 ≤ x.time ∧ x.time ≤ tTime x.kind)) || !(decide (0 ≤ x.mode ∧ x.mode ≤ tMode x.kind)))
def bB (x : It) : Bool := (decide (0 < x.body.length) && decide (tBody x.kind = 0)) || (decide (x.to ≠ []) && !(lnk x.kind))
def leadE (x : It) : Int := if x.kind = 3 then (Nm.check x.to).2 else if x.kind = 4 then (Nm.lead x.path x.to).2 else 0
theorem bA_iff (x : It) : bA x = true ↔ ¬ (1 ≤ x.kind ∧ x.kind ≤ 4) ∨ ¬ (0 ≤ x.time ∧ x.time ≤ tTime x.kind) ∨ ¬ (0 ≤ x.mode ∧ x.mode ≤ tMode x.kind) := by
  unfold bA isKind
  simp only [Bool.or_eq_true, Bool.not_eq_true', decide_eq_false_iff_not]
theorem bB_iff (x : It) : bB x = true ↔ (0 < x.body.length ∧ tBody x.kind = 0) ∨ (x.to ≠ [] ∧ lnk x.kind = false) := by
  unfold bB
  simp only [Bool.or_eq_true, Bool.and_eq_true, Bool.not_eq_true', decide_eq_true_eq]
theorem may_alt (x : It) : mayE x = if (Nm.check x.path).2 ≠ 0 then (Nm.check x.path).2 else if bA x = true then 1 else if bB x = true then 110 else if tBody x.kind < (x.body.length : Int) then 2 else leadE x := by
  by_cases hc : (Nm.check x.path).2 ≠ 0
  · unfold mayE; rw [if_pos hc, if_pos hc]
  rw [if_neg hc]
  have e : mayE x = if x.kind < 1 ∨ 4 < x.kind then 1 else if x.time < 0 ∨ 1099511627776 < x.time ∨ (x.kind = 3 ∧ x.time ≠ 0) then 1 else if x.mode < 0 ∨ 4095 < x.mode ∨ ((x.kind = 3 ∨ x.kind = 4) ∧ x.mode ≠ 0) then 1 else if (0 < x.body.length ∧ x.kind ≠ 1) ∨ (x.to ≠ [] ∧ ¬ (x.kind = 3 ∨ x.kind = 4)) then 110 else if 65536 < x.body.length then 2 else leadE x := by
    unfold mayE leadE; rw [if_neg hc]
  rw [e]
  clear e hc
  have hA := bA_iff x
  have hB := bB_iff x
  generalize leadE x = le
  by_cases hk : 1 ≤ x.kind ∧ x.kind ≤ 4
  · rw [if_neg (by omega)]
    have h4 : x.kind = 1 ∨ x.kind = 2 ∨ x.kind = 3 ∨ x.kind = 4 := by omega
    have a1 : tTime x.kind = if x.kind = 3 then 0 else 1099511627776 := by
      unfold tTime; rcases h4 with h | h | h | h <;> rw [h] <;> rfl
    have a2 : tMode x.kind = if x.kind = 3 ∨ x.kind = 4 then 0 else 4095 := by
      unfold tMode; rcases h4 with h | h | h | h <;> rw [h] <;> rfl
    have a3 : lnk x.kind = false ↔ ¬ (x.kind = 3 ∨ x.kind = 4) := by unfold lnk; rw [decide_eq_false_iff_not]
    have a4 : tBody x.kind = if x.kind = 1 then 65536 else 0 := rfl
    rw [a1, a2] at hA
    rw [a3, a4] at hB
    rw [a4]
    by_cases c1 : x.time < 0 ∨ 1099511627776 < x.time ∨ (x.kind = 3 ∧ x.time ≠ 0)
    · rw [if_pos c1, if_pos (hA.2 (.inr (.inl (by split <;> omega))))]
    rw [if_neg c1]
    by_cases c2 : x.mode < 0 ∨ 4095 < x.mode ∨ ((x.kind = 3 ∨ x.kind = 4) ∧ x.mode ≠ 0)
    · rw [if_pos c2, if_pos (hA.2 (.inr (.inr (by split <;> omega))))]
    rw [if_neg c2, if_neg (show ¬ bA x = true from fun h => by
      rcases hA.1 h with h | h | h
      · exact h hk
      · split at h <;> omega
      · split at h <;> omega)]
    by_cases c3 : (0 < x.body.length ∧ x.kind ≠ 1) ∨ (x.to ≠ [] ∧ ¬ (x.kind = 3 ∨ x.kind = 4))
    · rw [if_pos c3, if_pos (hB.2 (by
        rcases c3 with c | c
        · exact .inl ⟨c.1, by rw [if_neg c.2]⟩
        · exact .inr c))]
    rw [if_neg c3, if_neg (show ¬ bB x = true from fun h => c3 (by
      rcases hB.1 h with h | h
      · refine .inl ⟨h.1, fun e => ?_⟩
        rw [if_pos e] at h
        omega
      · exact .inr h))]
    by_cases c4 : x.kind = 1
    · rw [if_pos c4]
      by_cases c5 : 65536 < x.body.length
      · rw [if_pos c5, if_pos (by omega)]
      · rw [if_neg c5, if_neg (by omega)]
    · rw [if_neg c4]
      have : ¬ 0 < x.body.length := fun h => c3 (.inl ⟨h, c4⟩)
      rw [if_neg (by omega), if_neg (by omega)]
  · rw [if_pos (by omega), if_pos (hA.2 (.inl hk))]
end Tr
/-- traits in a block -/
def TrtAt (w : World) (g : Nat) (a : Array Value) : Prop := w.heap[g]? = some (.cells a 158 (0, 0))
set_option maxRecDepth 100000 in
set_option maxHeartbeats 8000000 in
theorem tmay_any (y : Tr.Iv) (hf : Tr.Fit y.it) (w : World) : Calls Tryz.prog 78 #[.agg y.arr] w fun e w' => e = .returned (.int .i64 (Tr.mayE y.it)) ∧ Bw w w' := by
  rw [Tr.may_alt]
  obtain ⟨f1, f2, f3, f4, f5, f6⟩ := hf
  obtain ⟨W, hW⟩ : ∃ W, W = w.alloc (.cells y.arr 47) := ⟨_, rfl⟩
  have hbw : Bw w W := by rw [hW]; exact bw_alloc11 (Bw.refl _) _
  have hX : Hid (BoxAt W w.heap.size y) := by rw [hW]; exact BoxAt.new _ _
  obtain ⟨vA, hA⟩ : ∃ r, Hid (Tr.bA y.it = r) := ⟨_, rfl⟩
  obtain ⟨vB, hB⟩ : ∃ r, Hid (Tr.bB y.it = r) := ⟨_, rfl⟩
  obtain ⟨cA, cE, hc⟩ : ∃ a b, Hid (Nm.check y.it.path = (a, b)) := ⟨_, _, show Nm.check y.it.path = _ from rfl⟩
  have HC : Hid (∀ u, Calls Tryz.prog 102 #[.string (Nm.S y.it.path)] u fun e w' => e = .returned (.tuple #[.int .i64 cA, .int .i64 cE]) ∧ Bw u w') := fun u => by
    have := ncheckL y.it.path (by omega) u
    rwa [hc.out] at this
  rw [hc.out, hA.out, hB.out]
  dsimp only
  obtain ⟨mx, hmx⟩ : ∃ r, Hid (Tr.tMode y.it.kind = r) := ⟨_, rfl⟩
  obtain ⟨tx, htx⟩ : ∃ r, Hid (Tr.tTime y.it.kind = r) := ⟨_, rfl⟩
  obtain ⟨bx, hbx⟩ : ∃ r, Hid (Tr.tBody y.it.kind = r) := ⟨_, rfl⟩
  obtain ⟨lk, hlk⟩ : ∃ r, Hid (Tr.lnk y.it.kind = r) := ⟨_, rfl⟩
  obtain ⟨fv, hfv⟩ : ∃ r, Hid (Tr.tLead y.it.kind = r) := ⟨_, rfl⟩
  obtain ⟨ok, hok⟩ : ∃ r, Hid (Tr.isKind y.it.kind = r) := ⟨_, rfl⟩
  obtain ⟨uT, huT⟩ : ∃ r, Hid (decide (0 ≤ y.it.time ∧ y.it.time ≤ tx) = r) := ⟨_, rfl⟩
  obtain ⟨uM, huM⟩ : ∃ r, Hid (decide (0 ≤ y.it.mode ∧ y.it.mode ≤ mx) = r) := ⟨_, rfl⟩
  have HT : Hid (∀ u, Calls Tryz.prog 103 #[.int .u8 (y.it.kind : Int)] u fun e w' => e = .returned (.tuple #[.agg #[.int .i64 mx, .int .i64 tx, .int .i64 bx, .bool lk, fv], .bool ok]) ∧ Bw u w') := fun u => by
    have := traits_any y.it.kind u
    unfold Tr.trv at this
    rwa [hmx.out, htx.out, hbx.out, hlk.out, hfv.out, hok.out] at this
  have HUT : Hid (∀ u, Calls Tryz.prog 104 #[.int .i64 y.it.time, .int .i64 tx] u fun e w' => e = .returned (.bool uT) ∧ w' = u) := fun u => by rw [← huT.out]; exact upto_any _ _ u
  have HUM : Hid (∀ u, Calls Tryz.prog 104 #[.int .i64 y.it.mode, .int .i64 mx] u fun e w' => e = .returned (.bool uM) ∧ w' = u) := fun u => by rw [← huM.out]; exact upto_any _ _ u
  have hone : Hid (fv.oneCell' = true) := by
    show _ = _
    rw [← hfv.out]; unfold Tr.tLead
    repeat' split
    all_goals rfl
  have hvA : Hid (vA = (!ok || (!uT || !uM))) := by
    show _ = _
    rw [← hA.out]; unfold Tr.bA; rw [hok.out, htx.out, hmx.out, huT.out, huM.out]
  have hvB : Hid (vB = ((decide (0 < y.it.body.length) && decide (bx = 0)) || (decide (y.it.to ≠ []) && !lk))) := by
    show _ = _
    rw [← hB.out]; unfold Tr.bB; rw [hbx.out, hlk.out]
  have hif := info_trv mx tx bx lk fv
  rw [hbx.out]
  obtain ⟨le, hle⟩ : ∃ r, Hid (Tr.leadE y.it = r) := ⟨_, rfl⟩
  rw [hle.out]
  obtain ⟨R, hR⟩ : ∃ R, Hid ((if bx < (y.it.body.length : Int) then 2 else le) = R) := ⟨_, rfl⟩
  rw [hR.out]
  obtain ⟨x0, x1, x2, x3, x4, x5⟩ := hX.out.cells
  by_cases hce : cE = 0
  · subst hce
    rw [if_neg (by simp)]
    go_enter Tryz.func78, Tryz.ntmps78
    go_upto_region 1 with fail
    rw [← hW]
    clear hW
    go_upto_region 5 with (first
      | (go_at_call 102; refine (HC.out _).mono ?_; rintro e w1 ⟨rfl, hw1⟩; have hb1 := hbw.trans hw1; clear x0 x1 x2 x3 x4 x5; have hX1 : Hid (BoxAt w1 w.heap.size y) := hX.out.keep hw1; obtain ⟨x0, x1, x2, x3, x4, x5⟩ := hX1.out.cells)
      | (go_at_call 103; refine (HT.out _).mono ?_; rintro e w2 ⟨rfl, hw2⟩; have hb2 := hb1.trans hw2; clear x0 x1 x2 x3 x4 x5; have hX2 : Hid (BoxAt w2 w.heap.size y) := hX1.out.keep hw2)
      | (refine wpList_store_row rfl 158 _ _ rfl w2.heap.size #[.int .i64 mx, .int .i64 tx, .int .i64 bx, .bool lk, fv] rfl rfl 158 _ (heap_alloc_new _ _) hif rfl (one_trv _ _ _ _ _ hone.out) ?_; rw [setRow_alloc_new]; obtain ⟨W3, hW3⟩ : ∃ V, V = w2.alloc (.cells #[.int .i64 mx, .int .i64 tx, .int .i64 bx, .bool lk, fv] 158) := ⟨_, rfl⟩; have hT3 : TrtAt W3 w2.heap.size #[.int .i64 mx, .int .i64 tx, .int .i64 bx, .bool lk, fv] := (by rw [hW3]; exact heap_alloc_new _ _); have hb3 : Bw w2 W3 := (by rw [hW3]; exact bw_alloc11 (Bw.refl _) _); rw [← hW3]; clear hW3; obtain ⟨x0, x1, x2, x3, x4, x5⟩ := (hX2.out.keep hb3).cells; have t0 : W3.cell? ⟨w2.heap.size, 0, none⟩ = some (.int .i64 mx) := cell_of_row W3 w2.heap.size 0 _ _ _ hT3; have t1 : W3.cell? ⟨w2.heap.size, 1, none⟩ = some (.int .i64 tx) := cell_of_row W3 w2.heap.size 1 _ _ _ hT3; have t2 : W3.cell? ⟨w2.heap.size, 2, none⟩ = some (.int .i64 bx) := cell_of_row W3 w2.heap.size 2 _ _ _ hT3; have t3 : W3.cell? ⟨w2.heap.size, 3, none⟩ = some (.bool lk) := cell_of_row W3 w2.heap.size 3 _ _ _ hT3; have t4 : W3.cell? ⟨w2.heap.size, 4, none⟩ = some fv := cell_of_row W3 w2.heap.size 4 _ _ _ hT3; have hbb := hb2.trans hb3; clear hT3))
    go_cut [24] from 25 to 42 (fun v wc => v = .bool vA ∧ wc = W3)
    case first =>
      cases ok with
      | false =>
        obtain rfl : vA = true := hvA.out
        go_wp2_with fail
        go_meet
        case rel => exact ⟨rfl, rfl⟩
      | true =>
      cases uT with
      | false =>
        obtain rfl : vA = true := hvA.out
        go_wp2_with (go_at_call 104; refine (HUT.out _).mono ?_; rintro e w9 ⟨rfl, rfl⟩)
        go_meet
        case rel => exact ⟨rfl, rfl⟩
      | true =>
      have tok1 : Hid (y = y) := rfl
      have tok2 : Hid (y = y) := rfl
      cases uM with
      | false =>
        obtain rfl : vA = true := hvA.out
        go_wp2_with (first | (go_at_call 104; clear tok1; refine (HUT.out _).mono ?_; rintro e w9 ⟨rfl, rfl⟩) | (go_at_call 104; clear tok2; refine (HUM.out _).mono ?_; rintro e w9 ⟨rfl, rfl⟩))
        go_meet
        case rel => exact ⟨rfl, rfl⟩
      | true =>
        obtain rfl : vA = false := hvA.out
        go_wp2_with (first | (go_at_call 104; clear tok1; refine (HUT.out _).mono ?_; rintro e w9 ⟨rfl, rfl⟩) | (go_at_call 104; clear tok2; refine (HUM.out _).mono ?_; rintro e w9 ⟨rfl, rfl⟩))
        go_meet
        case rel => exact ⟨rfl, rfl⟩
    case rest =>
      obtain ⟨rfl, rfl⟩ := hcut
      cases vA with
      | true =>
        go_wp2
        go_ret
        exact ⟨rfl, hbb⟩
      | false =>
      go_upto_region 7 with fail
      go_cut [43] from 44 to 62 (fun v wx => v = .bool vB ∧ wx = wc)
      case first =>
        by_cases a1 : 0 < y.it.body.length
        · have q1 : (0 : Int) < (y.it.body.length : Int) := by omega
          by_cases a2 : bx = 0
          · subst a2
            obtain rfl : vB = true := by rw [hvB.out, decide_eq_true a1]; rfl
            clear a1
            go_wp2_with fail
            go_meet
            case rel => exact ⟨rfl, rfl⟩
          · have q2 : (bx == 0) = false := by rw [beq_eq_false_iff_ne]; exact a2
            by_cases a3 : y.it.to = []
            · have q3 : ((Nm.S y.it.to).toList == []) = true := by rw [Nm.toList_S, a3]; rfl
              obtain rfl : vB = false := by rw [hvB.out, decide_eq_false a2, decide_eq_false (show ¬ (y.it.to ≠ []) from fun h => h a3)]; simp
              clear a1 a2 a3
              go_wp2_with fail
              go_meet
              case rel => exact ⟨by first | rfl | (rw [q2]), rfl⟩
            · have q3 : ((Nm.S y.it.to).toList == []) = false := by rw [Nm.toList_S, beq_eq_false_iff_ne]; exact a3
              obtain rfl : vB = !lk := by rw [hvB.out, decide_eq_false a2, decide_eq_true (show y.it.to ≠ [] from a3)]; simp
              clear a1 a2 a3
              go_wp2_with fail
              go_meet
              case rel => exact ⟨by first | rfl | (rw [q2]), rfl⟩
        · have q1 : ¬ (0 : Int) < (y.it.body.length : Int) := by omega
          by_cases a3 : y.it.to = []
          · have q3 : ((Nm.S y.it.to).toList == []) = true := by rw [Nm.toList_S, a3]; rfl
            obtain rfl : vB = false := by rw [hvB.out, decide_eq_false a1, decide_eq_false (show ¬ (y.it.to ≠ []) from fun h => h a3)]; simp
            clear a1 a3
            go_wp2_with fail
            go_meet
            case rel => exact ⟨rfl, rfl⟩
          · have q3 : ((Nm.S y.it.to).toList == []) = false := by rw [Nm.toList_S, beq_eq_false_iff_ne]; exact a3
            obtain rfl : vB = !lk := by rw [hvB.out, decide_eq_false a1, decide_eq_true (show y.it.to ≠ [] from a3)]; simp
            clear a1 a3
            go_wp2_with fail
            go_meet
            case rel => exact ⟨rfl, rfl⟩
      case rest =>
        obtain ⟨rfl, rfl⟩ := hcut
        cases vB with
        | true =>
          go_wp2
          go_ret
          exact ⟨rfl, hbb⟩
        | false =>
        have hkk : Hid (1 ≤ y.it.kind ∧ y.it.kind ≤ 4) := by
          have h := hvA.out
          have : ok = true := by
            cases ok with
            | true => rfl
            | false => cases h
          show 1 ≤ y.it.kind ∧ y.it.kind ≤ 4
          exact of_decide_eq_true (hok.out.trans this)
        have hr := hR.out
        by_cases a1 : bx < (y.it.body.length : Int)
        · rw [if_pos a1] at hr
          obtain rfl := hr
          go_wp2
          go_ret
          exact ⟨rfl, hbb⟩
        · have q1 : (y.it.body.length : Int) ≤ bx := by omega
          rw [if_neg a1] at hr
          obtain rfl := hr
          clear a1
          have h4 : (y.it.kind = 1 ∨ y.it.kind = 2) ∨ y.it.kind = 3 ∨ y.it.kind = 4 := by have := hkk.out; omega
          rcases h4 with h | h | h
          · obtain rfl : fv = .func (.func 127) #[] #[] := by rw [← hfv.out]; unfold Tr.tLead; rw [if_pos h]
            have hl : Hid (0 = le) := by show _ = _; rw [← hle.out]; unfold Tr.leadE; rw [if_neg (by omega), if_neg (by omega)]
            clear h
            go_wp2_with (go_at_call 127; refine (itself_any _ _ _).mono ?_; rintro e w5 ⟨rfl, hw5⟩)
            go_ret
            exact ⟨ret_int hl.out, hbb.trans hw5⟩
          · obtain rfl : fv = .func (.func 128) #[] #[] := by rw [← hfv.out]; unfold Tr.tLead; rw [if_neg (by omega), if_pos h]
            obtain ⟨nA, hnA⟩ : ∃ r, Hid (Nm.S (if (Nm.check y.it.to).2 = 0 then y.it.to else []) = r) := ⟨_, rfl⟩
            have HN : Hid (∀ u, Calls Tryz.prog 128 #[.string (Nm.S y.it.path), .string (Nm.S y.it.to)] u fun e w' => e = .returned (.tuple #[.string nA, .int .i64 le]) ∧ Bw u w') := fun u => by
              have := named_any y.it.path y.it.to (by omega) u
              rw [hnA.out] at this
              rw [show le = (Nm.check y.it.to).2 by rw [← hle.out]; unfold Tr.leadE; rw [if_pos h]]
              exact this
            clear h
            go_wp2_with (go_at_call 128; refine (HN.out _).mono ?_; rintro e w5 ⟨rfl, hw5⟩)
            go_ret
            exact ⟨rfl, hbb.trans hw5⟩
          · obtain rfl : fv = .func (.func 129) #[] #[] := by rw [← hfv.out]; unfold Tr.tLead; rw [if_neg (by omega), if_neg (by omega), if_pos h]
            obtain ⟨nA, hnA⟩ : ∃ r, Hid (Nm.S (Nm.lead y.it.path y.it.to).1 = r) := ⟨_, rfl⟩
            have HN : Hid (∀ u, Calls Tryz.prog 129 #[.string (Nm.S y.it.path), .string (Nm.S y.it.to)] u fun e w' => e = .returned (.tuple #[.string nA, .int .i64 le]) ∧ Bw u w') := fun u => by
              have := nleadL y.it.path y.it.to (by omega) (by omega) u
              rw [hnA.out] at this
              rw [show le = (Nm.lead y.it.path y.it.to).2 by rw [← hle.out]; unfold Tr.leadE; rw [if_neg (by omega), if_pos h]]
              exact this
            clear h
            go_wp2_with (go_at_call 129; refine (HN.out _).mono ?_; rintro e w5 ⟨rfl, hw5⟩)
            go_ret
            exact ⟨rfl, hbb.trans hw5⟩
  · rw [if_pos hce]
    have q1 : (cE != 0) = true := Tr.i_no hce
    clear hce
    go_enter Tryz.func78, Tryz.ntmps78
    go_upto_region 1 with fail
    rw [← hW]
    clear hW
    go_wp2_with (go_at_call 102; refine (HC.out _).mono ?_; rintro e w1 ⟨rfl, hw1⟩)
    go_ret
    exact ⟨rfl, hbw.trans hw1⟩
end Go.Proofs.YtldkhbkgmiicbaaGreatDoor

/- The document's own Check, of layer 11. -/
namespace Go.Proofs.YtldkhbkgmiicbaaGreatDoor
open Go.RowKit Go.Deep
set_option linter.unusedVariables false
set_option linter.unusedSimpArgs false

theorem keep_S11 {w1 w w' : World} {a b : Addr} {u v : Value} (h : w.cell? a = some u ∧ w.cell? b = some v ∧ Bw w1 w) (g : Bw w w') : w'.cell? a = some u ∧ w'.cell? b = some v ∧ Bw w1 w' :=
  ⟨(g.cell (p := a) (block_lt_of_cell h.1)).trans h.1, (g.cell (p := b) (block_lt_of_cell h.2.1)).trans h.2.1, h.2.2.trans g⟩
theorem keep_cell11 {w w' : World} {a : Addr} {u : Value} (h : w.cell? a = some u) (g : Bw w w') : w'.cell? a = some u :=
  (g.cell (p := a) (block_lt_of_cell h)).trans h
theorem Tr.step_is (pre : List Tr.It) (x : Tr.It) : Tr.stepE pre x = if Tr.mayE x ≠ 0 then Tr.mayE x else if Tr.behind pre x = false then 111 else if Nm.up x.path ≠ [] ∧ Tr.hasB pre (Nm.up x.path) 2 = false then 112 else if x.kind = 3 ∧ Tr.hasB pre x.to 1 = false then 113 else 0 := rfl
theorem Tr.fit_in {w : World} {A : Option Addr} {L : List Tr.Iv} (h : ItsAt w A L) {i : Nat} {y : Tr.Iv} (hy : L[i]? = some y) : Tr.Fit y.it := (h.body y (List.mem_of_getElem? hy)).fit

set_option maxRecDepth 100000 in
set_option maxHeartbeats 8000000 in
theorem rcheck11_any (A : Option Addr) (cap : Nat) (L : List Tr.Iv) (hn : L.length ≤ 4611686018427387904) (hcap : L.length ≤ cap) (w : World) (ha : ItsAt w A L) :
    Calls Tryz.prog 30 #[.slice A L.length cap] w fun e w' => e = .returned (.tuple #[.int .i64 ((Tr.chkE (Tr.its L)).1 : Int), .int .i64 (Tr.chkE (Tr.its L)).2]) ∧ Bw w w' := by
  obtain ⟨rA, rE, hR⟩ : ∃ a b, Hid (Tr.chkE (Tr.its L) = (a, b)) := ⟨_, _, show Tr.chkE (Tr.its L) = _ from rfl⟩
  rw [hR.out]
  dsimp only
  obtain ⟨n, hnn⟩ : ∃ n, Hid (L.length = n) := ⟨_, rfl⟩
  rw [hnn.out] at hn hcap ⊢
  have HA : Hid (ItsAt w A L) := ha
  clear ha
  by_cases h256 : 256 < n
  · have hr := hR.out
    rw [Tr.chk_long (by rw [Tr.its_len, hnn.out]; exact h256), Prod.mk.injEq] at hr
    obtain ⟨rfl, rfl⟩ := hr
    have t1 : (256 : Int) < (n : Int) := by omega
    clear h256
    go_enter Tryz.func30, Tryz.ntmps30
    go_wp2
    go_ret2
    exact ⟨rfl, Bw.refl _⟩
  · have t1 : ¬ (256 : Int) < (n : Int) := by omega
    have HL : Hid ((Tr.its L).length ≤ 256) := by show _ ≤ _; rw [Tr.its_len, hnn.out]; omega
    clear h256
    go_enter Tryz.func30, Tryz.ntmps30
    go_wp2
    go_loopw [4] (fun i wr => ∃ k : Nat, k ≤ n ∧ i = .int .i64 (k : Int) ∧ Hid (Tr.Okto (Tr.its L) k) ∧ Bw w wr) (fun i _ => n - (intOf i).toNat)
    case atStart => exact ⟨0, Nat.zero_le _, rfl, Tr.okto_zero _, Bw.refl _⟩
    case round =>
      obtain ⟨i, hi, rfl, hok, hbw⟩ := hrel
      have i0 : (0 : Int) ≤ (i : Int) := Int.natCast_nonneg _
      by_cases hlt : i < n
      · have i1 : (i : Int) < (n : Int) := by omega
        obtain ⟨y, hy⟩ : ∃ y, Hid (L[i]? = some y) := ⟨_, List.getElem?_eq_getElem (by rw [hnn.out]; exact hlt)⟩
        have HI := Tr.its_at hy.out
        have HIy : Hid ((Tr.its L)[i]? = some y.it) := HI
        clear HI
        have HFit : Hid (Tr.Fit y.it) := Tr.fit_in HA.out hy.out
        obtain ⟨b, off, rfl, hY, -⟩ := (HA.out.keep hbw).at hy.out
        have HY : Hid (ItAt wr b (off + i * 6) y) := hY
        clear hY
        obtain ⟨em, hem⟩ : ∃ em, Hid (Tr.mayE y.it = em) := ⟨_, rfl⟩
        have HMay : Hid (∀ u, Calls Tryz.prog 45 #[.agg y.arr] u fun e w' => e = .returned (.int .i64 em) ∧ Bw u w') := fun u => by
          rw [← hem.out]; exact rmay_any y HFit.out u
        have hstep := Tr.step_is ((Tr.its L).take i) y.it
        rw [hem.out] at hstep
        have bad : ∀ er, Tr.stepE ((Tr.its L).take i) y.it = er → er ≠ 0 → rA = i ∧ rE = er := fun er h h0 => by
          have hr := hR.out
          rw [Tr.chk_bad HL.out hok.out HIy.out (by rw [h]; exact h0), h, Prod.mk.injEq] at hr
          exact ⟨hr.1.symm, hr.2.symm⟩
        have BAD : Hid (∀ er, Tr.stepE ((Tr.its L).take i) y.it = er → er ≠ 0 → rA = i ∧ rE = er) := bad
        clear bad
        by_cases h0 : em = 0
        · subst h0
          rw [if_neg (by simp)] at hstep
          obtain ⟨bh, hbh⟩ : ∃ r, Hid (Tr.behind ((Tr.its L).take i) y.it = r) := ⟨_, rfl⟩
          obtain ⟨up, hup⟩ : ∃ r, Hid (Nm.up y.it.path = r) := ⟨_, rfl⟩
          obtain ⟨b2, hb2⟩ : ∃ r, Hid (Tr.hasB ((Tr.its L).take i) up 2 = r) := ⟨_, rfl⟩
          obtain ⟨b1, hb1⟩ : ∃ r, Hid (Tr.hasB ((Tr.its L).take i) y.it.to 1 = r) := ⟨_, rfl⟩
          rw [hbh.out, hup.out, hb2.out, hb1.out] at hstep
          have HST : Hid _ := hstep
          clear hstep
          have hpl := (Tr.may_len hem.out).1
          have HUp : Hid (∀ u, Calls Tryz.prog 47 #[.string (Nm.S y.it.path)] u fun e w' => e = .returned (.string (Nm.S up)) ∧ Bw u w') := fun u => by
            rw [← hup.out]; exact rupL y.it.path (by omega) u
          have hlen : (L.take i).length = i := by rw [List.length_take, hnn.out]; omega
          have H2 : Hid (∀ u, Bw w u → Calls Tryz.prog 48 #[.slice (some ⟨b, off, none⟩) i cap, .string (Nm.S up), .int .u8 2] u fun e w' => e = .returned (.bool b2) ∧ w' = u) := fun u hu => by
            have := rhas_any (some ⟨b, off, none⟩) cap (L.take i) up 2 (by rw [hlen]; omega) (by decide) u ((HA.out.keep hu).take i)
            rwa [hlen, Tr.its_take, hb2.out] at this
          have H1 : Hid (∀ u, Bw w u → Calls Tryz.prog 48 #[.slice (some ⟨b, off, none⟩) i cap, .string (Nm.S y.it.to), .int .u8 1] u fun e w' => e = .returned (.bool b1) ∧ w' = u) := fun u hu => by
            have := rhas_any (some ⟨b, off, none⟩) cap (L.take i) y.it.to 1 (by rw [hlen]; omega) (by decide) u ((HA.out.keep hu).take i)
            rwa [hlen, Tr.its_take, hb1.out] at this
          clear hlen
          have hicap : (i : Int) ≤ (cap : Int) := by omega
          go_upto_region 9 with (first
            | refine wpList_load_it (by rfl) (.tmp 18) rfl b (off + i * 6) rfl y HY.out ?_
            | (go_at_call 45; refine (HMay.out _).mono ?_; rintro e w1 ⟨rfl, hw1⟩; have hbw1 := hbw.trans hw1))
          go_cut [41] from 25 to 41 (fun v wc => v = .bool (!bh) ∧ Bw w1 wc)
          case first =>
            rcases Nat.eq_zero_or_pos i with hi0 | hip
            · subst hi0
              obtain rfl : bh = true := hbh.out.symm.trans rfl
              go_quiet (fail)
              go_wp2_with fail
              go_meet
              case rel => exact ⟨rfl, Bw.drewN _ _⟩
            · obtain ⟨q, rfl⟩ : ∃ q, i = q + 1 := ⟨i - 1, by omega⟩
              obtain ⟨z, hz⟩ : ∃ z, Hid (L[q]? = some z) := ⟨_, List.getElem?_eq_getElem (by rw [hnn.out]; omega)⟩
              have hzm : Tr.mayE z.it = 0 := Tr.step_may (hok.out q z.it (by omega) (Tr.its_at hz.out))
              have hzl := (Tr.may_len hzm).1
              have hbv := hbh.out
              rw [Tr.behind_take (Tr.its_at hz.out)] at hbv
              obtain ⟨cv, hcv⟩ : ∃ r, Hid (Nm.cmp z.it.path y.it.path = r) := ⟨_, rfl⟩
              rw [hcv.out] at hbv
              have hcm : Hid (∀ u, Calls Tryz.prog 46 #[.string (Nm.S z.it.path), .string (Nm.S y.it.path)] u fun e w' => e = .returned (.int .i64 cv) ∧ Bw u w') := fun u => by
                rw [← hcv.out]; exact rcompareL z.it.path y.it.path (by omega) (by omega) u
              have hne : (cv != -1) = !bh := by
                rw [← hbv]
                by_cases h : cv = -1
                · subst h; rfl
                · rw [decide_eq_false h]; simp [h]
              obtain ⟨b', off', e', hZ, -⟩ := (HA.out.keep hbw1).at hz.out
              cases e'
              have c1 := hZ.c0
              have c2 := (HY.out.keep hw1).c0
              clear hZ hbv
              have r0 : (0 : Int) ≤ (q : Int) := Int.natCast_nonneg _
              have r1 : (q : Int) < (n : Int) := by omega
              have r2 : (0 : Int) ≤ (q : Int) + 1 := by omega
              have r3 : (q : Int) + 1 < (n : Int) := by omega
              have r4 : IntKind.i64.wrap (((q + 1 : Nat) : Int) - 1) = (q : Int) := by rw [IntKind.wrap_i64]; omega
              have r5 : IntKind.i64.wrap (q : Int) = (q : Int) := by rw [IntKind.wrap_i64]; omega
              go_region_held3 (fun w' => w'.cell? ⟨b, off + q * 6, none⟩ = some (.string (Nm.S z.it.path)) ∧ w'.cell? ⟨b, off + (q + 1) * 6, none⟩ = some (.string (Nm.S y.it.path)) ∧ Bw w1 w')
                (first | exact ⟨c1, c2, Below.drew (Bw.refl _)⟩ | assumption | exact keep_S11 (by assumption) (by assumption))
                (first | (go_at_call 46; refine (hcm.out _).mono ?_; rintro e w2 ⟨rfl, hw2⟩))
              rename_i hSe
              have hSw := hSe.2.2
              go_wp2_with fail
              go_meet
              case rel => exact ⟨by first | rfl | rw [hne], hSw⟩
          case rest =>
            obtain ⟨rfl, hwc⟩ := hcut
            have hbc := hbw1.trans hwc
            have c0 := ((HY.out.keep hw1).keep hwc).c0
            clear hwc
            cases bh with
            | false =>
              obtain ⟨rfl, rfl⟩ := BAD.out 111 HST.out (by decide)
              go_wp2
              go_ret2
              exact ⟨rfl, hbc⟩
            | true =>
            have hst2 := HST.out
            rw [if_neg (by decide)] at hst2
            have HST2 : Hid _ := hst2
            clear hst2 HST
            go_upto_region 12 with (go_at_call 47; refine (HUp.out _).mono ?_; rintro e w3 ⟨rfl, hw3⟩; have hb3 := hbc.trans hw3)
            go_cut [58] from 49 to 58 (fun v wx => v = .bool (decide (up ≠ []) && !b2) ∧ Bw w wx)
            case first =>
              by_cases hu : up = []
              · have q1 : ((Nm.S up).toList == []) = true := by rw [Nm.toList_S, hu]; rfl
                have q2 : Hid ((decide (up ≠ []) && !b2) = false) := by show _ = _; rw [decide_eq_false (by simp [hu])]; rfl
                clear hu
                go_wp2_with fail
                go_meet
                case rel => exact ⟨by rw [q2.out], hb3⟩
              · have q1 : ((Nm.S up).toList == []) = false := by rw [Nm.toList_S, beq_eq_false_iff_ne]; exact hu
                have q2 : Hid ((decide (up ≠ []) && !b2) = !b2) := by show _ = _; rw [decide_eq_true hu]; rfl
                clear hu
                go_wp2_with (go_at_call 48; refine (H2.out _ hb3).mono ?_; rintro e w4 ⟨rfl, rfl⟩)
                go_meet
                case rel => exact ⟨by rw [q2.out], hb3⟩
            case rest =>
              obtain ⟨rfl, hbd⟩ := hcut
              obtain ⟨bP, hP⟩ : ∃ r, Hid ((decide (up ≠ []) && !b2) = r) := ⟨_, rfl⟩
              rw [hP.out]
              have hYc := HA.out.keep hbd
              obtain ⟨b', off', e', hYd, -⟩ := hYc.at hy.out
              cases e'
              have k1 := hYd.c1
              have k5 := hYd.c5
              clear hYc hYd c0
              cases bP with
              | true =>
                have hu : up ≠ [] ∧ b2 = false := by
                  have := hP.out
                  rw [Bool.and_eq_true, decide_eq_true_eq] at this
                  exact ⟨this.1, by simpa using this.2⟩
                obtain ⟨rfl, rfl⟩ := BAD.out 112 (by rw [HST2.out, if_pos hu]) (by decide)
                clear hu
                go_wp2
                go_ret2
                exact ⟨rfl, hbd⟩
              | false =>
              have hst3 := HST2.out
              rw [if_neg (fun h => by
                have := hP.out
                rw [decide_eq_true h.1, h.2] at this
                cases this)] at hst3
              have HST3 : Hid _ := hst3
              clear hst3 HST2
              go_upto_region 14 with fail
              go_cut [77] from 60 to 77 (fun v wx => v = .bool (decide (y.it.kind = 3) && !b1) ∧ Bw w wx)
              case first =>
                by_cases hk : y.it.kind = 3
                · have q1 : ((y.it.kind : Int) == 3) = true := by rw [hk]; rfl
                  have q2 : Hid ((decide (y.it.kind = 3) && !b1) = !b1) := by show _ = _; rw [decide_eq_true hk]; rfl
                  clear hk
                  go_region_held3 (fun w' => w'.cell? ⟨b, off + i * 6 + 1, none⟩ = some (.int .u8 (y.it.kind : Int)) ∧ w'.cell? ⟨b, off + i * 6 + 5, none⟩ = some (.string (Nm.S y.it.to)) ∧ Bw wc w')
                    (first | exact ⟨k1, k5, Below.drew (Bw.refl _)⟩ | assumption | exact keep_S11 (by assumption) (by assumption))
                    (first | (go_at_call 48; refine (H1.out _ (by first | exact hbd.trans (by assumption) | exact hbd.trans (And.right (And.right (by assumption))))).mono ?_; rintro e w5 ⟨rfl, rfl⟩))
                  rename_i hSe
                  have hSw := hSe.2.2
                  go_wp2_with fail
                  go_meet
                  case rel => exact ⟨by rw [q2.out], hbd.trans hSw⟩
                · have q1 : ((y.it.kind : Int) == 3) = false := by rw [beq_eq_false_iff_ne]; omega
                  have q2 : Hid ((decide (y.it.kind = 3) && !b1) = false) := by show _ = _; rw [decide_eq_false hk]; rfl
                  clear hk
                  go_quiet (fail)
                  go_wp2_with fail
                  go_meet
                  case rel => exact ⟨by rw [q2.out], hbd.trans (Bw.drewN _ _)⟩
              case rest =>
                obtain ⟨rfl, hbe⟩ := hcut
                obtain ⟨bH, hH⟩ : ∃ r, Hid ((decide (y.it.kind = 3) && !b1) = r) := ⟨_, rfl⟩
                rw [hH.out]
                cases bH with
                | true =>
                  have hu : y.it.kind = 3 ∧ b1 = false := by
                    have := hH.out
                    rw [Bool.and_eq_true, decide_eq_true_eq] at this
                    exact ⟨this.1, by simpa using this.2⟩
                  obtain ⟨rfl, rfl⟩ := BAD.out 113 (by rw [HST3.out, if_pos hu]) (by decide)
                  clear hu
                  go_wp2
                  go_ret2
                  exact ⟨rfl, hbe⟩
                | false =>
                  have nx : Hid (Tr.Okto (Tr.its L) (i + 1)) := Tr.okto_succ hok.out HIy.out (by
                    rw [HST3.out, if_neg (fun h => by
                      have := hH.out
                      rw [decide_eq_true h.1, h.2] at this
                      cases this)])
                  go_wp2
                  go_roundw
                  case rel => exact ⟨i + 1, by omega, by go_num, nx, hbe⟩
                  case measure => simp [intOf]; omega
        · rw [if_pos h0] at hstep
          obtain ⟨rfl, rfl⟩ := BAD.out em hstep h0
          have q1 : (rE != 0) = true := Tr.i_no h0
          clear h0 hstep
          go_wp2_with (first
            | refine wpList_load_it (by rfl) (.tmp 18) rfl b _ rfl y HY.out ?_
            | (go_at_call 45; refine (HMay.out _).mono ?_; rintro e w1 ⟨rfl, hw1⟩))
          go_ret2
          exact ⟨rfl, hbw.trans hw1⟩
      · have ei : i = n := by omega
        subst ei
        have hr := hR.out
        rw [Tr.chk_good HL.out (Tr.okto_all (by rw [Tr.its_len, hnn.out]; exact hok.out)), Prod.mk.injEq] at hr
        obtain ⟨rfl, rfl⟩ := hr
        go_wp2
        go_ret2
        exact ⟨rfl, hbw⟩
end Go.Proofs.YtldkhbkgmiicbaaGreatDoor
