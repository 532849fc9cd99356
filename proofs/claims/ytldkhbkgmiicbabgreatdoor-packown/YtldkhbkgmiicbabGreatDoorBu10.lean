/- Texts of mine, put together. -/
import Derived.Test.YtldkhbkgmiicbabGreatDoorBu9

/- The program's own May, of layer 11, as landed at 97b3c5cd: what a kind's items have. -/
namespace Go.Proofs.YtldkhbkgmiicbabGreatDoor
open Go.RowKit Go.Deep
set_option linter.unusedVariables false
set_option linter.unusedSimpArgs false

theorem ncheckL (p : Tr.B) (h : p.length ≤ 4611686018427387904) (w : World) : Calls Tryz.prog 35 #[.string (Nm.S p)] w fun e w' => e = .returned (.tuple #[.int .i64 (Nm.check p).1, .int .i64 (Nm.check p).2]) ∧ Bw w w' := by
  have := ncheck_any (Nm.S p) (by rw [Nm.size_S]; exact h) w
  rwa [Nm.toList_S] at this
theorem nleadL (p q : Tr.B) (h : p.length ≤ 4611686018427387904) (k : q.length ≤ 4611686018427387904) (w : World) : Calls Tryz.prog 52 #[.string (Nm.S p), .string (Nm.S q)] w fun e w' => e = .returned (.tuple #[.string (Nm.S (Nm.lead p q).1), .int .i64 (Nm.lead p q).2]) ∧ Bw w w' := by
  have := nlead_any (Nm.S p) (Nm.S q) (by rw [Nm.size_S]; exact h) (by rw [Nm.size_S]; exact k) w
  rwa [Nm.toList_S, Nm.toList_S] at this
theorem ncompareL (p q : Tr.B) (h : p.length ≤ 4611686018427387904) (k : q.length ≤ 4611686018427387904) (w : World) : Calls Tryz.prog 40 #[.string (Nm.S p), .string (Nm.S q)] w fun e w' => e = .returned (.int .i64 (Nm.cmp p q)) ∧ Bw w w' := by
  have := ncompare_any (Nm.S p) (Nm.S q) (by rw [Nm.size_S]; exact h) (by rw [Nm.size_S]; exact k) w
  rwa [Nm.toList_S, Nm.toList_S] at this
theorem nupL (p : Tr.B) (h : p.length ≤ 1099511627776) (w : World) : Calls Tryz.prog 41 #[.string (Nm.S p)] w fun e w' => e = .returned (.string (Nm.S (Nm.up p))) ∧ w' = w := by
  have := nup_still (Nm.S p) (by rw [Nm.size_S]; exact h) w
  rwa [Nm.toList_S] at this
theorem upto_any (n m : Int) (w : World) : Calls Tryz.prog 37 #[.int .i64 n, .int .i64 m] w fun e w' => e = .returned (.bool (decide (0 ≤ n ∧ n ≤ m))) ∧ w' = w := by
  obtain ⟨r, hR⟩ : ∃ r, Hid (decide (0 ≤ n ∧ n ≤ m) = r) := ⟨_, rfl⟩
  rw [hR.out]
  by_cases h1 : 0 ≤ n
  · by_cases h2 : n ≤ m
    · obtain rfl : r = true := hR.out.symm.trans (decide_eq_true ⟨h1, h2⟩)
      go_enter Tryz.func37, Tryz.ntmps37
      go_wp2
      go_ret
      exact ⟨rfl, rfl⟩
    · obtain rfl : r = false := hR.out.symm.trans (decide_eq_false (fun h => h2 h.2))
      go_enter Tryz.func37, Tryz.ntmps37
      go_wp2
      go_ret
      exact ⟨by first | rfl | rw [decide_eq_false (by omega)], rfl⟩
  · obtain rfl : r = false := hR.out.symm.trans (decide_eq_false (fun h => h1 h.1))
    go_enter Tryz.func37, Tryz.ntmps37
    go_wp2
    go_ret
    exact ⟨rfl, rfl⟩
theorem itself_any (p q : Tr.B) (w : World) : Calls Tryz.prog 50 #[.string (Nm.S p), .string (Nm.S q)] w fun e w' => e = .returned (.tuple #[.string (Nm.S p), .int .i64 0]) ∧ Bw w w' := by
  go_enter Tryz.func50, Tryz.ntmps50
  go_wp2
  go_ret2
  exact ⟨rfl, Bw.refl _⟩
theorem named_any (p q : Tr.B) (hq : q.length ≤ 4611686018427387904) (w : World) : Calls Tryz.prog 51 #[.string (Nm.S p), .string (Nm.S q)] w fun e w' => e = .returned (.tuple #[.string (Nm.S (if (Nm.check q).2 = 0 then q else [])), .int .i64 (Nm.check q).2]) ∧ Bw w w' := by
  obtain ⟨cA, cE, hc⟩ : ∃ a b, Hid (Nm.check q = (a, b)) := ⟨_, _, show Nm.check q = _ from rfl⟩
  have HC : Hid (∀ u, Calls Tryz.prog 35 #[.string (Nm.S q)] u fun e w' => e = .returned (.tuple #[.int .i64 cA, .int .i64 cE]) ∧ Bw u w') := fun u => by
    have := ncheckL q hq u
    rwa [hc.out] at this
  rw [hc.out]
  dsimp only
  by_cases h : cE = 0
  · subst h
    rw [if_pos rfl]
    go_enter Tryz.func51, Tryz.ntmps51
    go_wp2_with (go_at_call 35; refine (HC.out _).mono ?_; rintro e w1 ⟨rfl, hw1⟩)
    go_ret2
    exact ⟨rfl, hw1⟩
  · rw [if_neg h]
    have q1 := Tr.i_no h
    clear h
    go_enter Tryz.func51, Tryz.ntmps51
    go_wp2_with (go_at_call 35; refine (HC.out _).mono ?_; rintro e w1 ⟨rfl, hw1⟩)
    go_ret2
    exact ⟨rfl, hw1⟩
namespace Tr
/-- what a kind's items have -/
def tMode (k : Nat) : Int := if k = 1 ∨ k = 2 then 4095 else 0
def tTime (k : Nat) : Int := if k = 1 ∨ k = 2 ∨ k = 4 then 1099511627776 else 0
def tBody (k : Nat) : Int := if k = 1 then 65536 else 0
def tLead (k : Nat) : Value := if k = 1 ∨ k = 2 then .func (.func 50) #[] #[] else if k = 3 then .func (.func 51) #[] #[] else if k = 4 then .func (.func 52) #[] #[] else .nilFunc
def trv (k : Nat) : Array Value := #[.int .i64 (tMode k), .int .i64 (tTime k), .int .i64 (tBody k), .bool (lnk k), tLead k]
def isKind (k : Nat) : Bool := decide (1 ≤ k ∧ k ≤ 4)
theorem trv_other {k : Nat} (h : ¬ (1 ≤ k ∧ k ≤ 4)) : trv k = #[.int .i64 0, .int .i64 0, .int .i64 0, .bool false, .nilFunc] := by
  unfold trv tMode tTime tBody tLead lnk
  rw [if_neg (by omega), if_neg (by omega), if_neg (by omega), if_neg (by omega), if_neg (by omega), if_neg (by omega), decide_eq_false (by omega)]
end Tr
theorem results_row_tmp11 {P : Program} {fn : Func} {p u : Tmp} {ty : TypeId} (h : fn.results = #[.cell p ty, .tmp u]) (tmps : Array Value) (w : World) (g : Nat) (t : TypeId) (cs : Array Value) (fr : Nat × Nat) (d : TypeDesc)
    (hp : tmps.getD p undef = .pointer (some ⟨g, 0, none⟩)) (hg : w.heap[g]? = some (.cells cs t fr))
    (hu : P.underlying ty = some d) (hd : (match d with | .struct _ | .array _ _ => true | _ => false) = true) (hi : (P.info? ty).map (·.size) = some cs.size) :
    (results fn tmps).run P w = .ok (.tuple #[.agg cs, tmps.getD u undef]) w := by
  rw [results_cell_tmp h, hp]
  simp [asAddr, run_loadVar_row w g t ty cs fr d hg hu hd hi, Result.andThen]
theorem info_traits : (Tryz.prog.info? 81).map (·.size) = some 5 := by kernel_rfl
theorem info_trv (a b c : Int) (d : Bool) (f : Value) : (Tryz.prog.info? 81).map (·.size) = some (#[Value.int .i64 a, .int .i64 b, .int .i64 c, .bool d, f] : Array Value).size := info_traits
theorem one_trv (a b c : Int) (d : Bool) (f : Value) (hf : f.oneCell' = true) : (#[Value.int .i64 a, .int .i64 b, .int .i64 c, .bool d, f] : Array Value).all (·.oneCell') = true := by
  rw [Array.all_eq_true_iff_forall_mem]
  intro x hx
  simp only [List.mem_toArray, List.mem_cons, List.not_mem_nil, or_false] at hx
  rcases hx with rfl | rfl | rfl | rfl | rfl
  all_goals first | rfl | exact hf
set_option maxRecDepth 100000 in
theorem traits_1 (w : World) : Calls Tryz.prog 36 #[.int .u8 1] w fun e w' => e = .returned (.tuple #[.agg #[.int .i64 4095, .int .i64 1099511627776, .int .i64 65536, .bool false, .func (.func 50) #[] #[]], .bool true]) ∧ Bw w w' := by
  go_enter Tryz.func36, Tryz.ntmps36
  go_wp2_with (refine wpList_store_row rfl 81 _ _ rfl w.heap.size #[.int .i64 4095, .int .i64 1099511627776, .int .i64 65536, .bool false, .func (.func 50) #[] #[]] rfl rfl 81 _ (heap_alloc_new _ _) (info_trv _ _ _ _ _) rfl (one_trv _ _ _ _ _ rfl) ?_; rw [setRow_alloc_new])
  exact bodyPost_ret (results_row_tmp11 (p := 2) (u := 3) (by rfl) _ _ w.heap.size 81 #[.int .i64 4095, .int .i64 1099511627776, .int .i64 65536, .bool false, .func (.func 50) #[] #[]] (0, 0) _ rfl (heap_alloc_new _ _) Tryz.underlying81 rfl (info_trv _ _ _ _ _)) rfl ⟨rfl, bw_alloc11 (Bw.refl _) _⟩
set_option maxRecDepth 100000 in
theorem traits_2 (w : World) : Calls Tryz.prog 36 #[.int .u8 2] w fun e w' => e = .returned (.tuple #[.agg #[.int .i64 4095, .int .i64 1099511627776, .int .i64 0, .bool false, .func (.func 50) #[] #[]], .bool true]) ∧ Bw w w' := by
  go_enter Tryz.func36, Tryz.ntmps36
  go_wp2_with (refine wpList_store_row rfl 81 _ _ rfl w.heap.size #[.int .i64 4095, .int .i64 1099511627776, .int .i64 0, .bool false, .func (.func 50) #[] #[]] rfl rfl 81 _ (heap_alloc_new _ _) (info_trv _ _ _ _ _) rfl (one_trv _ _ _ _ _ rfl) ?_; rw [setRow_alloc_new])
  exact bodyPost_ret (results_row_tmp11 (p := 2) (u := 3) (by rfl) _ _ w.heap.size 81 #[.int .i64 4095, .int .i64 1099511627776, .int .i64 0, .bool false, .func (.func 50) #[] #[]] (0, 0) _ rfl (heap_alloc_new _ _) Tryz.underlying81 rfl (info_trv _ _ _ _ _)) rfl ⟨rfl, bw_alloc11 (Bw.refl _) _⟩
set_option maxRecDepth 100000 in
theorem traits_3 (w : World) : Calls Tryz.prog 36 #[.int .u8 3] w fun e w' => e = .returned (.tuple #[.agg #[.int .i64 0, .int .i64 0, .int .i64 0, .bool true, .func (.func 51) #[] #[]], .bool true]) ∧ Bw w w' := by
  go_enter Tryz.func36, Tryz.ntmps36
  go_wp2_with (refine wpList_store_row rfl 81 _ _ rfl w.heap.size #[.int .i64 0, .int .i64 0, .int .i64 0, .bool true, .func (.func 51) #[] #[]] rfl rfl 81 _ (heap_alloc_new _ _) (info_trv _ _ _ _ _) rfl (one_trv _ _ _ _ _ rfl) ?_; rw [setRow_alloc_new])
  exact bodyPost_ret (results_row_tmp11 (p := 2) (u := 3) (by rfl) _ _ w.heap.size 81 #[.int .i64 0, .int .i64 0, .int .i64 0, .bool true, .func (.func 51) #[] #[]] (0, 0) _ rfl (heap_alloc_new _ _) Tryz.underlying81 rfl (info_trv _ _ _ _ _)) rfl ⟨rfl, bw_alloc11 (Bw.refl _) _⟩
set_option maxRecDepth 100000 in
theorem traits_4 (w : World) : Calls Tryz.prog 36 #[.int .u8 4] w fun e w' => e = .returned (.tuple #[.agg #[.int .i64 0, .int .i64 1099511627776, .int .i64 0, .bool true, .func (.func 52) #[] #[]], .bool true]) ∧ Bw w w' := by
  go_enter Tryz.func36, Tryz.ntmps36
  go_wp2_with (refine wpList_store_row rfl 81 _ _ rfl w.heap.size #[.int .i64 0, .int .i64 1099511627776, .int .i64 0, .bool true, .func (.func 52) #[] #[]] rfl rfl 81 _ (heap_alloc_new _ _) (info_trv _ _ _ _ _) rfl (one_trv _ _ _ _ _ rfl) ?_; rw [setRow_alloc_new])
  exact bodyPost_ret (results_row_tmp11 (p := 2) (u := 3) (by rfl) _ _ w.heap.size 81 #[.int .i64 0, .int .i64 1099511627776, .int .i64 0, .bool true, .func (.func 52) #[] #[]] (0, 0) _ rfl (heap_alloc_new _ _) Tryz.underlying81 rfl (info_trv _ _ _ _ _)) rfl ⟨rfl, bw_alloc11 (Bw.refl _) _⟩
set_option maxRecDepth 100000 in
theorem traits_5 (k : Nat) (h : ¬ (1 ≤ k ∧ k ≤ 4)) (w : World) : Calls Tryz.prog 36 #[.int .u8 (k : Int)] w fun e w' => e = .returned (.tuple #[.agg #[.int .i64 0, .int .i64 0, .int .i64 0, .bool false, .nilFunc], .bool false]) ∧ Bw w w' := by
  have e1 : ((k : Int) == 1) = false := by rw [beq_eq_false_iff_ne]; omega
  have e2 : ((k : Int) == 2) = false := by rw [beq_eq_false_iff_ne]; omega
  have e3 : ((k : Int) == 3) = false := by rw [beq_eq_false_iff_ne]; omega
  have e4 : ((k : Int) == 4) = false := by rw [beq_eq_false_iff_ne]; omega
  clear h
  go_enter Tryz.func36, Tryz.ntmps36
  go_wp2_with (refine wpList_store_row rfl 81 _ _ rfl w.heap.size #[.int .i64 0, .int .i64 0, .int .i64 0, .bool false, .nilFunc] rfl rfl 81 _ (heap_alloc_new _ _) (info_trv _ _ _ _ _) rfl (one_trv _ _ _ _ _ rfl) ?_; rw [setRow_alloc_new])
  exact bodyPost_ret (results_row_tmp11 (p := 2) (u := 3) (by rfl) _ _ w.heap.size 81 #[.int .i64 0, .int .i64 0, .int .i64 0, .bool false, .nilFunc] (0, 0) _ rfl (heap_alloc_new _ _) Tryz.underlying81 rfl (info_trv _ _ _ _ _)) rfl ⟨rfl, bw_alloc11 (Bw.refl _) _⟩
theorem traits_any (k : Nat) (w : World) : Calls Tryz.prog 36 #[.int .u8 (k : Int)] w fun e w' => e = .returned (.tuple #[.agg (Tr.trv k), .bool (Tr.isKind k)]) ∧ Bw w w' := by
  by_cases h : 1 ≤ k ∧ k ≤ 4
  · have : k = 1 ∨ k = 2 ∨ k = 3 ∨ k = 4 := by omega
    rcases this with rfl | rfl | rfl | rfl
    · exact traits_1 w
    · exact traits_2 w
    · exact traits_3 w
    · exact traits_4 w
  · rw [Tr.trv_other h, show Tr.isKind k = false from decide_eq_false h]
    exact traits_5 k h w
end Go.Proofs.YtldkhbkgmiicbabGreatDoor

/- The program's own May, of layer 11, as landed at 97b3c5cd. -/
namespace Go.Proofs.YtldkhbkgmiicbabGreatDoor
open Go.RowKit Go.Deep
set_option linter.unusedVariables false
set_option linter.unusedSimpArgs false

namespace Tr
def bA (x : It) : Bool := !(isKind x.kind) || (!(decide (0 ≤ x.time ∧ x.time ≤ tTime x.kind)) || !(decide (0 ≤ x.mode ∧ x.mode ≤ tMode x.kind)))
def bB (x : It) : Bool := (decide (0 < x.body.length) && decide (tBody x.kind = 0)) || (decide (x.to ≠ []) && !(lnk x.kind))
def leadE (x : It) : Int := if x.kind = 3 then (Nm.check x.to).2 else if x.kind = 4 then (Nm.lead x.path x.to).2 else 0
theorem bA_iff (x : It) : bA x = true ↔ ¬ (1 ≤ x.kind ∧ x.kind ≤ 4) ∨ ¬ (0 ≤ x.time ∧ x.time ≤ tTime x.kind) ∨ ¬ (0 ≤ x.mode ∧ x.mode ≤ tMode x.kind) := by
  unfold bA isKind
  simp only [Bool.or_eq_true, Bool.not_eq_true', decide_eq_false_iff_not]
theorem bB_iff (x : It) : bB x = true ↔ (0 < x.body.length ∧ tBody x.kind = 0) ∨ (x.to ≠ [] ∧ lnk x.kind = false) := by
  unfold bB
  simp only [Bool.or_eq_true, Bool.and_eq_true, Bool.not_eq_true', decide_eq_true_eq]
theorem may_alt (x : It) : mayE x = if (Nm.check x.path).2 ≠ 0 then (Nm.check x.path).2 else if bA x = true then 1 else if bB x = true then 110 else if tBody x.kind < (x.body.length : Int) then 2 else leadE x := by
  by_cases hc : (Nm.check x.path).2 ≠ 0
  · unfold mayE; rw [if_pos hc, if_pos hc]
  rw [if_neg hc]
  have e : mayE x = if x.kind < 1 ∨ 4 < x.kind then 1 else if x.time < 0 ∨ 1099511627776 < x.time ∨ (x.kind = 3 ∧ x.time ≠ 0) then 1 else if x.mode < 0 ∨ 4095 < x.mode ∨ ((x.kind = 3 ∨ x.kind = 4) ∧ x.mode ≠ 0) then 1 else if (0 < x.body.length ∧ x.kind ≠ 1) ∨ (x.to ≠ [] ∧ ¬ (x.kind = 3 ∨ x.kind = 4)) then 110 else if 65536 < x.body.length then 2 else leadE x := by
    unfold mayE leadE; rw [if_neg hc]
  rw [e]
  clear e hc
  have hA := bA_iff x
  have hB := bB_iff x
  generalize leadE x = le
  by_cases hk : 1 ≤ x.kind ∧ x.kind ≤ 4
  · rw [if_neg (by omega)]
    have h4 : x.kind = 1 ∨ x.kind = 2 ∨ x.kind = 3 ∨ x.kind = 4 := by omega
    have a1 : tTime x.kind = if x.kind = 3 then 0 else 1099511627776 := by
      unfold tTime; rcases h4 with h | h | h | h <;> rw [h] <;> rfl
    have a2 : tMode x.kind = if x.kind = 3 ∨ x.kind = 4 then 0 else 4095 := by
      unfold tMode; rcases h4 with h | h | h | h <;> rw [h] <;> rfl
    have a3 : lnk x.kind = false ↔ ¬ (x.kind = 3 ∨ x.kind = 4) := by unfold lnk; rw [decide_eq_false_iff_not]
    have a4 : tBody x.kind = if x.kind = 1 then 65536 else 0 := rfl
    rw [a1, a2] at hA
    rw [a3, a4] at hB
    rw [a4]
    by_cases c1 : x.time < 0 ∨ 1099511627776 < x.time ∨ (x.kind = 3 ∧ x.time ≠ 0)
    · rw [if_pos c1, if_pos (hA.2 (.inr (.inl (by split <;> omega))))]
    rw [if_neg c1]
    by_cases c2 : x.mode < 0 ∨ 4095 < x.mode ∨ ((x.kind = 3 ∨ x.kind = 4) ∧ x.mode ≠ 0)
    · rw [if_pos c2, if_pos (hA.2 (.inr (.inr (by split <;> omega))))]
    rw [if_neg c2, if_neg (show ¬ bA x = true from fun h => by
      rcases hA.1 h with h | h | h
      · exact h hk
      · split at h <;> omega
      · split at h <;> omega)]
    by_cases c3 : (0 < x.body.length ∧ x.kind ≠ 1) ∨ (x.to ≠ [] ∧ ¬ (x.kind = 3 ∨ x.kind = 4))
    · rw [if_pos c3, if_pos (hB.2 (by
        rcases c3 with c | c
        · exact .inl ⟨c.1, by rw [if_neg c.2]⟩
        · exact .inr c))]
    rw [if_neg c3, if_neg (show ¬ bB x = true from fun h => c3 (by
      rcases hB.1 h with h | h
      · refine .inl ⟨h.1, fun e => ?_⟩
        rw [if_pos e] at h
        omega
      · exact .inr h))]
    by_cases c4 : x.kind = 1
    · rw [if_pos c4]
      by_cases c5 : 65536 < x.body.length
      · rw [if_pos c5, if_pos (by omega)]
      · rw [if_neg c5, if_neg (by omega)]
    · rw [if_neg c4]
      have : ¬ 0 < x.body.length := fun h => c3 (.inl ⟨h, c4⟩)
      rw [if_neg (by omega), if_neg (by omega)]
  · rw [if_pos (by omega), if_pos (hA.2 (.inl hk))]
end Tr
/-- traits in a block -/
def TrtAt (w : World) (g : Nat) (a : Array Value) : Prop := w.heap[g]? = some (.cells a 81 (0, 0))
set_option maxRecDepth 100000 in
set_option maxHeartbeats 8000000 in
theorem tmay_any (y : Tr.Iv) (hf : Tr.Fit y.it) (w : World) : Calls Tryz.prog 25 #[.agg y.arr] w fun e w' => e = .returned (.int .i64 (Tr.mayE y.it)) ∧ Bw w w' := by
  rw [Tr.may_alt]
  obtain ⟨f1, f2, f3, f4, f5, f6⟩ := hf
  obtain ⟨W, hW⟩ : ∃ W, W = w.alloc (.cells y.arr 26) := ⟨_, rfl⟩
  have hbw : Bw w W := by rw [hW]; exact bw_alloc11 (Bw.refl _) _
  have hX : Hid (BoxAt W w.heap.size y) := by rw [hW]; exact BoxAt.new _ _
  obtain ⟨vA, hA⟩ : ∃ r, Hid (Tr.bA y.it = r) := ⟨_, rfl⟩
  obtain ⟨vB, hB⟩ : ∃ r, Hid (Tr.bB y.it = r) := ⟨_, rfl⟩
  obtain ⟨cA, cE, hc⟩ : ∃ a b, Hid (Nm.check y.it.path = (a, b)) := ⟨_, _, show Nm.check y.it.path = _ from rfl⟩
  have HC : Hid (∀ u, Calls Tryz.prog 35 #[.string (Nm.S y.it.path)] u fun e w' => e = .returned (.tuple #[.int .i64 cA, .int .i64 cE]) ∧ Bw u w') := fun u => by
    have := ncheckL y.it.path (by omega) u
    rwa [hc.out] at this
  rw [hc.out, hA.out, hB.out]
  dsimp only
  obtain ⟨mx, hmx⟩ : ∃ r, Hid (Tr.tMode y.it.kind = r) := ⟨_, rfl⟩
  obtain ⟨tx, htx⟩ : ∃ r, Hid (Tr.tTime y.it.kind = r) := ⟨_, rfl⟩
  obtain ⟨bx, hbx⟩ : ∃ r, Hid (Tr.tBody y.it.kind = r) := ⟨_, rfl⟩
  obtain ⟨lk, hlk⟩ : ∃ r, Hid (Tr.lnk y.it.kind = r) := ⟨_, rfl⟩
  obtain ⟨fv, hfv⟩ : ∃ r, Hid (Tr.tLead y.it.kind = r) := ⟨_, rfl⟩
  obtain ⟨ok, hok⟩ : ∃ r, Hid (Tr.isKind y.it.kind = r) := ⟨_, rfl⟩
  obtain ⟨uT, huT⟩ : ∃ r, Hid (decide (0 ≤ y.it.time ∧ y.it.time ≤ tx) = r) := ⟨_, rfl⟩
  obtain ⟨uM, huM⟩ : ∃ r, Hid (decide (0 ≤ y.it.mode ∧ y.it.mode ≤ mx) = r) := ⟨_, rfl⟩
  have HT : Hid (∀ u, Calls Tryz.prog 36 #[.int .u8 (y.it.kind : Int)] u fun e w' => e = .returned (.tuple #[.agg #[.int .i64 mx, .int .i64 tx, .int .i64 bx, .bool lk, fv], .bool ok]) ∧ Bw u w') := fun u => by
    have := traits_any y.it.kind u
    unfold Tr.trv at this
    rwa [hmx.out, htx.out, hbx.out, hlk.out, hfv.out, hok.out] at this
  have HUT : Hid (∀ u, Calls Tryz.prog 37 #[.int .i64 y.it.time, .int .i64 tx] u fun e w' => e = .returned (.bool uT) ∧ w' = u) := fun u => by rw [← huT.out]; exact upto_any _ _ u
  have HUM : Hid (∀ u, Calls Tryz.prog 37 #[.int .i64 y.it.mode, .int .i64 mx] u fun e w' => e = .returned (.bool uM) ∧ w' = u) := fun u => by rw [← huM.out]; exact upto_any _ _ u
  have hone : Hid (fv.oneCell' = true) := by
    show _ = _
    rw [← hfv.out]; unfold Tr.tLead
    repeat' split
    all_goals rfl
  have hvA : Hid (vA = (!ok || (!uT || !uM))) := by
    show _ = _
    rw [← hA.out]; unfold Tr.bA; rw [hok.out, htx.out, hmx.out, huT.out, huM.out]
  have hvB : Hid (vB = ((decide (0 < y.it.body.length) && decide (bx = 0)) || (decide (y.it.to ≠ []) && !lk))) := by
    show _ = _
    rw [← hB.out]; unfold Tr.bB; rw [hbx.out, hlk.out]
  have hif := info_trv mx tx bx lk fv
  rw [hbx.out]
  obtain ⟨le, hle⟩ : ∃ r, Hid (Tr.leadE y.it = r) := ⟨_, rfl⟩
  rw [hle.out]
  obtain ⟨R, hR⟩ : ∃ R, Hid ((if bx < (y.it.body.length : Int) then 2 else le) = R) := ⟨_, rfl⟩
  rw [hR.out]
  obtain ⟨x0, x1, x2, x3, x4, x5⟩ := hX.out.cells
  by_cases hce : cE = 0
  · subst hce
    rw [if_neg (by simp)]
    go_enter Tryz.func25, Tryz.ntmps25
    go_upto_region 1 with fail
    rw [← hW]
    clear hW
    go_upto_region 5 with (first
      | (go_at_call 35; refine (HC.out _).mono ?_; rintro e w1 ⟨rfl, hw1⟩; have hb1 := hbw.trans hw1; clear x0 x1 x2 x3 x4 x5; have hX1 : Hid (BoxAt w1 w.heap.size y) := hX.out.keep hw1; obtain ⟨x0, x1, x2, x3, x4, x5⟩ := hX1.out.cells)
      | (go_at_call 36; refine (HT.out _).mono ?_; rintro e w2 ⟨rfl, hw2⟩; have hb2 := hb1.trans hw2; clear x0 x1 x2 x3 x4 x5; have hX2 : Hid (BoxAt w2 w.heap.size y) := hX1.out.keep hw2)
      | (refine wpList_store_row rfl 81 _ _ rfl w2.heap.size #[.int .i64 mx, .int .i64 tx, .int .i64 bx, .bool lk, fv] rfl rfl 81 _ (heap_alloc_new _ _) hif rfl (one_trv _ _ _ _ _ hone.out) ?_; rw [setRow_alloc_new]; obtain ⟨W3, hW3⟩ : ∃ V, V = w2.alloc (.cells #[.int .i64 mx, .int .i64 tx, .int .i64 bx, .bool lk, fv] 81) := ⟨_, rfl⟩; have hT3 : TrtAt W3 w2.heap.size #[.int .i64 mx, .int .i64 tx, .int .i64 bx, .bool lk, fv] := (by rw [hW3]; exact heap_alloc_new _ _); have hb3 : Bw w2 W3 := (by rw [hW3]; exact bw_alloc11 (Bw.refl _) _); rw [← hW3]; clear hW3; obtain ⟨x0, x1, x2, x3, x4, x5⟩ := (hX2.out.keep hb3).cells; have t0 : W3.cell? ⟨w2.heap.size, 0, none⟩ = some (.int .i64 mx) := cell_of_row W3 w2.heap.size 0 _ _ _ hT3; have t1 : W3.cell? ⟨w2.heap.size, 1, none⟩ = some (.int .i64 tx) := cell_of_row W3 w2.heap.size 1 _ _ _ hT3; have t2 : W3.cell? ⟨w2.heap.size, 2, none⟩ = some (.int .i64 bx) := cell_of_row W3 w2.heap.size 2 _ _ _ hT3; have t3 : W3.cell? ⟨w2.heap.size, 3, none⟩ = some (.bool lk) := cell_of_row W3 w2.heap.size 3 _ _ _ hT3; have t4 : W3.cell? ⟨w2.heap.size, 4, none⟩ = some fv := cell_of_row W3 w2.heap.size 4 _ _ _ hT3; have hbb := hb2.trans hb3; clear hT3))
    go_cut [24] from 25 to 42 (fun v wc => v = .bool vA ∧ wc = W3)
    case first =>
      cases ok with
      | false =>
        obtain rfl : vA = true := hvA.out
        go_wp2_with fail
        go_meet
        case rel => exact ⟨rfl, rfl⟩
      | true =>
      cases uT with
      | false =>
        obtain rfl : vA = true := hvA.out
        go_wp2_with (go_at_call 37; refine (HUT.out _).mono ?_; rintro e w9 ⟨rfl, rfl⟩)
        go_meet
        case rel => exact ⟨rfl, rfl⟩
      | true =>
      have tok1 : Hid (y = y) := rfl
      have tok2 : Hid (y = y) := rfl
      cases uM with
      | false =>
        obtain rfl : vA = true := hvA.out
        go_wp2_with (first | (go_at_call 37; clear tok1; refine (HUT.out _).mono ?_; rintro e w9 ⟨rfl, rfl⟩) | (go_at_call 37; clear tok2; refine (HUM.out _).mono ?_; rintro e w9 ⟨rfl, rfl⟩))
        go_meet
        case rel => exact ⟨rfl, rfl⟩
      | true =>
        obtain rfl : vA = false := hvA.out
        go_wp2_with (first | (go_at_call 37; clear tok1; refine (HUT.out _).mono ?_; rintro e w9 ⟨rfl, rfl⟩) | (go_at_call 37; clear tok2; refine (HUM.out _).mono ?_; rintro e w9 ⟨rfl, rfl⟩))
        go_meet
        case rel => exact ⟨rfl, rfl⟩
    case rest =>
      obtain ⟨rfl, rfl⟩ := hcut
      cases vA with
      | true =>
        go_wp2
        go_ret
        exact ⟨rfl, hbb⟩
      | false =>
      go_upto_region 7 with fail
      go_cut [43] from 44 to 62 (fun v wx => v = .bool vB ∧ wx = wc)
      case first =>
        by_cases a1 : 0 < y.it.body.length
        · have q1 : (0 : Int) < (y.it.body.length : Int) := by omega
          by_cases a2 : bx = 0
          · subst a2
            obtain rfl : vB = true := by rw [hvB.out, decide_eq_true a1]; rfl
            clear a1
            go_wp2_with fail
            go_meet
            case rel => exact ⟨rfl, rfl⟩
          · have q2 : (bx == 0) = false := by rw [beq_eq_false_iff_ne]; exact a2
            by_cases a3 : y.it.to = []
            · have q3 : ((Nm.S y.it.to).toList == []) = true := by rw [Nm.toList_S, a3]; rfl
              obtain rfl : vB = false := by rw [hvB.out, decide_eq_false a2, decide_eq_false (show ¬ (y.it.to ≠ []) from fun h => h a3)]; simp
              clear a1 a2 a3
              go_wp2_with fail
              go_meet
              case rel => exact ⟨by first | rfl | (rw [q2]), rfl⟩
            · have q3 : ((Nm.S y.it.to).toList == []) = false := by rw [Nm.toList_S, beq_eq_false_iff_ne]; exact a3
              obtain rfl : vB = !lk := by rw [hvB.out, decide_eq_false a2, decide_eq_true (show y.it.to ≠ [] from a3)]; simp
              clear a1 a2 a3
              go_wp2_with fail
              go_meet
              case rel => exact ⟨by first | rfl | (rw [q2]), rfl⟩
        · have q1 : ¬ (0 : Int) < (y.it.body.length : Int) := by omega
          by_cases a3 : y.it.to = []
          · have q3 : ((Nm.S y.it.to).toList == []) = true := by rw [Nm.toList_S, a3]; rfl
            obtain rfl : vB = false := by rw [hvB.out, decide_eq_false a1, decide_eq_false (show ¬ (y.it.to ≠ []) from fun h => h a3)]; simp
            clear a1 a3
            go_wp2_with fail
            go_meet
            case rel => exact ⟨rfl, rfl⟩
          · have q3 : ((Nm.S y.it.to).toList == []) = false := by rw [Nm.toList_S, beq_eq_false_iff_ne]; exact a3
            obtain rfl : vB = !lk := by rw [hvB.out, decide_eq_false a1, decide_eq_true (show y.it.to ≠ [] from a3)]; simp
            clear a1 a3
            go_wp2_with fail
            go_meet
            case rel => exact ⟨rfl, rfl⟩
      case rest =>
        obtain ⟨rfl, rfl⟩ := hcut
        cases vB with
        | true =>
          go_wp2
          go_ret
          exact ⟨rfl, hbb⟩
        | false =>
        have hkk : Hid (1 ≤ y.it.kind ∧ y.it.kind ≤ 4) := by
          have h := hvA.out
          have : ok = true := by
            cases ok with
            | true => rfl
            | false => cases h
          show 1 ≤ y.it.kind ∧ y.it.kind ≤ 4
          exact of_decide_eq_true (hok.out.trans this)
        have hr := hR.out
        by_cases a1 : bx < (y.it.body.length : Int)
        · rw [if_pos a1] at hr
          obtain rfl := hr
          go_wp2
          go_ret
          exact ⟨rfl, hbb⟩
        · have q1 : (y.it.body.length : Int) ≤ bx := by omega
          rw [if_neg a1] at hr
          obtain rfl := hr
          clear a1
          have h4 : (y.it.kind = 1 ∨ y.it.kind = 2) ∨ y.it.kind = 3 ∨ y.it.kind = 4 := by have := hkk.out; omega
          rcases h4 with h | h | h
          · obtain rfl : fv = .func (.func 50) #[] #[] := by rw [← hfv.out]; unfold Tr.tLead; rw [if_pos h]
            have hl : Hid (0 = le) := by show _ = _; rw [← hle.out]; unfold Tr.leadE; rw [if_neg (by omega), if_neg (by omega)]
            clear h
            go_wp2_with (go_at_call 50; refine (itself_any _ _ _).mono ?_; rintro e w5 ⟨rfl, hw5⟩)
            go_ret
            exact ⟨ret_int hl.out, hbb.trans hw5⟩
          · obtain rfl : fv = .func (.func 51) #[] #[] := by rw [← hfv.out]; unfold Tr.tLead; rw [if_neg (by omega), if_pos h]
            obtain ⟨nA, hnA⟩ : ∃ r, Hid (Nm.S (if (Nm.check y.it.to).2 = 0 then y.it.to else []) = r) := ⟨_, rfl⟩
            have HN : Hid (∀ u, Calls Tryz.prog 51 #[.string (Nm.S y.it.path), .string (Nm.S y.it.to)] u fun e w' => e = .returned (.tuple #[.string nA, .int .i64 le]) ∧ Bw u w') := fun u => by
              have := named_any y.it.path y.it.to (by omega) u
              rw [hnA.out] at this
              rw [show le = (Nm.check y.it.to).2 by rw [← hle.out]; unfold Tr.leadE; rw [if_pos h]]
              exact this
            clear h
            go_wp2_with (go_at_call 51; refine (HN.out _).mono ?_; rintro e w5 ⟨rfl, hw5⟩)
            go_ret
            exact ⟨rfl, hbb.trans hw5⟩
          · obtain rfl : fv = .func (.func 52) #[] #[] := by rw [← hfv.out]; unfold Tr.tLead; rw [if_neg (by omega), if_neg (by omega), if_pos h]
            obtain ⟨nA, hnA⟩ : ∃ r, Hid (Nm.S (Nm.lead y.it.path y.it.to).1 = r) := ⟨_, rfl⟩
            have HN : Hid (∀ u, Calls Tryz.prog 52 #[.string (Nm.S y.it.path), .string (Nm.S y.it.to)] u fun e w' => e = .returned (.tuple #[.string nA, .int .i64 le]) ∧ Bw u w') := fun u => by
              have := nleadL y.it.path y.it.to (by omega) (by omega) u
              rw [hnA.out] at this
              rw [show le = (Nm.lead y.it.path y.it.to).2 by rw [← hle.out]; unfold Tr.leadE; rw [if_neg (by omega), if_pos h]]
              exact this
            clear h
            go_wp2_with (go_at_call 52; refine (HN.out _).mono ?_; rintro e w5 ⟨rfl, hw5⟩)
            go_ret
            exact ⟨rfl, hbb.trans hw5⟩
  · rw [if_pos hce]
    have q1 : (cE != 0) = true := Tr.i_no hce
    clear hce
    go_enter Tryz.func25, Tryz.ntmps25
    go_upto_region 1 with fail
    rw [← hW]
    clear hW
    go_wp2_with (go_at_call 35; refine (HC.out _).mono ?_; rintro e w1 ⟨rfl, hw1⟩)
    go_ret
    exact ⟨rfl, hbw.trans hw1⟩
end Go.Proofs.YtldkhbkgmiicbabGreatDoor

/- The document's own Check, of layer 11. -/
namespace Go.Proofs.YtldkhbkgmiicbabGreatDoor
open Go.RowKit Go.Deep
set_option linter.unusedVariables false
set_option linter.unusedSimpArgs false

theorem keep_S11 {w1 w w' : World} {a b : Addr} {u v : Value} (h : w.cell? a = some u ∧ w.cell? b = some v ∧ Bw w1 w) (g : Bw w w') : w'.cell? a = some u ∧ w'.cell? b = some v ∧ Bw w1 w' :=
  ⟨(g.cell (p := a) (block_lt_of_cell h.1)).trans h.1, (g.cell (p := b) (block_lt_of_cell h.2.1)).trans h.2.1, h.2.2.trans g⟩
theorem keep_cell11 {w w' : World} {a : Addr} {u : Value} (h : w.cell? a = some u) (g : Bw w w') : w'.cell? a = some u :=
  (g.cell (p := a) (block_lt_of_cell h)).trans h
theorem Tr.step_is (pre : List Tr.It) (x : Tr.It) : Tr.stepE pre x = if Tr.mayE x ≠ 0 then Tr.mayE x else if Tr.behind pre x = false then 111 else if Nm.up x.path ≠ [] ∧ Tr.hasB pre (Nm.up x.path) 2 = false then 112 else if x.kind = 3 ∧ Tr.hasB pre x.to 1 = false then 113 else 0 := rfl
theorem Tr.fit_in {w : World} {A : Option Addr} {L : List Tr.Iv} (h : ItsAt w A L) {i : Nat} {y : Tr.Iv} (hy : L[i]? = some y) : Tr.Fit y.it := (h.body y (List.mem_of_getElem? hy)).fit

end Go.Proofs.YtldkhbkgmiicbabGreatDoor
