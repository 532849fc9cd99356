/- The program's own May, of layer 11, as landed at 97b3c5cd: what a kind's items have. -/
import Derived.Test.YtjifdoneejofiabU5
namespace Go.Proofs.Ytjifdoneejofiab
open Go.RowKit Go.Deep
set_option linter.unusedVariables false
set_option linter.unusedSimpArgs false

theorem ncheckL (p : Tr.B) (h : p.length ≤ 4611686018427387904) (w : World) : Calls Try.prog 39 #[.string (Nm.S p)] w fun e w' => e = .returned (.tuple #[.int .i64 (Nm.check p).1, .int .i64 (Nm.check p).2]) ∧ Bw w w' := by
  have := ncheck_any (Nm.S p) (by rw [Nm.size_S]; exact h) w
  rwa [Nm.toList_S] at this
theorem nleadL (p q : Tr.B) (h : p.length ≤ 4611686018427387904) (k : q.length ≤ 4611686018427387904) (w : World) : Calls Try.prog 64 #[.string (Nm.S p), .string (Nm.S q)] w fun e w' => e = .returned (.tuple #[.string (Nm.S (Nm.lead p q).1), .int .i64 (Nm.lead p q).2]) ∧ Bw w w' := by
  have := nlead_any (Nm.S p) (Nm.S q) (by rw [Nm.size_S]; exact h) (by rw [Nm.size_S]; exact k) w
  rwa [Nm.toList_S, Nm.toList_S] at this
theorem ncompareL (p q : Tr.B) (h : p.length ≤ 4611686018427387904) (k : q.length ≤ 4611686018427387904) (w : World) : Calls Try.prog 28 #[.string (Nm.S p), .string (Nm.S q)] w fun e w' => e = .returned (.int .i64 (Nm.cmp p q)) ∧ Bw w w' := by
  have := ncompare_any (Nm.S p) (Nm.S q) (by rw [Nm.size_S]; exact h) (by rw [Nm.size_S]; exact k) w
  rwa [Nm.toList_S, Nm.toList_S] at this
theorem nupL (p : Tr.B) (h : p.length ≤ 1099511627776) (w : World) : Calls Try.prog 16 #[.string (Nm.S p)] w fun e w' => e = .returned (.string (Nm.S (Nm.up p))) ∧ w' = w := by
  have := nup_still (Nm.S p) (by rw [Nm.size_S]; exact h) w
  rwa [Nm.toList_S] at this
theorem nbeneathL (p q : Tr.B) (h : p.length ≤ 4611686018427387904) (k : q.length ≤ 4611686018427387904) (w : World) : Calls Try.prog 36 #[.string (Nm.S p), .string (Nm.S q)] w fun e w' => TellsN e (Nm.Beneath p q) ∧ Bw w w' := by
  have := nbeneath_any (Nm.S p) (Nm.S q) (by rw [Nm.size_S]; exact h) (by rw [Nm.size_S]; exact k) w
  rwa [Nm.toList_S, Nm.toList_S] at this
theorem upto_any (n m : Int) (w : World) : Calls Try.prog 45 #[.int .i64 n, .int .i64 m] w fun e w' => e = .returned (.bool (decide (0 ≤ n ∧ n ≤ m))) ∧ w' = w := by
  obtain ⟨r, hR⟩ : ∃ r, Hid (decide (0 ≤ n ∧ n ≤ m) = r) := ⟨_, rfl⟩
  rw [hR.out]
  by_cases h1 : 0 ≤ n
  · by_cases h2 : n ≤ m
    · obtain rfl : r = true := hR.out.symm.trans (decide_eq_true ⟨h1, h2⟩)
      go_enter Try.func45, Try.ntmps45
      go_wp2
      go_ret
      exact ⟨rfl, rfl⟩
    · obtain rfl : r = false := hR.out.symm.trans (decide_eq_false (fun h => h2 h.2))
      go_enter Try.func45, Try.ntmps45
      go_wp2
      go_ret
      exact ⟨by first | rfl | rw [decide_eq_false (by omega)], rfl⟩
  · obtain rfl : r = false := hR.out.symm.trans (decide_eq_false (fun h => h1 h.1))
    go_enter Try.func45, Try.ntmps45
    go_wp2
    go_ret
    exact ⟨rfl, rfl⟩
theorem itself_any (p q : Tr.B) (w : World) : Calls Try.prog 62 #[.string (Nm.S p), .string (Nm.S q)] w fun e w' => e = .returned (.tuple #[.string (Nm.S p), .int .i64 0]) ∧ Bw w w' := by
  go_enter Try.func62, Try.ntmps62
  go_wp2
  go_ret2
  exact ⟨rfl, Bw.refl _⟩
theorem named_any (p q : Tr.B) (hq : q.length ≤ 4611686018427387904) (w : World) : Calls Try.prog 63 #[.string (Nm.S p), .string (Nm.S q)] w fun e w' => e = .returned (.tuple #[.string (Nm.S (if (Nm.check q).2 = 0 then q else [])), .int .i64 (Nm.check q).2]) ∧ Bw w w' := by
  obtain ⟨cA, cE, hc⟩ : ∃ a b, Hid (Nm.check q = (a, b)) := ⟨_, _, show Nm.check q = _ from rfl⟩
  have HC : Hid (∀ u, Calls Try.prog 39 #[.string (Nm.S q)] u fun e w' => e = .returned (.tuple #[.int .i64 cA, .int .i64 cE]) ∧ Bw u w') := fun u => by
    have := ncheckL q hq u
    rwa [hc.out] at this
  rw [hc.out]
  dsimp only
  by_cases h : cE = 0
  · subst h
    rw [if_pos rfl]
    go_enter Try.func63, Try.ntmps63
    go_wp2_with (go_at_call 39; refine (HC.out _).mono ?_; rintro e w1 ⟨rfl, hw1⟩)
    go_ret2
    exact ⟨rfl, hw1⟩
  · rw [if_neg h]
    have q1 := Tr.i_no h
    clear h
    go_enter Try.func63, Try.ntmps63
    go_wp2_with (go_at_call 39; refine (HC.out _).mono ?_; rintro e w1 ⟨rfl, hw1⟩)
    go_ret2
    exact ⟨rfl, hw1⟩
namespace Tr
/-- what a kind's items have -/
def tMode (k : Nat) : Int := if k = 1 ∨ k = 2 then 4095 else 0
def tTime (k : Nat) : Int := if k = 1 ∨ k = 2 ∨ k = 4 then 1099511627776 else 0
def tBody (k : Nat) : Int := if k = 1 then 65536 else 0
def tLead (k : Nat) : Value := if k = 1 ∨ k = 2 then .func (.func 62) #[] #[] else if k = 3 then .func (.func 63) #[] #[] else if k = 4 then .func (.func 64) #[] #[] else .nilFunc
def trv (k : Nat) : Array Value := #[.int .i64 (tMode k), .int .i64 (tTime k), .int .i64 (tBody k), .bool (lnk k), tLead k]
def isKind (k : Nat) : Bool := decide (1 ≤ k ∧ k ≤ 4)
theorem trv_other {k : Nat} (h : ¬ (1 ≤ k ∧ k ≤ 4)) : trv k = #[.int .i64 0, .int .i64 0, .int .i64 0, .bool false, .nilFunc] := by
  unfold trv tMode tTime tBody tLead lnk
  rw [if_neg (by omega), if_neg (by omega), if_neg (by omega), if_neg (by omega), if_neg (by omega), if_neg (by omega), decide_eq_false (by omega)]
end Tr
theorem results_row_tmp11 {P : Program} {fn : Func} {p u : Tmp} {ty : TypeId} (h : fn.results = #[.cell p ty, .tmp u]) (tmps : Array Value) (w : World) (g : Nat) (t : TypeId) (cs : Array Value) (fr : Nat × Nat) (d : TypeDesc)
    (hp : tmps.getD p undef = .pointer (some ⟨g, 0, none⟩)) (hg : w.heap[g]? = some (.cells cs t fr))
    (hu : P.underlying ty = some d) (hd : (match d with | .struct _ | .array _ _ => true | _ => false) = true) (hi : (P.info? ty).map (·.size) = some cs.size) :
    (results fn tmps).run P w = .ok (.tuple #[.agg cs, tmps.getD u undef]) w := by
  rw [results_cell_tmp h, hp]
  simp [asAddr, run_loadVar_row w g t ty cs fr d hg hu hd hi, Result.andThen]
theorem info_traits : (Try.prog.info? 69).map (·.size) = some 5 := by kernel_rfl
theorem info_trv (a b c : Int) (d : Bool) (f : Value) : (Try.prog.info? 69).map (·.size) = some (#[Value.int .i64 a, .int .i64 b, .int .i64 c, .bool d, f] : Array Value).size := info_traits
theorem one_trv (a b c : Int) (d : Bool) (f : Value) (hf : f.oneCell' = true) : (#[Value.int .i64 a, .int .i64 b, .int .i64 c, .bool d, f] : Array Value).all (·.oneCell') = true := by
  rw [Array.all_eq_true_iff_forall_mem]
  intro x hx
  simp only [List.mem_toArray, List.mem_cons, List.not_mem_nil, or_false] at hx
  rcases hx with rfl | rfl | rfl | rfl | rfl
  all_goals first | rfl | exact hf
set_option maxRecDepth 100000 in
theorem traits_1 (w : World) : Calls Try.prog 44 #[.int .u8 1] w fun e w' => e = .returned (.tuple #[.agg #[.int .i64 4095, .int .i64 1099511627776, .int .i64 65536, .bool false, .func (.func 62) #[] #[]], .bool true]) ∧ Bw w w' := by
  go_enter Try.func44, Try.ntmps44
  go_wp2_with (refine wpList_store_row rfl 69 _ _ rfl w.heap.size #[.int .i64 4095, .int .i64 1099511627776, .int .i64 65536, .bool false, .func (.func 62) #[] #[]] rfl rfl 69 _ (heap_alloc_new _ _) (info_trv _ _ _ _ _) rfl (one_trv _ _ _ _ _ rfl) ?_; rw [setRow_alloc_new])
  exact bodyPost_ret (results_row_tmp11 (p := 2) (u := 3) (by rfl) _ _ w.heap.size 69 #[.int .i64 4095, .int .i64 1099511627776, .int .i64 65536, .bool false, .func (.func 62) #[] #[]] (0, 0) _ rfl (heap_alloc_new _ _) Try.underlying69 rfl (info_trv _ _ _ _ _)) rfl ⟨rfl, bw_alloc11 (Bw.refl _) _⟩
set_option maxRecDepth 100000 in
theorem traits_2 (w : World) : Calls Try.prog 44 #[.int .u8 2] w fun e w' => e = .returned (.tuple #[.agg #[.int .i64 4095, .int .i64 1099511627776, .int .i64 0, .bool false, .func (.func 62) #[] #[]], .bool true]) ∧ Bw w w' := by
  go_enter Try.func44, Try.ntmps44
  go_wp2_with (refine wpList_store_row rfl 69 _ _ rfl w.heap.size #[.int .i64 4095, .int .i64 1099511627776, .int .i64 0, .bool false, .func (.func 62) #[] #[]] rfl rfl 69 _ (heap_alloc_new _ _) (info_trv _ _ _ _ _) rfl (one_trv _ _ _ _ _ rfl) ?_; rw [setRow_alloc_new])
  exact bodyPost_ret (results_row_tmp11 (p := 2) (u := 3) (by rfl) _ _ w.heap.size 69 #[.int .i64 4095, .int .i64 1099511627776, .int .i64 0, .bool false, .func (.func 62) #[] #[]] (0, 0) _ rfl (heap_alloc_new _ _) Try.underlying69 rfl (info_trv _ _ _ _ _)) rfl ⟨rfl, bw_alloc11 (Bw.refl _) _⟩
set_option maxRecDepth 100000 in
theorem traits_3 (w : World) : Calls Try.prog 44 #[.int .u8 3] w fun e w' => e = .returned (.tuple #[.agg #[.int .i64 0, .int .i64 0, .int .i64 0, .bool true, .func (.func 63) #[] #[]], .bool true]) ∧ Bw w w' := by
  go_enter Try.func44, Try.ntmps44
  go_wp2_with (refine wpList_store_row rfl 69 _ _ rfl w.heap.size #[.int .i64 0, .int .i64 0, .int .i64 0, .bool true, .func (.func 63) #[] #[]] rfl rfl 69 _ (heap_alloc_new _ _) (info_trv _ _ _ _ _) rfl (one_trv _ _ _ _ _ rfl) ?_; rw [setRow_alloc_new])
  exact bodyPost_ret (results_row_tmp11 (p := 2) (u := 3) (by rfl) _ _ w.heap.size 69 #[.int .i64 0, .int .i64 0, .int .i64 0, .bool true, .func (.func 63) #[] #[]] (0, 0) _ rfl (heap_alloc_new _ _) Try.underlying69 rfl (info_trv _ _ _ _ _)) rfl ⟨rfl, bw_alloc11 (Bw.refl _) _⟩
set_option maxRecDepth 100000 in
theorem traits_4 (w : World) : Calls Try.prog 44 #[.int .u8 4] w fun e w' => e = .returned (.tuple #[.agg #[.int .i64 0, .int .i64 1099511627776, .int .i64 0, .bool true, .func (.func 64) #[] #[]], .bool true]) ∧ Bw w w' := by
  go_enter Try.func44, Try.ntmps44
  go_wp2_with (refine wpList_store_row rfl 69 _ _ rfl w.heap.size #[.int .i64 0, .int .i64 1099511627776, .int .i64 0, .bool true, .func (.func 64) #[] #[]] rfl rfl 69 _ (heap_alloc_new _ _) (info_trv _ _ _ _ _) rfl (one_trv _ _ _ _ _ rfl) ?_; rw [setRow_alloc_new])
  exact bodyPost_ret (results_row_tmp11 (p := 2) (u := 3) (by rfl) _ _ w.heap.size 69 #[.int .i64 0, .int .i64 1099511627776, .int .i64 0, .bool true, .func (.func 64) #[] #[]] (0, 0) _ rfl (heap_alloc_new _ _) Try.underlying69 rfl (info_trv _ _ _ _ _)) rfl ⟨rfl, bw_alloc11 (Bw.refl _) _⟩
set_option maxRecDepth 100000 in
theorem traits_5 (k : Nat) (h : ¬ (1 ≤ k ∧ k ≤ 4)) (w : World) : Calls Try.prog 44 #[.int .u8 (k : Int)] w fun e w' => e = .returned (.tuple #[.agg #[.int .i64 0, .int .i64 0, .int .i64 0, .bool false, .nilFunc], .bool false]) ∧ Bw w w' := by
  have e1 : ((k : Int) == 1) = false := by rw [beq_eq_false_iff_ne]; omega
  have e2 : ((k : Int) == 2) = false := by rw [beq_eq_false_iff_ne]; omega
  have e3 : ((k : Int) == 3) = false := by rw [beq_eq_false_iff_ne]; omega
  have e4 : ((k : Int) == 4) = false := by rw [beq_eq_false_iff_ne]; omega
  clear h
  go_enter Try.func44, Try.ntmps44
  go_wp2_with (refine wpList_store_row rfl 69 _ _ rfl w.heap.size #[.int .i64 0, .int .i64 0, .int .i64 0, .bool false, .nilFunc] rfl rfl 69 _ (heap_alloc_new _ _) (info_trv _ _ _ _ _) rfl (one_trv _ _ _ _ _ rfl) ?_; rw [setRow_alloc_new])
  exact bodyPost_ret (results_row_tmp11 (p := 2) (u := 3) (by rfl) _ _ w.heap.size 69 #[.int .i64 0, .int .i64 0, .int .i64 0, .bool false, .nilFunc] (0, 0) _ rfl (heap_alloc_new _ _) Try.underlying69 rfl (info_trv _ _ _ _ _)) rfl ⟨rfl, bw_alloc11 (Bw.refl _) _⟩
theorem traits_any (k : Nat) (w : World) : Calls Try.prog 44 #[.int .u8 (k : Int)] w fun e w' => e = .returned (.tuple #[.agg (Tr.trv k), .bool (Tr.isKind k)]) ∧ Bw w w' := by
  by_cases h : 1 ≤ k ∧ k ≤ 4
  · have : k = 1 ∨ k = 2 ∨ k = 3 ∨ k = 4 := by omega
    rcases this with rfl | rfl | rfl | rfl
    · exact traits_1 w
    · exact traits_2 w
    · exact traits_3 w
    · exact traits_4 w
  · rw [Tr.trv_other h, show Tr.isKind k = false from decide_eq_false h]
    exact traits_5 k h w
end Go.Proofs.Ytjifdoneejofiab
