/- What is caught: the program's own caught. -/
import Derived.Test.YtmbabfelnieagabDoorB4
namespace Go.Proofs.YtmbabfelnieagabDoor
open Go.RowKit Go.Deep
set_option linter.unusedVariables false
set_option linter.unusedSimpArgs false

theorem as_yes (v : Value) (W : World) : (Instr.typeAssert (.iface 28 v) 20 28 true).run Tryd.prog W = .ok (.tuple #[v, .bool true]) W := by kernel_rfl
theorem as_nil (W : World) : (Instr.typeAssert .nilIface 20 28 true).run Tryd.prog W = .ok (.tuple #[.int .i64 0, .bool false]) W := by kernel_rfl
theorem ne_nil (W : World) : (binOp .neq 20 .nilIface .nilIface).run Tryd.prog W = .ok (.bool false) W := by kernel_rfl
set_option maxHeartbeats 1000000 in
theorem catch_yes (p : Addr) (x : Int) (er : Nat) (w : World) (hc : w.cell? p = some (.int .i64 x)) (hz : w.frozen? p = false) :
    CallsD Tryd.prog 31 #[.pointer (some p)] (.panicking [{ v := .iface 28 (.int .i64 (er : Int)), recovered := false }]) w fun e u' w' =>
      e = .returned (.tuple #[]) ∧ u' = .panicking [{ v := .iface 28 (.int .i64 (er : Int)), recovered := true }] ∧ w' = w.setCell p (.int .i64 (er : Int)) := by
  refine callsD_of_wpS Tryd.func31 rfl fun c₀ cs hu => ?_
  apply wpS_seq
  apply wpS_region
  simp [wpOpsS, go_sem, recoverD, hu, Tryd.ntmps31, Exit.thenS]
  have hT : (#[Value.pointer (some p)] ++ (((Array.replicate 14 undef).setIfInBounds 3 (.iface 28 (.int .i64 (er : Int)))).setIfInBounds 0 (.iface 28 (.int .i64 (er : Int))))) = #[.pointer (some p), .iface 28 (.int .i64 (er : Int)), undef, undef, .iface 28 (.int .i64 (er : Int)), undef, undef, undef, undef, undef, undef, undef, undef, undef, undef] := by rfl
  rw [hT]
  clear hT
  refine wpS_of_wp ?_
  have h1 := as_yes (.int .i64 (er : Int))
  go_wp2
  simp [bodyPostS, results, Tryd.results31]
set_option maxHeartbeats 1000000 in
theorem catch_idle (p : Addr) (w : World) :
    CallsD Tryd.prog 31 #[.pointer (some p)] .returning w fun e u' w' => e = .returned (.tuple #[]) ∧ u' = .returning ∧ w' = w := by
  refine callsD_of_wpS Tryd.func31 rfl fun c₀ cs hu => ?_
  apply wpS_seq
  apply wpS_region
  simp [wpOpsS, go_sem, recoverD, hu, Tryd.ntmps31, Exit.thenS]
  have hT : (#[Value.pointer (some p)] ++ (((Array.replicate 14 undef).setIfInBounds 3 .nilIface).setIfInBounds 0 .nilIface)) = #[.pointer (some p), .nilIface, undef, undef, .nilIface, undef, undef, undef, undef, undef, undef, undef, undef, undef, undef] := by rfl
  rw [hT]
  clear hT
  refine wpS_of_wp ?_
  have h1 := as_nil
  have h2 := ne_nil
  go_wp2
  cases c₀
  simp_all [bodyPostS, results, Tryd.results31]
/-- caught: what the work does behind the variable err, and whether it throws -/
def Works (fn : FuncId) (cap : Array Value) (w : World) (R : Nat → World → Prop) : Prop :=
  Calls Tryd.prog fn cap (w.alloc (.cells #[.int .i64 0] 28)) fun e w' => ∃ er, Asks er e ∧ (w'.cell? ⟨w.heap.size, 0, none⟩ = some (.int .i64 0) ∧ w'.frozen? ⟨w.heap.size, 0, none⟩ = false) ∧ R er w'
set_option maxHeartbeats 1000000 in
theorem caught_any (fn : FuncId) (cap : Array Value) (w : World) (R : Nat → World → Prop) (he : ∀ args w, (callFunc fn args).run Tryd.prog w = .ok (.enter fn args) w) (hw : Works fn cap w R) :
    Calls Tryd.prog 19 #[.func (.func fn) #[] cap] w fun e w' => ∃ (er : Nat) (w1 : World), e = .returned (.int .i64 (er : Int)) ∧ R er w1 ∧ w' = w1.setCell ⟨w.heap.size, 0, none⟩ (.int .i64 (er : Int)) := by
  have hmf : ∀ (fn : Fn) (first cap : Array Value) (w : World), (Instr.makeFunc fn first cap).run Tryd.prog w = .ok (.func fn first cap) w := fun _ _ _ _ => rfl
  go_enter_defers Tryd.func19, Tryd.ntmps19
  unfold Works at hw
  go_wp2_with (go_at_fn fn; refine hw.mono ?_; rintro e w1 ⟨er, hA, ⟨hc, hz⟩, hR⟩; rcases hA with ⟨h0, rfl⟩ | ⟨h0, rfl⟩ <;> (try unfold thrown))
  · refine leaves_cons (f := 31) (args := #[.pointer (some ⟨w.heap.size, 0, none⟩)]) (by simp) (by simp [go_sem]) ?_
    refine (catch_idle ⟨w.heap.size, 0, none⟩ _).mono ?_
    rintro e u' w'' ⟨rfl, rfl, rfl⟩
    have hcc : (w1.setCell ⟨w.heap.size, 0, none⟩ (.int .i64 0)).cell? ⟨w.heap.size, 0, none⟩ = some (.int .i64 0) := World.cell?_setCell_same' _ _ _ (by rw [hc]; rfl)
    simp only [Leaves, settle]
    refine ⟨.int .i64 0, by simp [results, Tryd.results19, go_sem, hcc], er, w1, by rw [h0]; rfl, hR, by rw [h0]; rfl⟩
  · refine leaves_cons (f := 31) (args := #[.pointer (some ⟨w.heap.size, 0, none⟩)]) (by simp) (by simp [go_sem]) ?_
    refine (catch_yes ⟨w.heap.size, 0, none⟩ 0 er _ hc hz).mono ?_
    rintro e u' w'' ⟨rfl, rfl, rfl⟩
    have hcc : (w1.setCell ⟨w.heap.size, 0, none⟩ (.int .i64 (er : Int))).cell? ⟨w.heap.size, 0, none⟩ = some (.int .i64 (er : Int)) := World.cell?_setCell_same' _ _ _ (by rw [hc]; rfl)
    simp only [Leaves, settle, List.dropWhile]
    refine ⟨.int .i64 (er : Int), by simp [results, Tryd.results19, go_sem, hcc], er, w1, rfl, hR, rfl⟩
end Go.Proofs.YtmbabfelnieagabDoor
