/- Proved: for any two numbers and every width the statement OctalOrder answers true (the document's P7.6: of two numbers that have forms in one width the lesser one's form is ahead, byte by byte; the same number has the same form), with no condition. -/
import Derived.Test.YthmkjccidmjlnaaV6
import Derived.Test.YthmkjccidmjlnaaK0
import Derived.ShutString
import Derived.ChangeOld
namespace Go.Proofs.Ythmkjccidmjlnaa.octalOrder
open Go.ChangeShapes Go.WideShapes Go.ChangeAt Go.RowKit
set_option linter.unusedVariables false

set_option linter.unusedSimpArgs false
theorem oput_some (n z : Int) (hn : n ≤ 9223372036854775807) (w : World) : Calls Try.prog 9 #[.int .i64 n, .int .i64 z] w fun e w' => ∃ v c, e = .returned (.tuple #[v, .int .i64 c]) ∧ Bw w w' := by
  by_cases h : Oct.Has n z
  · obtain ⟨W, rfl⟩ := Int.eq_ofNat_of_zero_le (show 0 ≤ z by have := h.1; omega)
    exact (oput_yes n W hn h w).mono (fun e w' ⟨g, he, _, _, hw⟩ => ⟨_, _, he, hw⟩)
  · exact (oput_no n z hn h w).mono (fun e w' ⟨he, hw⟩ => ⟨_, _, he, hw⟩)
set_option maxHeartbeats 1000000 in
theorem order_no1 (n m z : Int) (hn : n ≤ 9223372036854775807) (hm : m ≤ 9223372036854775807) (h : ¬ Oct.Has n z) (w : World) :
    Calls Try.prog 7 #[.int .i64 n, .int .i64 m, .int .i64 z] w fun e w' => e = .returned (.bool true) ∧ Bw w w' := by
  have H : Hid (¬ Oct.Has n z) := h
  clear h
  obtain ⟨c, hc⟩ : ∃ c, Hid (c = Oct.errP n z) := ⟨_, rfl⟩
  have hne : (c != 0) = true := by rw [hc.out]; exact (Oct.errP_ne n z).1
  go_enter Try.func7, Try.ntmps7
  go_wp2_with (go_at_call_of 9 n; refine (oput_no n z hn H.out _).mono ?_; rintro e w1 ⟨rfl, hw1⟩; rw [← hc.out])
  go_wp2_with (first
    | (go_at_call_of 9 m; refine (oput_some m z hm _).mono ?_; rintro e w2 ⟨v, d, rfl, hw2⟩)
    | (go_at_call 20; refine (awake_any _).mono ?_; rintro e w3 ⟨rfl, hw3⟩))
  go_ret
  exact ⟨rfl, hw1.trans (hw2.trans hw3)⟩
set_option maxHeartbeats 1000000 in
theorem order_no2 (n m : Int) (W : Nat) (hn : n ≤ 9223372036854775807) (hm : m ≤ 9223372036854775807) (h1 : Oct.Has n (W : Int)) (h : ¬ Oct.Has m (W : Int)) (w : World) :
    Calls Try.prog 7 #[.int .i64 n, .int .i64 m, .int .i64 (W : Int)] w fun e w' => e = .returned (.bool true) ∧ Bw w w' := by
  have H : Hid (¬ Oct.Has m (W : Int)) := h
  have H1 : Hid (Oct.Has n (W : Int)) := h1
  clear h h1
  obtain ⟨c, hc⟩ : ∃ c, Hid (c = Oct.errP m (W : Int)) := ⟨_, rfl⟩
  have hne : (c != 0) = true := by rw [hc.out]; exact (Oct.errP_ne m W).1
  go_enter Try.func7, Try.ntmps7
  go_wp2_with (go_at_call_of 9 n; refine (oput_yes n W hn H1.out _).mono ?_; rintro e w1 ⟨g, rfl, ho, hg, hw1⟩; clear ho hg)
  go_wp2_with (first
    | (go_at_call_of 9 m; refine (oput_no m (W : Int) hm H.out _).mono ?_; rintro e w2 ⟨rfl, hw2⟩; rw [← hc.out])
    | (go_at_call 20; refine (awake_any _).mono ?_; rintro e w3 ⟨rfl, hw3⟩))
  go_ret
  exact ⟨rfl, hw1.trans (hw2.trans hw3)⟩
theorem tells_is {x : Bool} {P : Prop} {a b : Int} (hx : x = true ↔ P) (h : P ↔ a < b) : x = decide (a < b) := by
  cases x with
  | true => exact (decide_eq_true (h.1 (hx.1 rfl))).symm
  | false => exact (decide_eq_false (fun k => Bool.noConfusion (hx.2 (h.2 k)))).symm
set_option maxHeartbeats 1000000 in
theorem order_yes (n m : Int) (W : Nat) (hn : n ≤ 9223372036854775807) (hm : m ≤ 9223372036854775807) (h1 : Oct.Has n (W : Int)) (h2 : Oct.Has m (W : Int)) (w : World) :
    Calls Try.prog 7 #[.int .i64 n, .int .i64 m, .int .i64 (W : Int)] w fun e w' => e = .returned (.bool true) ∧ Bw w w' := by
  have H1 : Hid (Oct.Has n (W : Int)) := h1
  have H2 : Hid (Oct.Has m (W : Int)) := h2
  have h12 : W ≤ 12 := by have := h1.2.1; omega
  have ho : ∀ a b : Int, Oct.Has a (W : Int) → Oct.Has b (W : Int) → (Oct.Ahead W (Oct.formF a.toNat W) (Oct.formF b.toNat W) ↔ a < b) := fun a b ha hb => by
    have := Oct.form_order (n := a.toNat) (m := b.toNat) (W := W) (by have := ha.1; omega) (by have := ha.2.2.2; rwa [Int.toNat_natCast] at this) (by have := hb.2.2.2; rwa [Int.toNat_natCast] at this)
    rw [this]
    have := ha.2.2.1
    have := hb.2.2.1
    omega
  have O1 : Hid (Oct.Ahead W (Oct.formF n.toNat W) (Oct.formF m.toNat W) ↔ n < m) := ho n m h1 h2
  have O2 : Hid (Oct.Ahead W (Oct.formF m.toNat W) (Oct.formF n.toNat W) ↔ m < n) := ho m n h2 h1
  clear ho h1 h2
  have tok1 : Hid (W = W) := rfl
  have tok2 : Hid (W = W) := rfl
  go_enter Try.func7, Try.ntmps7
  go_wp2_with (go_at_call_of 9 n; refine (oput_yes n W hn H1.out _).mono ?_; rintro e w1 ⟨g1, rfl, ho1, hg1, hw1⟩; have hr1 := ho1.row (Oct.formF_bd _ _); clear ho1 hg1)
  go_wp2_with (go_at_call_of 9 m; refine (oput_yes m W hm H2.out _).mono ?_; rintro e w2 ⟨g2, rfl, ho2, hg2, hw2⟩; have hr2 := ho2.row (Oct.formF_bd _ _); clear ho2 hg2)
  go_wp2_with (go_at_call 20; refine (awake_any _).mono ?_; rintro e w3 ⟨rfl, hw3⟩)
  go_wp2_with (first
    | (go_at_call 21; clear tok1; refine (ahead_any _ _ W _ _ (Oct.formF n.toNat W) (Oct.formF m.toNat W) (by omega) _ ((hr1.keep hw2).keep hw3) (hr2.keep hw3)).mono ?_; rintro e w4 ⟨⟨x, rfl, hx⟩, q, hq⟩; obtain rfl := tells_is hx O1.out; have hw4 : Bw w3 w4 := (by rw [hq]; exact Bw.drewN _ q); clear hq hx)
    | (go_at_call 21; clear tok2; refine (ahead_any _ _ W _ _ (Oct.formF m.toNat W) (Oct.formF n.toNat W) (by omega) _ ((hr2.keep hw3).keep hw4) (((hr1.keep hw2).keep hw3).keep hw4)).mono ?_; rintro e w5 ⟨⟨x, rfl, hx⟩, q, hq⟩; obtain rfl := tells_is hx O2.out; have hw5 : Bw w4 w5 := (by rw [hq]; exact Bw.drewN _ q); clear hq hx))
  go_ret
  exact ⟨rfl, hw1.trans (hw2.trans (hw3.trans (hw4.trans hw5)))⟩
theorem walk (a0 : Int) (a1 : Int) (a2 : Int) (w : World) (w0 : (Lit.int .i64 a0).wf = true) (w1 : (Lit.int .i64 a1).wf = true) (w2 : (Lit.int .i64 a2).wf = true) :
    Calls Try.prog 7 #[.int .i64 a0, .int .i64 a1, .int .i64 a2] w fun e w' => e = .returned (.bool true) ∧ Below w.heap.size w w' := by
  have b0 := bounds_i64 w0
  have b1 := bounds_i64 w1
  by_cases h : Oct.Has a0 a2
  · obtain ⟨W, rfl⟩ := Int.eq_ofNat_of_zero_le (show 0 ≤ a2 by have := h.1; omega)
    by_cases h2 : Oct.Has a1 (W : Int)
    · exact order_yes a0 a1 W (by omega) (by omega) h h2 w
    · exact order_no2 a0 a1 W (by omega) (by omega) h h2 w
  · exact order_no1 a0 a1 a2 (by omega) (by omega) h w

set_option maxRecDepth 100000 in
theorem lifted (os : Os) (started : os.Started) (H : Type) (enc : TypeId × Value → H) :
    ReturnsInHanded {} Try.checked os 7 .any (Rows.octalOrderSpec.pre6 enc Try.prog Try.f7 Rows.octalOrderRow.domain false) (Rows.octalOrderSpec.post enc Try.prog Try.f7 false true false false) := by
  refine returnsInHanded_of_change_sized (C := Try.checked) own started (by kernel_rfl) Try.func7
    (ChangeSpec.witness6 (enc := enc) (C := Try.checked) false ⟨#[], #[.int .i64 0, .int .i64 0, .int .i64 0], []⟩ 8 (by kernel_rfl) (by kernel_rfl) (by kernel_rfl) (by kernel_rfl)) ?_
  intro W base args ds gs before hval0 hW hcnd hsz0 _
  have hval : ∀ (j : Nat) t v, Try.f7.params[j]? = some t → args[j]? = some v → Value.okWide Try.prog W .any base t v := hval0
  have hW' := hW
  obtain ⟨p, q, hA0, hV, rfl, hfz, hnd⟩ := hW
  have hA : DataW.TrodAll enc Try.prog W 0 (fun _ => true) true Try.f7.params.toList args.toList ds p := hA0
  have hsz : (DataW.weightsEach Try.prog (Try.f7.params.toList ++ Rows.octalOrderSpec.plain.varTypes Try.prog) (ds ++ gs)).all (· ≤ reachBytes) = true := hsz0
  rw [Try.params7] at hA hval hsz
  obtain ⟨v0, vs0, d0, ds0, p0, q0, hargs, rfl, rfl, h0, r0⟩ := trodAll_cons hA
  obtain ⟨v1, vs1, d1, ds1, p1, q1, rfl, rfl, rfl, h1, r1⟩ := trodAll_cons r0
  obtain ⟨v2, vs2, d2, ds2, p2, q2, rfl, rfl, rfl, h2, r2⟩ := trodAll_cons r1
  obtain ⟨rfl, rfl, rfl⟩ := trodAll_nil r2
  obtain rfl : args = #[v0, v1, v2] := by cases args; simp_all
  obtain ⟨rfl, rfl⟩ := trodVars_none hV
  obtain ⟨a0, rfl, rfl, rfl, w0⟩ := open_int Try.underlying3 (hval 0 3 v0 rfl rfl) h0
  obtain ⟨a1, rfl, rfl, rfl, w1⟩ := open_int Try.underlying3 (hval 1 3 v1 rfl rfl) h1
  obtain ⟨a2, rfl, rfl, rfl, w2⟩ := open_int Try.underlying3 (hval 2 3 v2 rfl rfl) h2
  clear hA0 hval0
  refine (walk a0 a1 a2 W w0 w1 w2).mono fun e W' ⟨he, bel⟩ => ?_
  subst he
  exact ⟨_, rfl, _, _, _, [], _, [], hW', trodAll_mk1 (shut_bool Try.underlying4 _), (trodAll_cons_mk (shut_int Try.underlying3 w0) (trodAll_cons_mk (shut_int Try.underlying3 w1) (trodAll_cons_mk (shut_int Try.underlying3 w2) trodAll_mk0))), rfl, bel.frame _, fun h => by cases h⟩

theorem over : Rows.octalOrderRow.holds Try.pinned (OpenSpec.ofChange Rows.octalOrderSpec) :=
  OpenClaim.holds_of_wide 7 Try.f7 rfl rfl rfl rfl rfl rfl rfl ⟨rfl, rfl, rfl, rfl, rfl⟩ rfl rfl rfl rfl rfl (by kernel_rfl) Try.func7 (by kernel_rfl)
    (of_decide_eq_true (by kernel_rfl)) (by unfold Func.isWrapper; first | (rw [if_pos (by decide +kernel)]; kernel_rfl) | (rw [if_neg (by decide +kernel)]; exact ⟨rfl, rfl⟩))
    (fun os started H enc _ => lifted os started H enc)

theorem proved : Rows.OctalOrderSaid := over
#print axioms proved
end Go.Proofs.Ythmkjccidmjlnaa.octalOrder
