/- Proved: for every three bytes the statement GfField answers true (the document's P1.5, bytes are a field), with no condition; arguments read behind the call as before. -/
import Derived.Test.YtmlbodpfapbhmaaW3
import Derived.ProofKit
import Derived.OpenShut
namespace Go.Proofs.Ytmlbodpfapbhmaa.gfField
open Go.ChangeShapes Go.WideShapes Go.ChangeAt Go.RowKit
set_option linter.unusedVariables false      -- a walk need not use every 'w<i>' (that an integer argument fits its kind)

theorem own : ownKnob Try.prog.godebug = none := by kernel_rfl

theorem add_comm (a b : Int) : addI b a = addI a b := by unfold addI; rw [Nat.xor_comm]
theorem add_assoc (a b c : Int) : addI (addI a b) c = addI a (addI b c) := by unfold addI; rw [Int.toNat_natCast, Int.toNat_natCast, Nat.xor_assoc]
theorem add_zero (a : Int) (a0 : 0 ≤ a) : addI a 0 = a := by unfold addI; simp; omega
theorem add_self (a : Int) : addI a a = 0 := by unfold addI; simp
theorem mul_comm (a b : Int) (a1 : a < 256) (b1 : b < 256) : mulI b a = mulI a b := by unfold mulI; rw [Gf.mul_comm _ _ (by omega) (by omega)]
theorem mul_assoc (a b c : Int) (a1 : a < 256) (b1 : b < 256) : mulI (mulI a b) c = mulI a (mulI b c) := by unfold mulI; rw [Int.toNat_natCast, Int.toNat_natCast, Gf.mul_assoc _ _ _ (by omega) (by omega)]
theorem mul_one (a : Int) (a0 : 0 ≤ a) (a1 : a < 256) : mulI a 1 = a := by
  unfold mulI; rw [show (1 : Int).toNat = 1 from rfl, Gf.mul_one _ (by omega)]; omega
theorem mul_add (a b c : Int) (a1 : a < 256) : mulI a (addI b c) = addI (mulI a b) (mulI a c) := by
  unfold mulI addI; rw [Int.toNat_natCast, Int.toNat_natCast, Int.toNat_natCast, Gf.mul_add _ _ _ (by omega)]
theorem mul_zero_iff (a b : Int) (a0 : 0 ≤ a) (a1 : a < 256) (b0 : 0 ≤ b) (b1 : b < 256) : mulI a b = 0 ↔ a = 0 ∨ b = 0 := by
  have := Gf.mul_eq_zero a.toNat b.toNat (by omega) (by omega)
  unfold mulI; omega

theorem field_case (a b c : Int) (x0 : 0 ≤ a ∧ a < 256) (x1 : 0 ≤ b ∧ b < 256) (x2 : 0 ≤ c ∧ c < 256) (u v : Bool) (hu : (a == 0) = u) (hv : (b == 0) = v) (hz : (mulI a b == 0) = (u || v)) (w : World) :
    Calls Try.prog 5 #[.int .u8 a, .int .u8 b, .int .u8 c] w fun e w' => e = .returned (.bool true) ∧ Gw w w' := by
  have r1 := add_comm a b
  have r2 := add_assoc a b c
  have r3 := add_zero a x0.1
  have r4 := add_self a
  have r5 := mul_comm a b x0.2 x1.2
  have r6 := mul_assoc a b c x0.2 x1.2
  have r7 := mul_one a x0.1 x0.2
  have r8 := mul_add a b c x0.2
  have b1 := addI_bd a b x0.2 x1.2
  have b2 := addI_bd b c x1.2 x2.2
  have b3 := mulI_bd a b x0.2
  have b4 := mulI_bd b c x1.2
  have b5 := mulI_bd a c x0.2
  cases u <;> cases v <;> simp only [Bool.or_true, Bool.or_false] at hz
  all_goals
    go_enter Try.func5, Try.ntmps5
    go_wp2_with (first | (go_at_call 11; refine (add_any _ _ (by omega) (by omega) (by omega) (by omega) _).mono ?_; rintro e w' ⟨rfl, rfl⟩) | (go_at_call 12; refine (mul_any _ _ (by omega) (by omega) (by omega) (by omega) _).mono ?_; rintro e w' ⟨rfl, rfl⟩) | (go_at_call 15; refine (wakes_any _).mono ?_; rintro e w' ⟨rfl, hg⟩))
    go_ret
    exact ⟨rfl, hg⟩

theorem field_any (a b c : Int) (x0 : 0 ≤ a ∧ a < 256) (x1 : 0 ≤ b ∧ b < 256) (x2 : 0 ≤ c ∧ c < 256) (w : World) :
    Calls Try.prog 5 #[.int .u8 a, .int .u8 b, .int .u8 c] w fun e w' => e = .returned (.bool true) ∧ Grown w w' := by
  refine (field_case a b c x0 x1 x2 (a == 0) (b == 0) rfl rfl ?_ w).mono fun e w' h => ⟨h.1, h.2.2⟩
  have := mul_zero_iff a b x0.1 x0.2 x1.1 x1.2
  rw [Bool.eq_iff_iff]
  simpa using this

theorem walk (a0 : Int) (a1 : Int) (a2 : Int) (w0 : (Lit.int .u8 a0).wf = true) (w1 : (Lit.int .u8 a1).wf = true) (w2 : (Lit.int .u8 a2).wf = true) (w : World) :
    Calls Try.prog 5 #[.int .u8 a0, .int .u8 a1, .int .u8 a2] w fun e w' => e = .returned (.bool true) ∧ Grown w w' := by
  have x0 := bounds_u8 w0
  have x1 := bounds_u8 w1
  have x2 := bounds_u8 w2
  exact field_any a0 a1 a2 (by omega) (by omega) (by omega) w

/-! ### THE ROW's STEP: WRITTEN OUT: LEAVE IT -/
set_option maxRecDepth 100000 in
theorem lifted (os : Os) (started : os.Started) (H : Type) (enc : TypeId × Value → H) :
    ReturnsInHanded {} Try.checked os 5 .any (Rows.gfFieldSpec.pre6 enc Try.prog Try.f5 Rows.gfFieldRow.domain false) (Rows.gfFieldSpec.post enc Try.prog Try.f5 false true false false) := by
  refine returnsInHanded_of_change (C := Try.checked) own started (by kernel_rfl) Try.func5
    (ChangeSpec.witness6 (enc := enc) (C := Try.checked) false ⟨#[], #[.int .u8 0, .int .u8 0, .int .u8 0], []⟩ 8 (by kernel_rfl) (by kernel_rfl) (by kernel_rfl) (by kernel_rfl)) ?_
  intro W base args ds gs before hval0 hW hcnd _
  have hval : ∀ (j : Nat) t v, Try.f5.params[j]? = some t → args[j]? = some v → Value.okWide Try.prog W .any base t v := hval0
  have hW' := hW
  obtain ⟨p, q, hA0, hV, rfl, hfz, hnd⟩ := hW
  have hA : DataW.TrodAll enc Try.prog W 0 (fun _ => true) true Try.f5.params.toList args.toList ds p := hA0
  rw [Try.params5] at hA hval
  obtain ⟨v0, vs0, d0, ds0, p0, q0, hargs, rfl, rfl, h0, r0⟩ := trodAll_cons hA
  obtain ⟨v1, vs1, d1, ds1, p1, q1, rfl, rfl, rfl, h1, r1⟩ := trodAll_cons r0
  obtain ⟨v2, vs2, d2, ds2, p2, q2, rfl, rfl, rfl, h2, r2⟩ := trodAll_cons r1
  obtain ⟨rfl, rfl, rfl⟩ := trodAll_nil r2
  obtain rfl : args = #[v0, v1, v2] := by cases args; simp_all
  obtain ⟨rfl, rfl⟩ := trodVars_none hV
  obtain ⟨a0, rfl, rfl, rfl, w0⟩ := open_int Try.underlying5 (hval 0 5 v0 rfl rfl) h0
  obtain ⟨a1, rfl, rfl, rfl, w1⟩ := open_int Try.underlying5 (hval 1 5 v1 rfl rfl) h1
  obtain ⟨a2, rfl, rfl, rfl, w2⟩ := open_int Try.underlying5 (hval 2 5 v2 rfl rfl) h2
  clear hA0 hval0
  simp only [List.append_nil] at hW'
  refine (walk a0 a1 a2 w0 w1 w2 W).mono fun e W' ⟨he, hg⟩ => ?_
  subst he
  exact ⟨_, rfl, post_of_same (pa := []) (pv := []) hW' (fun _ _ _ => (trodAll_cons_mk (shut_bool Try.underlying4 _) trodAll_mk0)) (fun sp _ => (trodAll_cons_mk (shut_int Try.underlying5 w0) (trodAll_cons_mk (shut_int Try.underlying5 w1) (trodAll_cons_mk (shut_int Try.underlying5 w2) trodAll_mk0)))) (fun _ _ => rfl) rfl
    (hg.frame _) hg.2.1 (ok_one (by kernel_rfl) rfl (okWide_bool_mk Try.underlying4 _))⟩

theorem over : Rows.gfFieldRow.holds Try.pinned (OpenSpec.ofChange Rows.gfFieldSpec) :=
  OpenClaim.holds_of_wide 5 Try.f5 rfl rfl rfl rfl rfl rfl rfl ⟨rfl, rfl, rfl, rfl, rfl⟩ rfl rfl rfl rfl rfl (by kernel_rfl) Try.func5 (by kernel_rfl)
    (of_decide_eq_true (by kernel_rfl)) (by unfold Func.isWrapper; first | (rw [if_pos (by decide +kernel)]; kernel_rfl) | (rw [if_neg (by decide +kernel)]; exact ⟨rfl, rfl⟩))
    (fun os started H enc _ => lifted os started H enc)

/-- ████ THE STATEMENT ████ -/
theorem proved : Rows.GfFieldSaid :=
  over
#print axioms proved
end Go.Proofs.Ytmlbodpfapbhmaa.gfField
