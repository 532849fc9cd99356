/- Proved: for any two texts the statement NameBeneath answers true (the document's P8.6: every Beneath), with no condition but the reach. -/
import Derived.Test.YtpkdnockbbppiaaNT
import Derived.Test.YtpkdnockbbppiaaFs
import Derived.ShutString
import Derived.ChangeOld
namespace Go.Proofs.Ytpkdnockbbppiaa.nameBeneath
open Go.ChangeShapes Go.WideShapes Go.ChangeAt Go.RowKit
set_option linter.unusedVariables false

set_option linter.unusedSimpArgs false
theorem check_a : Nm.check [97] = (0, 0) := by decide
theorem beneath_ab : Nm.Beneath [97] [97, 47, 98] := ⟨by decide, Or.inr ⟨by decide, by decide, by decide⟩⟩
theorem tells_same {x y : Bool} {P : Prop} (h : x = true ↔ P) (k : y = true ↔ P) : x = y := by
  cases x <;> cases y
  · rfl
  · exact absurd (h.2 (k.1 rfl)) (by simp)
  · exact absurd (k.2 (h.1 rfl)) (by simp)
  · rfl
theorem walk (s0 : ByteArray) (s1 : ByteArray) (w : World) (w0 : s0.size ≤ 140737488351232) (w1 : s1.size ≤ 140737488351232) :
    Calls Try.prog 7 #[.string s0, .string s1] w fun e w' => e = .returned (.bool true) ∧ Below w.heap.size w w' := by
  have tok1 : Hid (w = w) := rfl
  go_enter Try.func7, Try.ntmps7
  go_wp2_with (first
    | (go_at_call 9; refine (ncheck_any ⟨#[97]⟩ (by decide) _).mono ?_; rintro e w2 ⟨rfl, hw2⟩; rw [show (⟨#[97]⟩ : ByteArray).toList = [97] from Nm.toList_S [97], check_a])
    | (go_at_call 19; clear tok1; refine (nbeneath_any ⟨#[97]⟩ ⟨#[97, 47, 98]⟩ (by decide) (by decide) _).mono ?_; rintro e w3 ⟨⟨x, rfl, hx⟩, hw3⟩; rw [show (⟨#[97]⟩ : ByteArray).toList = [97] from Nm.toList_S [97], show (⟨#[97, 47, 98]⟩ : ByteArray).toList = [97, 47, 98] from Nm.toList_S [97, 47, 98]] at hx; obtain rfl : x = true := hx.2 beneath_ab; clear hx)
    | (go_at_call 19; refine (nbeneath_any s0 s1 (by omega) (by omega) _).mono ?_; rintro e w4 ⟨⟨x, rfl, hx⟩, hw4⟩)
    | (go_at_call 20; refine (rbeneath_any s0 s1 (by omega) (by omega) _).mono ?_; rintro e w5 ⟨⟨y, rfl, hy⟩, hw5⟩; obtain rfl := tells_same hx hy; clear hy))
  go_ret
  exact ⟨rfl, hw2.trans (hw3.trans (hw4.trans hw5))⟩

set_option maxRecDepth 100000 in
theorem lifted (os : Os) (started : os.Started) (H : Type) (enc : TypeId × Value → H) :
    ReturnsInHanded {} Try.checked os 7 .any (Rows.nameBeneathSpec.pre6 enc Try.prog Try.f7 Rows.nameBeneathRow.domain false) (Rows.nameBeneathSpec.post enc Try.prog Try.f7 false true false false) := by
  refine returnsInHanded_of_change_sized (C := Try.checked) own started (by kernel_rfl) Try.func7
    (ChangeSpec.witness6 (enc := enc) (C := Try.checked) false ⟨#[], #[.string .empty, .string .empty], []⟩ 8 (by kernel_rfl) (by kernel_rfl) (by kernel_rfl) (by kernel_rfl)) ?_
  intro W base args ds gs before hval0 hW hcnd hsz0 _
  have hval : ∀ (j : Nat) t v, Try.f7.params[j]? = some t → args[j]? = some v → Value.okWide Try.prog W .any base t v := hval0
  have hW' := hW
  obtain ⟨p, q, hA0, hV, rfl, hfz, hnd⟩ := hW
  have hA : DataW.TrodAll enc Try.prog W 0 (fun _ => true) true Try.f7.params.toList args.toList ds p := hA0
  have hsz : (DataW.weightsEach Try.prog (Try.f7.params.toList ++ Rows.nameBeneathSpec.plain.varTypes Try.prog) (ds ++ gs)).all (· ≤ reachBytes) = true := hsz0
  rw [Try.params7] at hA hval hsz
  obtain ⟨v0, vs0, d0, ds0, p0, q0, hargs, rfl, rfl, h0, r0⟩ := trodAll_cons hA
  obtain ⟨v1, vs1, d1, ds1, p1, q1, rfl, rfl, rfl, h1, r1⟩ := trodAll_cons r0
  obtain ⟨rfl, rfl, rfl⟩ := trodAll_nil r1
  obtain rfl : args = #[v0, v1] := by cases args; simp_all
  obtain ⟨rfl, rfl⟩ := trodVars_none hV
  have k0 := h0
  have lt0 : ∀ x ∈ p0, x.block < W.heap.size := by obtain ⟨m, hm⟩ := k0; exact DataW.trod_lt m _ _ _ hm
  obtain ⟨s0, rfl, rfl, w0⟩ := open_str (hval 0 9 v0 rfl rfl) h0 (fun x hx => by simpa using List.all_eq_true.1 hsz x (DataW.weights_mem_each (j := 0) (t := 9) rfl rfl x hx))
  have k1 := h1
  have lt1 : ∀ x ∈ p1, x.block < W.heap.size := by obtain ⟨m, hm⟩ := k1; exact DataW.trod_lt m _ _ _ hm
  obtain ⟨s1, rfl, rfl, w1⟩ := open_str (hval 1 9 v1 rfl rfl) h1 (fun x hx => by simpa using List.all_eq_true.1 hsz x (DataW.weights_mem_each (j := 1) (t := 9) rfl rfl x hx))
  clear hA0 hval0
  refine (walk s0 s1 W w0 w1).mono fun e W' ⟨he, bel⟩ => ?_
  subst he
  exact ⟨_, rfl, _, _, _, [], _, [], hW', trodAll_mk1 (shut_bool Try.underlying4 _), (trodAll_cons_mk (Below.trod laidOut (by kernel_rfl) (of_decide_eq_true (by kernel_rfl)) k0 bel lt0) (trodAll_cons_mk (Below.trod laidOut (by kernel_rfl) (of_decide_eq_true (by kernel_rfl)) k1 bel lt1) trodAll_mk0)), rfl, bel.frame _, fun h => by cases h⟩

theorem over : Rows.nameBeneathRow.holds Try.pinned (OpenSpec.ofChange Rows.nameBeneathSpec) :=
  OpenClaim.holds_of_wide 7 Try.f7 rfl rfl rfl rfl rfl rfl rfl ⟨rfl, rfl, rfl, rfl, rfl⟩ rfl rfl rfl rfl rfl (by kernel_rfl) Try.func7 (by kernel_rfl)
    (of_decide_eq_true (by kernel_rfl)) (by unfold Func.isWrapper; first | (rw [if_pos (by decide +kernel)]; kernel_rfl) | (rw [if_neg (by decide +kernel)]; exact ⟨rfl, rfl⟩))
    (fun os started H enc _ => lifted os started H enc)

theorem proved : Rows.NameBeneathSaid := over
#print axioms proved
end Go.Proofs.Ytpkdnockbbppiaa.nameBeneath
