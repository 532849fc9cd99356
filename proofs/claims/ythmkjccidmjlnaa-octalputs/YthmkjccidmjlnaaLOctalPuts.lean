/- Proved: for every number and width the statement OctalPuts answers true (the document's P7.1 and P7.2: every Most and Put, the bytes or the error), with no condition. -/
import Derived.Test.YthmkjccidmjlnaaV6
import Derived.Test.YthmkjccidmjlnaaK0
import Derived.ShutString
import Derived.ChangeOld
namespace Go.Proofs.Ythmkjccidmjlnaa.octalPuts
open Go.ChangeShapes Go.WideShapes Go.ChangeAt Go.RowKit
set_option linter.unusedVariables false

set_option linter.unusedSimpArgs false
set_option maxHeartbeats 1000000 in
theorem puts_arg (n z : Int) (hn : n ≤ 9223372036854775807) (hz : ¬ (2 ≤ z ∧ z ≤ 12)) (w : World) :
    Calls Try.prog 3 #[.int .i64 n, .int .i64 z] w fun e w' => e = .returned (.bool true) ∧ Bw w w' := by
  go_enter Try.func3, Try.ntmps3
  go_wp2_with (first
    | (go_at_call 9; refine (oput_any n z hn _).mono ?_; rintro e w1 hp; obtain rfl := hp.arg (Or.inl hz); have hw1 := hp.keeps; clear hp)
    | (go_at_call 10; refine (rput_any n z hn _).mono ?_; rintro e w2 hp; obtain rfl := hp.arg (Or.inl hz); have hw2 := hp.keeps; clear hp)
    | (go_at_call 11; refine (same7_any none none 0 0 0 0 (fun _ => 0) (fun _ => 0) (by decide) (by decide) _ (row_none _) (row_none _)).mono ?_; rintro e w3 ⟨⟨x, rfl, hx⟩, q, hq⟩; obtain rfl : x = true := hx.2 ⟨rfl, fun i _ => rfl⟩; have hw3 : Bw w2 w3 := (by rw [hq]; exact Bw.drewN _ q); clear hq hx)
    | (go_at_call 12; refine (most_no z hz _).mono ?_; rintro e w' ⟨rfl, hw'⟩; subst w')
    | (go_at_call 13; refine (rmost_no z hz _).mono ?_; rintro e w' ⟨rfl, hw'⟩; subst w'))
  go_ret
  exact ⟨rfl, hw1.trans (hw2.trans hw3)⟩
set_option maxHeartbeats 1000000 in
theorem puts_none (n : Int) (W : Nat) (hn : n ≤ 9223372036854775807) (h2 : 2 ≤ W) (h12 : W ≤ 12) (c : Int) (ho : ∀ w e w', OPutSays n (W : Int) w e w' → e = .returned (.tuple #[.slice none 0 0, .int .i64 c])) (hr : ∀ w e w', PutSays n (W : Int) w e w' → e = .returned (.tuple #[.slice none 0 0, .int .i64 c])) (w : World) :
    Calls Try.prog 3 #[.int .i64 n, .int .i64 (W : Int)] w fun e w' => e = .returned (.bool true) ∧ Bw w w' := by
  have HO : Hid (∀ w e w', OPutSays n (W : Int) w e w' → e = .returned (.tuple #[.slice none 0 0, .int .i64 c])) := ho
  have HR : Hid (∀ w e w', PutSays n (W : Int) w e w' → e = .returned (.tuple #[.slice none 0 0, .int .i64 c])) := hr
  clear ho hr
  obtain ⟨P, hP⟩ : ∃ P, Hid (P = (8 : Int) ^ (W - 1) - 1) := ⟨_, rfl⟩
  go_enter Try.func3, Try.ntmps3
  go_wp2_with (first
    | (go_at_call 9; refine (oput_any n (W : Int) hn _).mono ?_; rintro e w1 hp; obtain rfl := HO.out _ _ _ hp; have hw1 := hp.keeps; clear hp)
    | (go_at_call 10; refine (rput_any n (W : Int) hn _).mono ?_; rintro e w2 hp; obtain rfl := HR.out _ _ _ hp; have hw2 := hp.keeps; clear hp)
    | (go_at_call 11; refine (same7_any none none 0 0 0 0 (fun _ => 0) (fun _ => 0) (by decide) (by decide) _ (row_none _) (row_none _)).mono ?_; rintro e w3 ⟨⟨x, rfl, hx⟩, q, hq⟩; obtain rfl : x = true := hx.2 ⟨rfl, fun i _ => rfl⟩; have hw3 : Bw w2 w3 := (by rw [hq]; exact Bw.drewN _ q); clear hq hx)
    | (go_at_call 12; refine (most_yes W h2 h12 _).mono ?_; rintro e w' ⟨rfl, hw'⟩; subst w'; rw [← hP.out])
    | (go_at_call 13; refine (rmost_yes W h2 h12 _).mono ?_; rintro e w' ⟨rfl, hw'⟩; subst w'; rw [← hP.out]))
  go_ret
  exact ⟨rfl, hw1.trans (hw2.trans hw3)⟩
set_option maxHeartbeats 1000000 in
theorem puts_form (n : Int) (W : Nat) (hn : n ≤ 9223372036854775807) (h : Oct.Has n (W : Int)) (w : World) :
    Calls Try.prog 3 #[.int .i64 n, .int .i64 (W : Int)] w fun e w' => e = .returned (.bool true) ∧ Bw w w' := by
  have H : Hid (Oct.Has n (W : Int)) := h
  have h2 : 2 ≤ W := by have := h.1; omega
  have h12 : W ≤ 12 := by have := h.2.1; omega
  clear h
  obtain ⟨P, hP⟩ : ∃ P, Hid (P = (8 : Int) ^ (W - 1) - 1) := ⟨_, rfl⟩
  go_enter Try.func3, Try.ntmps3
  go_wp2_with (first
    | (go_at_call 9; refine (oput_yes n W hn H.out _).mono ?_; rintro e w1 ⟨g, rfl, ho, hg, hw1⟩; have hr1 := ho.row (Oct.formF_bd _ _); clear ho hg)
    | (go_at_call 10; refine (rput_any n (W : Int) hn _).mono ?_; rintro e w2 hp; obtain ⟨g2, c2, rfl, ho2, hg2, hc2, hm2⟩ := hp.form H.out.1 H.out.2.1 H.out.2.2.1 H.out.2.2.2; have hw2 := hp.keeps; clear hp; rw [Int.toNat_natCast] at ho2; rw [Int.toNat_natCast]; have hr2 := ho2.row (Oct.formF_bd _ _); clear ho2 hg2 hc2 hm2)
    | (go_at_call 11; refine (same7_any _ _ W W _ _ (Oct.formF n.toNat W) (Oct.formF n.toNat W) (by omega) (by omega) _ (hr1.keep hw2) hr2).mono ?_; rintro e w3 ⟨⟨x, rfl, hx⟩, q, hq⟩; obtain rfl : x = true := hx.2 ⟨rfl, fun i _ => rfl⟩; have hw3 : Bw w2 w3 := (by rw [hq]; exact Bw.drewN _ q); clear hq hx)
    | (go_at_call 12; refine (most_yes W h2 h12 _).mono ?_; rintro e w' ⟨rfl, hw'⟩; subst w'; rw [← hP.out])
    | (go_at_call 13; refine (rmost_yes W h2 h12 _).mono ?_; rintro e w' ⟨rfl, hw'⟩; subst w'; rw [← hP.out]))
  go_ret
  exact ⟨rfl, hw1.trans (hw2.trans hw3)⟩
theorem walk (a0 : Int) (a1 : Int) (w : World) (w0 : (Lit.int .i64 a0).wf = true) (w1 : (Lit.int .i64 a1).wf = true) :
    Calls Try.prog 3 #[.int .i64 a0, .int .i64 a1] w fun e w' => e = .returned (.bool true) ∧ Below w.heap.size w w' := by
  have b0 := bounds_i64 w0
  by_cases hz : 2 ≤ a1 ∧ a1 ≤ 12
  · obtain ⟨W, rfl⟩ := Int.eq_ofNat_of_zero_le (show 0 ≤ a1 by omega)
    by_cases h0 : 0 ≤ a0
    · by_cases hf : a0.toNat < 8 ^ ((W : Int).toNat - 1) ∨ a0.toNat < 256 ^ ((W : Int).toNat - 1)
      · exact puts_form a0 W (by omega) ⟨hz.1, hz.2, h0, hf⟩ w
      · exact puts_none a0 W (by omega) (by omega) (by omega) 2 (fun _ _ _ h => h.long hz.1 hz.2 h0 hf) (fun _ _ _ h => h.long hz.1 hz.2 h0 hf) w
    · exact puts_none a0 W (by omega) (by omega) (by omega) 1 (fun _ _ _ h => h.arg (Or.inr (by omega))) (fun _ _ _ h => h.arg (Or.inr (by omega))) w
  · exact puts_arg a0 a1 (by omega) hz w

set_option maxRecDepth 100000 in
theorem lifted (os : Os) (started : os.Started) (H : Type) (enc : TypeId × Value → H) :
    ReturnsInHanded {} Try.checked os 3 .any (Rows.octalPutsSpec.pre6 enc Try.prog Try.f3 Rows.octalPutsRow.domain false) (Rows.octalPutsSpec.post enc Try.prog Try.f3 false true false false) := by
  refine returnsInHanded_of_change_sized (C := Try.checked) own started (by kernel_rfl) Try.func3
    (ChangeSpec.witness6 (enc := enc) (C := Try.checked) false ⟨#[], #[.int .i64 0, .int .i64 0], []⟩ 8 (by kernel_rfl) (by kernel_rfl) (by kernel_rfl) (by kernel_rfl)) ?_
  intro W base args ds gs before hval0 hW hcnd hsz0 _
  have hval : ∀ (j : Nat) t v, Try.f3.params[j]? = some t → args[j]? = some v → Value.okWide Try.prog W .any base t v := hval0
  have hW' := hW
  obtain ⟨p, q, hA0, hV, rfl, hfz, hnd⟩ := hW
  have hA : DataW.TrodAll enc Try.prog W 0 (fun _ => true) true Try.f3.params.toList args.toList ds p := hA0
  have hsz : (DataW.weightsEach Try.prog (Try.f3.params.toList ++ Rows.octalPutsSpec.plain.varTypes Try.prog) (ds ++ gs)).all (· ≤ reachBytes) = true := hsz0
  rw [Try.params3] at hA hval hsz
  obtain ⟨v0, vs0, d0, ds0, p0, q0, hargs, rfl, rfl, h0, r0⟩ := trodAll_cons hA
  obtain ⟨v1, vs1, d1, ds1, p1, q1, rfl, rfl, rfl, h1, r1⟩ := trodAll_cons r0
  obtain ⟨rfl, rfl, rfl⟩ := trodAll_nil r1
  obtain rfl : args = #[v0, v1] := by cases args; simp_all
  obtain ⟨rfl, rfl⟩ := trodVars_none hV
  obtain ⟨a0, rfl, rfl, rfl, w0⟩ := open_int Try.underlying3 (hval 0 3 v0 rfl rfl) h0
  obtain ⟨a1, rfl, rfl, rfl, w1⟩ := open_int Try.underlying3 (hval 1 3 v1 rfl rfl) h1
  clear hA0 hval0
  refine (walk a0 a1 W w0 w1).mono fun e W' ⟨he, bel⟩ => ?_
  subst he
  exact ⟨_, rfl, _, _, _, [], _, [], hW', trodAll_mk1 (shut_bool Try.underlying4 _), (trodAll_cons_mk (shut_int Try.underlying3 w0) (trodAll_cons_mk (shut_int Try.underlying3 w1) trodAll_mk0)), rfl, bel.frame _, fun h => by cases h⟩

theorem over : Rows.octalPutsRow.holds Try.pinned (OpenSpec.ofChange Rows.octalPutsSpec) :=
  OpenClaim.holds_of_wide 3 Try.f3 rfl rfl rfl rfl rfl rfl rfl ⟨rfl, rfl, rfl, rfl, rfl⟩ rfl rfl rfl rfl rfl (by kernel_rfl) Try.func3 (by kernel_rfl)
    (of_decide_eq_true (by kernel_rfl)) (by unfold Func.isWrapper; first | (rw [if_pos (by decide +kernel)]; kernel_rfl) | (rw [if_neg (by decide +kernel)]; exact ⟨rfl, rfl⟩))
    (fun os started H enc _ => lifted os started H enc)

theorem proved : Rows.OctalPutsSaid := over
#print axioms proved
end Go.Proofs.Ythmkjccidmjlnaa.octalPuts
