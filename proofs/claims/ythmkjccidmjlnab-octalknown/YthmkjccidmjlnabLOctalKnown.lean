/- Proved: the closed statement OctalKnown answers true (the document's P7.1 to P7.4: the limits and errors have their numbers; the document's examples), with no condition. -/
import Derived.Test.YthmkjccidmjlnabV6
import Derived.Test.YthmkjccidmjlnabK0
import Derived.ShutString
import Derived.ChangeOld
namespace Go.Proofs.Ythmkjccidmjlnab.octalKnown
open Go.ChangeShapes Go.WideShapes Go.ChangeAt Go.RowKit
set_option linter.unusedVariables false

set_option linter.unusedSimpArgs false
theorem kg1 : Oct.Says 8 (Oct.lit [32, 32, 54, 52, 52, 32, 0, 0]) 420 0 0 :=
  Oct.says_of (p := 2) (q := 5) (r := 8) (by decide) (by decide) (by decide)
    (Oct.run_mk (by decide) (by decide) (by unfold Oct.Blank; decide) (by unfold Oct.Blank; decide))
    (Oct.run_mk (by decide) (by decide) (by unfold Oct.Digit; decide) (by unfold Oct.Digit; decide))
    (Oct.run_mk (by decide) (by decide) (by unfold Oct.Tail; decide) (by unfold Oct.Tail; decide))
    ⟨fun _ => ⟨by decide, rfl, rfl⟩, fun h => by omega⟩
theorem kg2 : Oct.Says 3 (Oct.lit [0, 32, 0]) 0 0 0 :=
  Oct.says_of (p := 0) (q := 0) (r := 3) (by decide) (by decide) (by decide)
    (Oct.run_mk (by decide) (by decide) (by unfold Oct.Blank; decide) (by unfold Oct.Blank; decide))
    (Oct.run_mk (by decide) (by decide) (by unfold Oct.Digit; decide) (by unfold Oct.Digit; decide))
    (Oct.run_mk (by decide) (by decide) (by unfold Oct.Tail; decide) (by unfold Oct.Tail; decide))
    ⟨fun _ => ⟨by decide, rfl, rfl⟩, fun h => by omega⟩
theorem ke1 : Oct.Says 4 (Oct.lit [32, 54, 52, 0]) 52 0 0 :=
  Oct.says_of (p := 1) (q := 3) (r := 4) (by decide) (by decide) (by decide)
    (Oct.run_mk (by decide) (by decide) (by unfold Oct.Blank; decide) (by unfold Oct.Blank; decide))
    (Oct.run_mk (by decide) (by decide) (by unfold Oct.Digit; decide) (by unfold Oct.Digit; decide))
    (Oct.run_mk (by decide) (by decide) (by unfold Oct.Tail; decide) (by unfold Oct.Tail; decide))
    ⟨fun _ => ⟨by decide, rfl, rfl⟩, fun h => by omega⟩
theorem kf1 : Oct.Says 4 (Oct.lit [54, 52, 56, 0]) 0 2 70 :=
  Oct.says_of (p := 0) (q := 2) (r := 2) (by decide) (by decide) (by decide)
    (Oct.run_mk (by decide) (by decide) (by unfold Oct.Blank; decide) (by unfold Oct.Blank; decide))
    (Oct.run_mk (by decide) (by decide) (by unfold Oct.Digit; decide) (by unfold Oct.Digit; decide))
    (Oct.run_mk (by decide) (by decide) (by unfold Oct.Tail; decide) (by unfold Oct.Tail; decide))
    ⟨fun h => by omega, fun _ => ⟨rfl, rfl, rfl⟩⟩
theorem kf2 : Oct.Says 3 (Oct.lit [32, 0, 55]) 0 2 70 :=
  Oct.says_of (p := 1) (q := 1) (r := 2) (by decide) (by decide) (by decide)
    (Oct.run_mk (by decide) (by decide) (by unfold Oct.Blank; decide) (by unfold Oct.Blank; decide))
    (Oct.run_mk (by decide) (by decide) (by unfold Oct.Digit; decide) (by unfold Oct.Digit; decide))
    (Oct.run_mk (by decide) (by decide) (by unfold Oct.Tail; decide) (by unfold Oct.Tail; decide))
    ⟨fun h => by omega, fun _ => ⟨rfl, rfl, rfl⟩⟩
theorem kf3 : Oct.Says 4 (Oct.lit [54, 0, 52, 0]) 0 2 70 :=
  Oct.says_of (p := 0) (q := 1) (r := 2) (by decide) (by decide) (by decide)
    (Oct.run_mk (by decide) (by decide) (by unfold Oct.Blank; decide) (by unfold Oct.Blank; decide))
    (Oct.run_mk (by decide) (by decide) (by unfold Oct.Digit; decide) (by unfold Oct.Digit; decide))
    (Oct.run_mk (by decide) (by decide) (by unfold Oct.Tail; decide) (by unfold Oct.Tail; decide))
    ⟨fun h => by omega, fun _ => ⟨rfl, rfl, rfl⟩⟩
theorem ke2 : Oct.Says 2 (Oct.lit [128, 7]) 7 0 0 :=
  ⟨fun h => absurd (by decide) h, fun _ _ _ _ => ⟨by decide, rfl, rfl⟩, fun _ _ _ h => absurd (by decide) h, fun _ _ h => absurd rfl h⟩
theorem kf5 : Oct.Says 12 (Oct.lit [128, 0, 0, 0, 128, 0, 0, 0, 0, 0, 0, 0]) 0 0 2 :=
  ⟨fun h => absurd (by decide) h, fun _ _ _ h => absurd h (by decide), fun _ _ _ _ => ⟨rfl, rfl, rfl⟩, fun _ _ h => absurd rfl h⟩
theorem kf4 : Oct.Says 0 (fun _ => 0) 0 0 1 :=
  ⟨fun _ => ⟨rfl, rfl, rfl⟩, fun h => absurd h (by decide), fun h => absurd h (by decide), fun h => absurd h (by decide)⟩
theorem nf1 : ¬ IsForm 4 (Oct.lit [32, 54, 52, 0]) 52 := fun h => absurd (h.2 0 (by decide)) (by unfold Oct.formF; decide)
theorem nf2 : ¬ IsForm 2 (Oct.lit [128, 7]) 7 := fun h => absurd (h.2 0 (by decide)) (by unfold Oct.formF; decide)
theorem hw1 : Oct.Has 2097152 ((8 : Nat) : Int) := by unfold Oct.Has; decide
theorem hw2 : Oct.Has 8 ((2 : Nat) : Int) := by unfold Oct.Has; decide
theorem hw3 : ¬ Oct.Has 256 2 := by unfold Oct.Has; decide
theorem hw4 : ¬ Oct.Has (-1) 8 := by unfold Oct.Has; decide
theorem fw1 : ∀ i, i < 8 → Oct.formF 2097152 8 i = Oct.lit [128, 0, 0, 0, 0, 32, 0, 0] i := by unfold Oct.formF; decide
theorem fw2 : ∀ i, i < 2 → Oct.formF 8 2 i = Oct.lit [128, 8] i := by unfold Oct.formF; decide
set_option maxHeartbeats 1000000 in
theorem fails_yes (A : Option Addr) (L ca : Nat) (f : Nat → Int) (a er : Int) (hca : L ≤ ca) (w : World) (hrow : RowAt w A L f) (hs : Oct.Says L f 0 a er) :
    Calls Try.prog 11 #[.slice A L ca, .int .i64 er, .int .i64 a] w fun e w' => e = .returned (.bool true) ∧ w' = w := by
  have HS : Hid (Oct.Says L f 0 a er) := hs
  clear hs
  go_enter Try.func11, Try.ntmps11
  go_wp2_with (go_at_call 10; refine (oget_still A L ca f hca _ hrow).mono ?_; rintro e w' ⟨⟨n1, a1, er1, rfl, hs1⟩, hw'⟩; subst w'; obtain ⟨rfl, rfl, rfl⟩ := Oct.says_unique HS.out hs1; clear hs1)
  go_ret
  exact ⟨rfl, rfl⟩
attribute [local go_sem] List.getElem?_cons_zero Option.getD_some
theorem walk  (w : World)  :
    Calls Try.prog 4 #[] w fun e w' => e = .returned (.bool true) ∧ Below w.heap.size w w' := by
  have tok1 : Hid (0 = 0) := rfl
  have tok2 : Hid (0 = 0) := rfl
  have tok3 : Hid (0 = 0) := rfl
  have tok4 : Hid (0 = 0) := rfl
  have tok5 : Hid (0 = 0) := rfl
  have tok6 : Hid (0 = 0) := rfl
  have tok7 : Hid (0 = 0) := rfl
  have tok8 : Hid (0 = 0) := rfl
  have tok9 : Hid (0 = 0) := rfl
  have tok10 : Hid (0 = 0) := rfl
  have tok11 : Hid (0 = 0) := rfl
  have tok12 : Hid (0 = 0) := rfl
  have tok13 : Hid (0 = 0) := rfl
  have tok14 : Hid (0 = 0) := rfl
  have tok15 : Hid (0 = 0) := rfl
  have tok16 : Hid (0 = 0) := rfl
  have tok17 : Hid (0 = 0) := rfl
  have tok18 : Hid (0 = 0) := rfl
  have tok19 : Hid (0 = 0) := rfl
  have tok20 : Hid (0 = 0) := rfl
  have tok21 : Hid (0 = 0) := rfl
  have tok22 : Hid (0 = 0) := rfl
  have tok23 : Hid (0 = 0) := rfl
  have tok24 : Hid (0 = 0) := rfl
  have tok25 : Hid (0 = 0) := rfl
  have tok26 : Hid (0 = 0) := rfl
  have tok27 : Hid (0 = 0) := rfl
  have tok28 : Hid (0 = 0) := rfl
  go_enter Try.func4, Try.ntmps4
  go_wp2_with (first
    | (go_at_call 6; clear tok1; refine (oput_yes 2097152 8 (by decide) hw1 _).mono ?_; rintro e v1 ⟨gv1, rfl, hov1, hgv1, hbv1⟩; have hrv1 : RowAt v1 (some ⟨gv1, 0, none⟩) 8 (Oct.formF 2097152 8) := hov1.row (Oct.formF_bd _ _); clear hov1 hgv1))
  go_wp2_with (first
    | (go_at_call 6; clear tok2; refine (oput_yes 8 2 (by decide) hw2 _).mono ?_; rintro e v2 ⟨gv2, rfl, hov2, hgv2, hbv2⟩; have hrv2 : RowAt v2 (some ⟨gv2, 0, none⟩) 2 (Oct.formF 8 2) := hov2.row (Oct.formF_bd _ _); clear hov2 hgv2))
  go_wp2_with (first
    | (go_at_call 6; clear tok3; refine (oput_no 256 2 (by decide) hw3 _).mono ?_; rintro e v3 ⟨rfl, hbv3⟩; rw [show Oct.errP 256 2 = 2 from rfl]))
  go_wp2_with (first
    | (go_at_call 6; clear tok4; refine (oput_no (-1) 8 (by decide) hw4 _).mono ?_; rintro e v4 ⟨rfl, hbv4⟩; rw [show Oct.errP (-1) 8 = 1 from rfl]))
  go_wp2_with (first
    | (go_at_call 8; clear tok5; refine (most_yes 8 (by decide) (by decide) _).mono ?_; rintro e w' ⟨rfl, hw'⟩; subst w'; rw [show (8 : Int) ^ (8 - 1) - 1 = 2097151 from rfl]))
  go_wp2_with (first
    | (go_at_call 8; clear tok6; refine (most_yes 12 (by decide) (by decide) _).mono ?_; rintro e w' ⟨rfl, hw'⟩; subst w'; rw [show (8 : Int) ^ (12 - 1) - 1 = 8589934591 from rfl]))
  go_wp2_with (first
    | (go_at_call 8; clear tok7; refine (most_no 1 (by decide) _).mono ?_; rintro e w' ⟨rfl, hw'⟩; subst w'))
  go_wp2_with (first
    | (clear tok8; refine wpList_lit7 (by rfl) 8 _ rfl [128, 0, 0, 0, 0, 32, 0, 0] rfl (by decide) (by decide) rfl ?_)
    | (go_at_call 9; clear tok9; refine (same7_any _ _ 8 8 _ _ (Oct.formF 2097152 8) (Oct.lit [128, 0, 0, 0, 0, 32, 0, 0]) (by decide) (by decide) _ ((((hrv1.keep hbv2).keep hbv3).keep hbv4).keep (bw_alloc7 (Bw.refl _) _)) (row_lit _ [128, 0, 0, 0, 0, 32, 0, 0] _ 8 (by decide) (by rfl) (by decide))).mono ?_; rintro e v5 ⟨⟨x, rfl, hx⟩, q, hq⟩; obtain rfl : x = true := hx.2 ⟨rfl, fw1⟩; have hbv5 : Bw v4 v5 := (by rw [hq]; exact (bw_alloc7 (Bw.refl _) _).trans (Bw.drewN _ q)); clear hq hx))
  go_wp2_with (first
    | (clear tok10; refine wpList_lit7 (by rfl) 2 _ rfl [128, 8] rfl (by decide) (by decide) rfl ?_)
    | (go_at_call 9; clear tok11; refine (same7_any _ _ 2 2 _ _ (Oct.formF 8 2) (Oct.lit [128, 8]) (by decide) (by decide) _ ((((hrv2.keep hbv3).keep hbv4).keep hbv5).keep (bw_alloc7 (Bw.refl _) _)) (row_lit _ [128, 8] _ 2 (by decide) (by rfl) (by decide))).mono ?_; rintro e v6 ⟨⟨x, rfl, hx⟩, q, hq⟩; obtain rfl : x = true := hx.2 ⟨rfl, fw2⟩; have hbv6 : Bw v5 v6 := (by rw [hq]; exact (bw_alloc7 (Bw.refl _) _).trans (Bw.drewN _ q)); clear hq hx))
  go_wp2_with (first
    | (clear tok12; refine wpList_lit7 (by rfl) 8 _ rfl [32, 32, 54, 52, 52, 32, 0, 0] rfl (by decide) (by decide) rfl ?_)
    | (go_at_call 10; clear tok13; refine (oget_still _ 8 8 (Oct.lit [32, 32, 54, 52, 52, 32, 0, 0]) (Nat.le_refl _) _ (row_lit _ [32, 32, 54, 52, 52, 32, 0, 0] _ 8 (by decide) (by rfl) (by decide))).mono ?_; rintro e w' ⟨⟨n, a, er, rfl, hs⟩, hw'⟩; subst w'; obtain ⟨rfl, rfl, rfl⟩ := Oct.says_unique kg1 hs; clear hs; generalize hWv7 : World.alloc v6 _ = v7; have hbv7 : Bw v6 v7 := (by rw [← hWv7]; exact bw_alloc7 (Bw.refl _) _); clear hWv7))
  go_wp2_with (first
    | (clear tok14; refine wpList_lit7 (by rfl) 3 _ rfl [0, 32, 0] rfl (by decide) (by decide) rfl ?_)
    | (go_at_call 10; clear tok15; refine (oget_still _ 3 3 (Oct.lit [0, 32, 0]) (Nat.le_refl _) _ (row_lit _ [0, 32, 0] _ 3 (by decide) (by rfl) (by decide))).mono ?_; rintro e w' ⟨⟨n, a, er, rfl, hs⟩, hw'⟩; subst w'; obtain ⟨rfl, rfl, rfl⟩ := Oct.says_unique kg2 hs; clear hs; generalize hWv8 : World.alloc v7 _ = v8; have hbv8 : Bw v7 v8 := (by rw [← hWv8]; exact bw_alloc7 (Bw.refl _) _); clear hWv8))
  go_wp2_with (first
    | (clear tok16; refine wpList_lit7 (by rfl) 4 _ rfl [32, 54, 52, 0] rfl (by decide) (by decide) rfl ?_)
    | (go_at_call 7; clear tok17; refine (oexact_any _ 4 4 (Oct.lit [32, 54, 52, 0]) (Nat.le_refl _) _ (row_lit _ [32, 54, 52, 0] _ 4 (by decide) (by rfl) (by decide)) 52 0 0 ke1).mono ?_; rintro e v9 ⟨hx, hzv9⟩; obtain rfl := hx.no rfl nf1; clear hx; have hbv9 : Bw v8 v9 := Bw.trans (bw_alloc7 (Bw.refl _) _) hzv9; clear hzv9))
  go_wp2_with (first
    | (clear tok18; refine wpList_lit7 (by rfl) 2 _ rfl [128, 7] rfl (by decide) (by decide) rfl ?_)
    | (go_at_call 7; clear tok19; refine (oexact_any _ 2 2 (Oct.lit [128, 7]) (Nat.le_refl _) _ (row_lit _ [128, 7] _ 2 (by decide) (by rfl) (by decide)) 7 0 0 ke2).mono ?_; rintro e v10 ⟨hx, hzv10⟩; obtain rfl := hx.no rfl nf2; clear hx; have hbv10 : Bw v9 v10 := Bw.trans (bw_alloc7 (Bw.refl _) _) hzv10; clear hzv10))
  go_wp2_with (first
    | (go_at_call 5; refine (awake_any _).mono ?_; rintro e v11 ⟨rfl, hbv11⟩))
  go_wp2_with (first
    | (clear tok20; refine wpList_lit7 (by rfl) 4 _ rfl [54, 52, 56, 0] rfl (by decide) (by decide) rfl ?_)
    | (go_at_call 11; clear tok21; refine (fails_yes _ 4 4 (Oct.lit [54, 52, 56, 0]) 2 70 (Nat.le_refl _) _ (row_lit _ [54, 52, 56, 0] _ 4 (by decide) (by rfl) (by decide)) kf1).mono ?_; rintro e w' ⟨rfl, hw'⟩; subst w'; generalize hWv12 : World.alloc v11 _ = v12; have hbv12 : Bw v11 v12 := (by rw [← hWv12]; exact bw_alloc7 (Bw.refl _) _); clear hWv12))
  go_wp2_with (first
    | (clear tok22; refine wpList_lit7 (by rfl) 3 _ rfl [32, 0, 55] rfl (by decide) (by decide) rfl ?_)
    | (go_at_call 11; clear tok23; refine (fails_yes _ 3 3 (Oct.lit [32, 0, 55]) 2 70 (Nat.le_refl _) _ (row_lit _ [32, 0, 55] _ 3 (by decide) (by rfl) (by decide)) kf2).mono ?_; rintro e w' ⟨rfl, hw'⟩; subst w'; generalize hWv13 : World.alloc v12 _ = v13; have hbv13 : Bw v12 v13 := (by rw [← hWv13]; exact bw_alloc7 (Bw.refl _) _); clear hWv13))
  go_wp2_with (first
    | (clear tok24; refine wpList_lit7 (by rfl) 4 _ rfl [54, 0, 52, 0] rfl (by decide) (by decide) rfl ?_)
    | (go_at_call 11; clear tok25; refine (fails_yes _ 4 4 (Oct.lit [54, 0, 52, 0]) 2 70 (Nat.le_refl _) _ (row_lit _ [54, 0, 52, 0] _ 4 (by decide) (by rfl) (by decide)) kf3).mono ?_; rintro e w' ⟨rfl, hw'⟩; subst w'; generalize hWv14 : World.alloc v13 _ = v14; have hbv14 : Bw v13 v14 := (by rw [← hWv14]; exact bw_alloc7 (Bw.refl _) _); clear hWv14))
  go_wp2_with (first
    | (go_at_call 11; clear tok26; refine (fails_yes none 0 0 (fun _ => 0) 0 1 (Nat.le_refl _) _ (row_none _) kf4).mono ?_; rintro e w' ⟨rfl, hw'⟩; subst w'))
  go_wp2_with (first
    | (clear tok27; refine wpList_lit7 (by rfl) 12 _ rfl [128, 0, 0, 0, 128, 0, 0, 0, 0, 0, 0, 0] rfl (by decide) (by decide) rfl ?_)
    | (go_at_call 11; clear tok28; refine (fails_yes _ 12 12 (Oct.lit [128, 0, 0, 0, 128, 0, 0, 0, 0, 0, 0, 0]) 0 2 (Nat.le_refl _) _ (row_lit _ [128, 0, 0, 0, 128, 0, 0, 0, 0, 0, 0, 0] _ 12 (by decide) (by rfl) (by decide)) kf5).mono ?_; rintro e w' ⟨rfl, hw'⟩; subst w'; generalize hWv15 : World.alloc v14 _ = v15; have hbv15 : Bw v14 v15 := (by rw [← hWv15]; exact bw_alloc7 (Bw.refl _) _); clear hWv15))
  go_ret
  exact ⟨rfl, (hbv1.trans (hbv2.trans (hbv3.trans (hbv4.trans (hbv5.trans (hbv6.trans (hbv7.trans (hbv8.trans (hbv9.trans (hbv10.trans (hbv11.trans (hbv12.trans (hbv13.trans (hbv14.trans hbv15))))))))))))))⟩

set_option maxRecDepth 100000 in
theorem lifted (os : Os) (started : os.Started) (H : Type) (enc : TypeId × Value → H) :
    ReturnsInHanded {} Try.checked os 4 .any (Rows.octalKnownSpec.pre6 enc Try.prog Try.f4 Rows.octalKnownRow.domain false) (Rows.octalKnownSpec.post enc Try.prog Try.f4 false true false false) := by
  refine returnsInHanded_of_change_sized (C := Try.checked) own started (by kernel_rfl) Try.func4
    (ChangeSpec.witness6 (enc := enc) (C := Try.checked) false ⟨#[], #[], []⟩ 8 (by kernel_rfl) (by kernel_rfl) (by kernel_rfl) (by kernel_rfl)) ?_
  intro W base args ds gs before hval0 hW hcnd hsz0 _
  have hval : ∀ (j : Nat) t v, Try.f4.params[j]? = some t → args[j]? = some v → Value.okWide Try.prog W .any base t v := hval0
  have hW' := hW
  obtain ⟨p, q, hA0, hV, rfl, hfz, hnd⟩ := hW
  have hA : DataW.TrodAll enc Try.prog W 0 (fun _ => true) true Try.f4.params.toList args.toList ds p := hA0
  have hsz : (DataW.weightsEach Try.prog (Try.f4.params.toList ++ Rows.octalKnownSpec.plain.varTypes Try.prog) (ds ++ gs)).all (· ≤ reachBytes) = true := hsz0
  rw [Try.params4] at hA hval hsz
  obtain ⟨rfl, rfl, rfl⟩ := trodAll_none hA
  obtain ⟨rfl, rfl⟩ := trodVars_none hV
  clear hA0 hval0
  refine (walk  W ).mono fun e W' ⟨he, bel⟩ => ?_
  subst he
  exact ⟨_, rfl, _, _, _, [], _, [], hW', trodAll_mk1 (shut_bool Try.underlying4 _), trodAll_mk0, rfl, bel.frame _, fun h => by cases h⟩

theorem over : Rows.octalKnownRow.holds Try.pinned (OpenSpec.ofChange Rows.octalKnownSpec) :=
  OpenClaim.holds_of_wide 4 Try.f4 rfl rfl rfl rfl rfl rfl rfl ⟨rfl, rfl, rfl, rfl, rfl⟩ rfl rfl rfl rfl rfl (by kernel_rfl) Try.func4 (by kernel_rfl)
    (of_decide_eq_true (by kernel_rfl)) (by unfold Func.isWrapper; first | (rw [if_pos (by decide +kernel)]; kernel_rfl) | (rw [if_neg (by decide +kernel)]; exact ⟨rfl, rfl⟩))
    (fun os started H enc _ => lifted os started H enc)

theorem proved : Rows.OctalKnownSaid := over
#print axioms proved
end Go.Proofs.Ythmkjccidmjlnab.octalKnown
