/- Proved: for every number, width and row of bytes the statement OctalBack answers true (the document's P7.5, the stage's theorem: of what Put answers, Get and Exact answer the number; where Exact answers a number, Put of it answers these bytes), with no condition but the reach. -/
import Derived.Test.YthmkjccidmjlnaaV6
import Derived.Test.YthmkjccidmjlnaaK0
import Derived.ShutString
import Derived.ChangeOld
namespace Go.Proofs.Ythmkjccidmjlnaa.octalBack
open Go.ChangeShapes Go.WideShapes Go.ChangeAt Go.RowKit
set_option linter.unusedVariables false

set_option linter.unusedSimpArgs false
/-- there is a form of what an exact field says -/
theorem has_of {L : Nat} {f : Nat → Int} (hf : ∀ i, 0 ≤ f i ∧ f i < 256) {n a : Int} (hs : Oct.Says L f n a 0) (h : IsForm L f n.toNat) : Oct.Has n (L : Int) ∧ n ≤ 9223372036854775807 ∧ L ≤ 12 := by
  obtain ⟨h1, h2, h3, h4⟩ := says_ok hf hs rfl
  exact ⟨⟨by omega, by omega, h3, by rw [Int.toNat_natCast]; exact h.1⟩, h4, h2⟩
theorem form_is {n W : Nat} (h : n < 8 ^ (W - 1) ∨ n < 256 ^ (W - 1)) : IsForm W (Oct.formF n W) n := ⟨h, fun i _ => rfl⟩
set_option maxRecDepth 100000 in
set_option maxHeartbeats 2000000 in
theorem back_yg (n : Int) (W : Nat) (A : Option Addr) (L ca : Nat) (f : Nat → Int) (hn : n ≤ 9223372036854775807) (h : Oct.Has n (W : Int)) (w : World) (hi : InRow w A L ca f) (k a er : Int) (hs : Oct.Says L f k a er) (h0 : er = 0) (hF : IsForm L f k.toNat) :
    Calls Try.prog 6 #[.int .i64 n, .int .i64 (W : Int), .slice A L ca] w fun e w' => e = .returned (.bool true) ∧ Bw w w' := by
  have tokP1 : Hid (n = n) := rfl
  have tokE1 : Hid (n = n) := rfl
  have HS : Hid (Oct.Says L f k a er) := hs
  subst h0
  have HF : Hid (IsForm L f k.toNat) := hF
  obtain ⟨hh, hk63, hL12⟩ := has_of hi.row.2 hs hF
  have HH : Hid (Oct.Has k (L : Int)) := hh
  clear hh hs hF
  have H : Hid (Oct.Has n (W : Int)) := h
  have n0 : 0 ≤ n := h.2.2.1
  have hSF : Hid (Oct.Says W (Oct.formF n.toNat W) n 0 0) := by
    have := Oct.form_says (n := n.toNat) (W := W) (by have := h.1; omega) (by have := h.2.1; omega) (by have := h.2.2.2; rwa [Int.toNat_natCast] at this) (by omega)
    rwa [Int.toNat_of_nonneg n0] at this
  have hIF : Hid (IsForm W (Oct.formF n.toNat W) n.toNat) := form_is (by have := h.2.2.2; rwa [Int.toNat_natCast] at this)
  clear h
  go_enter Try.func6, Try.ntmps6
  go_wp2_with (first
    | (go_at_call 20; refine (awake_any _).mono ?_; rintro e w1 ⟨rfl, hw1⟩)
    | (go_at_call 9; clear tokP1; refine (oput_yes n W hn H.out _).mono ?_; rintro e w2 ⟨g, rfl, ho, hg, hw2⟩; have hr1 := ho.row (Oct.formF_bd _ _); clear ho hg)
    | (go_at_call 15; refine (oget_still _ W W (Oct.formF n.toNat W) (Nat.le_refl _) _ hr1).mono ?_; rintro e w' ⟨⟨n1, a1, er1, rfl, hs1⟩, hw'⟩; subst w'; obtain ⟨rfl, rfl, rfl⟩ := Oct.says_unique hSF.out hs1; clear hs1)
    | (go_at_call 18; clear tokE1; refine (oexact_any _ W W (Oct.formF n.toNat W) (Nat.le_refl _) _ hr1 n 0 0 hSF.out).mono ?_; rintro e w3 ⟨hx, hw3⟩; obtain rfl := hx.yes rfl hIF.out; clear hx)
    | (go_at_call 18; refine (oexact_any A L ca f hi.le _ (((hi.row.keep hw1).keep hw2).keep hw3) k a 0 HS.out).mono ?_; rintro e w4 ⟨hx, hw4⟩; obtain rfl := hx.yes rfl HF.out; clear hx)
    | (go_at_call 9; refine (oput_yes k L hk63 HH.out _).mono ?_; rintro e w5 ⟨g5, rfl, ho5, hg5, hw5⟩; have hr5 := ho5.row (Oct.formF_bd _ _); clear ho5 hg5)
    | (go_at_call 11; refine (same7_any _ _ L L _ _ (Oct.formF k.toNat L) f (by omega) (by omega) _ hr5 ((((((hi.row.keep hw1).keep hw2).keep hw3).keep hw4).keep hw5))).mono ?_; rintro e w6 ⟨⟨x, rfl, hx⟩, q, hq⟩; obtain rfl : x = true := hx.2 ⟨rfl, HF.out.2⟩; have hw6 : Bw w5 w6 := (by rw [hq]; exact Bw.drewN _ q); clear hq hx))
  go_ret
  exact ⟨rfl, hw1.trans (hw2.trans (hw3.trans (hw4.trans (hw5.trans hw6))))⟩
set_option maxRecDepth 100000 in
set_option maxHeartbeats 2000000 in
theorem back_yb (n : Int) (W : Nat) (A : Option Addr) (L ca : Nat) (f : Nat → Int) (hn : n ≤ 9223372036854775807) (h : Oct.Has n (W : Int)) (w : World) (hi : InRow w A L ca f) (k a er : Int) (hs : Oct.Says L f k a er) (d : Int) (hd : d ≠ 0) (hE : ∀ e, ExactSays L f k er e → e = .returned (.tuple #[.int .i64 0, .int .i64 d])) :
    Calls Try.prog 6 #[.int .i64 n, .int .i64 (W : Int), .slice A L ca] w fun e w' => e = .returned (.bool true) ∧ Bw w w' := by
  have tokP1 : Hid (n = n) := rfl
  have tokE1 : Hid (n = n) := rfl
  have HS : Hid (Oct.Says L f k a er) := hs
  have hd1 : (d != 0) = true := by rw [bne_iff_ne]; exact hd
  have HE : Hid (∀ e, ExactSays L f k er e → e = .returned (.tuple #[.int .i64 0, .int .i64 d])) := hE
  clear hs hE
  have H : Hid (Oct.Has n (W : Int)) := h
  have n0 : 0 ≤ n := h.2.2.1
  have hSF : Hid (Oct.Says W (Oct.formF n.toNat W) n 0 0) := by
    have := Oct.form_says (n := n.toNat) (W := W) (by have := h.1; omega) (by have := h.2.1; omega) (by have := h.2.2.2; rwa [Int.toNat_natCast] at this) (by omega)
    rwa [Int.toNat_of_nonneg n0] at this
  have hIF : Hid (IsForm W (Oct.formF n.toNat W) n.toNat) := form_is (by have := h.2.2.2; rwa [Int.toNat_natCast] at this)
  clear h
  go_enter Try.func6, Try.ntmps6
  go_wp2_with (first
    | (go_at_call 20; refine (awake_any _).mono ?_; rintro e w1 ⟨rfl, hw1⟩)
    | (go_at_call 9; clear tokP1; refine (oput_yes n W hn H.out _).mono ?_; rintro e w2 ⟨g, rfl, ho, hg, hw2⟩; have hr1 := ho.row (Oct.formF_bd _ _); clear ho hg)
    | (go_at_call 15; refine (oget_still _ W W (Oct.formF n.toNat W) (Nat.le_refl _) _ hr1).mono ?_; rintro e w' ⟨⟨n1, a1, er1, rfl, hs1⟩, hw'⟩; subst w'; obtain ⟨rfl, rfl, rfl⟩ := Oct.says_unique hSF.out hs1; clear hs1)
    | (go_at_call 18; clear tokE1; refine (oexact_any _ W W (Oct.formF n.toNat W) (Nat.le_refl _) _ hr1 n 0 0 hSF.out).mono ?_; rintro e w3 ⟨hx, hw3⟩; obtain rfl := hx.yes rfl hIF.out; clear hx)
    | (go_at_call 18; refine (oexact_any A L ca f hi.le _ (((hi.row.keep hw1).keep hw2).keep hw3) k a er HS.out).mono ?_; rintro e w4 ⟨hx, hw4⟩; obtain rfl := HE.out _ hx; clear hx))
  go_ret
  exact ⟨rfl, hw1.trans (hw2.trans (hw3.trans hw4))⟩
set_option maxRecDepth 100000 in
set_option maxHeartbeats 2000000 in
theorem back_ng (n : Int) (z : Int) (A : Option Addr) (L ca : Nat) (f : Nat → Int) (hn : n ≤ 9223372036854775807) (h : ¬ Oct.Has n z) (w : World) (hi : InRow w A L ca f) (k a er : Int) (hs : Oct.Says L f k a er) (h0 : er = 0) (hF : IsForm L f k.toNat) :
    Calls Try.prog 6 #[.int .i64 n, .int .i64 z, .slice A L ca] w fun e w' => e = .returned (.bool true) ∧ Bw w w' := by
  have tokP1 : Hid (n = n) := rfl
  have tokE1 : Hid (n = n) := rfl
  have HS : Hid (Oct.Says L f k a er) := hs
  subst h0
  have HF : Hid (IsForm L f k.toNat) := hF
  obtain ⟨hh, hk63, hL12⟩ := has_of hi.row.2 hs hF
  have HH : Hid (Oct.Has k (L : Int)) := hh
  clear hh hs hF
  have H : Hid (¬ Oct.Has n z) := h
  obtain ⟨c, hc⟩ : ∃ c, Hid (c = Oct.errP n z) := ⟨_, rfl⟩
  have hne : (c == 0) = false := by rw [hc.out]; exact (Oct.errP_ne n z).2
  clear h
  go_enter Try.func6, Try.ntmps6
  go_wp2_with (first
    | (go_at_call 20; refine (awake_any _).mono ?_; rintro e w1 ⟨rfl, hw1⟩)
    | (go_at_call 9; clear tokP1; refine (oput_no n z hn H.out _).mono ?_; rintro e w2 ⟨rfl, hw2⟩; rw [← hc.out])
    | (go_at_call 18; refine (oexact_any A L ca f hi.le _ ((hi.row.keep hw1).keep hw2) k a 0 HS.out).mono ?_; rintro e w4 ⟨hx, hw4⟩; obtain rfl := hx.yes rfl HF.out; clear hx)
    | (go_at_call 9; refine (oput_yes k L hk63 HH.out _).mono ?_; rintro e w5 ⟨g5, rfl, ho5, hg5, hw5⟩; have hr5 := ho5.row (Oct.formF_bd _ _); clear ho5 hg5)
    | (go_at_call 11; refine (same7_any _ _ L L _ _ (Oct.formF k.toNat L) f (by omega) (by omega) _ hr5 (((((hi.row.keep hw1).keep hw2).keep hw4).keep hw5))).mono ?_; rintro e w6 ⟨⟨x, rfl, hx⟩, q, hq⟩; obtain rfl : x = true := hx.2 ⟨rfl, HF.out.2⟩; have hw6 : Bw w5 w6 := (by rw [hq]; exact Bw.drewN _ q); clear hq hx))
  go_ret
  exact ⟨rfl, hw1.trans (hw2.trans (hw4.trans (hw5.trans hw6)))⟩
set_option maxRecDepth 100000 in
set_option maxHeartbeats 2000000 in
theorem back_nb (n : Int) (z : Int) (A : Option Addr) (L ca : Nat) (f : Nat → Int) (hn : n ≤ 9223372036854775807) (h : ¬ Oct.Has n z) (w : World) (hi : InRow w A L ca f) (k a er : Int) (hs : Oct.Says L f k a er) (d : Int) (hd : d ≠ 0) (hE : ∀ e, ExactSays L f k er e → e = .returned (.tuple #[.int .i64 0, .int .i64 d])) :
    Calls Try.prog 6 #[.int .i64 n, .int .i64 z, .slice A L ca] w fun e w' => e = .returned (.bool true) ∧ Bw w w' := by
  have tokP1 : Hid (n = n) := rfl
  have tokE1 : Hid (n = n) := rfl
  have HS : Hid (Oct.Says L f k a er) := hs
  have hd1 : (d != 0) = true := by rw [bne_iff_ne]; exact hd
  have HE : Hid (∀ e, ExactSays L f k er e → e = .returned (.tuple #[.int .i64 0, .int .i64 d])) := hE
  clear hs hE
  have H : Hid (¬ Oct.Has n z) := h
  obtain ⟨c, hc⟩ : ∃ c, Hid (c = Oct.errP n z) := ⟨_, rfl⟩
  have hne : (c == 0) = false := by rw [hc.out]; exact (Oct.errP_ne n z).2
  clear h
  go_enter Try.func6, Try.ntmps6
  go_wp2_with (first
    | (go_at_call 20; refine (awake_any _).mono ?_; rintro e w1 ⟨rfl, hw1⟩)
    | (go_at_call 9; clear tokP1; refine (oput_no n z hn H.out _).mono ?_; rintro e w2 ⟨rfl, hw2⟩; rw [← hc.out])
    | (go_at_call 18; refine (oexact_any A L ca f hi.le _ ((hi.row.keep hw1).keep hw2) k a er HS.out).mono ?_; rintro e w4 ⟨hx, hw4⟩; obtain rfl := HE.out _ hx; clear hx))
  go_ret
  exact ⟨rfl, hw1.trans (hw2.trans hw4)⟩
theorem walk (a0 : Int) (a1 : Int) (a2 : Option Addr) (len2 cap2 : Nat) (f2 : Nat → Int) (w : World) (w0 : (Lit.int .i64 a0).wf = true) (w1 : (Lit.int .i64 a1).wf = true) (w2 : InRow w a2 len2 cap2 f2) :
    Calls Try.prog 6 #[.int .i64 a0, .int .i64 a1, .slice a2 len2 cap2] w fun e w' => e = .returned (.bool true) ∧ Below w.heap.size w w' := by
  have b0 := bounds_i64 w0
  obtain ⟨k, a, er, hs⟩ := says_ex len2 f2
  by_cases hg : er = 0 ∧ IsForm len2 f2 k.toNat
  · by_cases h : Oct.Has a0 a1
    · obtain ⟨W, rfl⟩ := Int.eq_ofNat_of_zero_le (show 0 ≤ a1 by have := h.1; omega)
      exact back_yg a0 W a2 len2 cap2 f2 (by omega) h w w2 k a er hs hg.1 hg.2
    · exact back_ng a0 a1 a2 len2 cap2 f2 (by omega) h w w2 k a er hs hg.1 hg.2
  · obtain ⟨d, hd, hE⟩ : ∃ d : Int, d ≠ 0 ∧ ∀ e, ExactSays len2 f2 k er e → e = .returned (.tuple #[.int .i64 0, .int .i64 d]) := by
      by_cases h0 : er = 0
      · exact ⟨71, by decide, fun e h => h.no h0 (fun hf => hg ⟨h0, hf⟩)⟩
      · exact ⟨er, h0, fun e h => h.bad h0⟩
    by_cases h : Oct.Has a0 a1
    · obtain ⟨W, rfl⟩ := Int.eq_ofNat_of_zero_le (show 0 ≤ a1 by have := h.1; omega)
      exact back_yb a0 W a2 len2 cap2 f2 (by omega) h w w2 k a er hs d hd hE
    · exact back_nb a0 a1 a2 len2 cap2 f2 (by omega) h w w2 k a er hs d hd hE

set_option maxRecDepth 100000 in
theorem lifted (os : Os) (started : os.Started) (H : Type) (enc : TypeId × Value → H) :
    ReturnsInHanded {} Try.checked os 6 .any (Rows.octalBackSpec.pre6 enc Try.prog Try.f6 Rows.octalBackRow.domain false) (Rows.octalBackSpec.post enc Try.prog Try.f6 false true false false) := by
  refine returnsInHanded_of_change_sized (C := Try.checked) own started (by kernel_rfl) Try.func6
    (ChangeSpec.witness6 (enc := enc) (C := Try.checked) false ⟨#[], #[.int .i64 0, .int .i64 0, .slice none 0 0], []⟩ 8 (by kernel_rfl) (by kernel_rfl) (by kernel_rfl) (by kernel_rfl)) ?_
  intro W base args ds gs before hval0 hW hcnd hsz0 _
  have hval : ∀ (j : Nat) t v, Try.f6.params[j]? = some t → args[j]? = some v → Value.okWide Try.prog W .any base t v := hval0
  have hW' := hW
  obtain ⟨p, q, hA0, hV, rfl, hfz, hnd⟩ := hW
  have hA : DataW.TrodAll enc Try.prog W 0 (fun _ => true) true Try.f6.params.toList args.toList ds p := hA0
  have hsz : (DataW.weightsEach Try.prog (Try.f6.params.toList ++ Rows.octalBackSpec.plain.varTypes Try.prog) (ds ++ gs)).all (· ≤ reachBytes) = true := hsz0
  rw [Try.params6] at hA hval hsz
  obtain ⟨v0, vs0, d0, ds0, p0, q0, hargs, rfl, rfl, h0, r0⟩ := trodAll_cons hA
  obtain ⟨v1, vs1, d1, ds1, p1, q1, rfl, rfl, rfl, h1, r1⟩ := trodAll_cons r0
  obtain ⟨v2, vs2, d2, ds2, p2, q2, rfl, rfl, rfl, h2, r2⟩ := trodAll_cons r1
  obtain ⟨rfl, rfl, rfl⟩ := trodAll_nil r2
  obtain rfl : args = #[v0, v1, v2] := by cases args; simp_all
  obtain ⟨rfl, rfl⟩ := trodVars_none hV
  obtain ⟨a0, rfl, rfl, rfl, w0⟩ := open_int Try.underlying3 (hval 0 3 v0 rfl rfl) h0
  obtain ⟨a1, rfl, rfl, rfl, w1⟩ := open_int Try.underlying3 (hval 1 3 v1 rfl rfl) h1
  obtain ⟨a2, len2, cap2, rfl⟩ := okWide_slice Try.underlying22 (hval 2 22 v2 rfl rfl)
  have k2 := h2
  have lt2 : ∀ x ∈ p2, x.block < W.heap.size := by obtain ⟨m, hm⟩ := k2; exact DataW.trod_lt m _ _ _ hm
  obtain ⟨f2, w2⟩ := open_bytes h2 (fun x hx => by simpa using List.all_eq_true.1 hsz x (DataW.weights_mem_each (j := 2) (t := 22) rfl rfl x hx))
  clear hA0 hval0
  refine (walk a0 a1 a2 len2 cap2 f2 W w0 w1 w2).mono fun e W' ⟨he, bel⟩ => ?_
  subst he
  exact ⟨_, rfl, _, _, _, [], _, [], hW', trodAll_mk1 (shut_bool Try.underlying4 _), (trodAll_cons_mk (shut_int Try.underlying3 w0) (trodAll_cons_mk (shut_int Try.underlying3 w1) (trodAll_cons_mk (Below.trod laidOut (by kernel_rfl) (of_decide_eq_true (by kernel_rfl)) k2 bel lt2) trodAll_mk0))), rfl, bel.frame _, fun h => by cases h⟩

theorem over : Rows.octalBackRow.holds Try.pinned (OpenSpec.ofChange Rows.octalBackSpec) :=
  OpenClaim.holds_of_wide 6 Try.f6 rfl rfl rfl rfl rfl rfl rfl ⟨rfl, rfl, rfl, rfl, rfl⟩ rfl rfl rfl rfl rfl (by kernel_rfl) Try.func6 (by kernel_rfl)
    (of_decide_eq_true (by kernel_rfl)) (by unfold Func.isWrapper; first | (rw [if_pos (by decide +kernel)]; kernel_rfl) | (rw [if_neg (by decide +kernel)]; exact ⟨rfl, rfl⟩))
    (fun os started H enc _ => lifted os started H enc)

theorem proved : Rows.OctalBackSaid := over
#print axioms proved
end Go.Proofs.Ythmkjccidmjlnaa.octalBack
