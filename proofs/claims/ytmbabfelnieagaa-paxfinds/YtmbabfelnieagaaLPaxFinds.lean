/- Proved: for every list of pairs and every text the statement PaxFinds answers true (the document's P9.5: every Find). -/
import Derived.Test.YtmbabfelnieagaaAP
import Derived.Test.YtmbabfelnieagaaFx
import Derived.ShutString
import Derived.ChangeOld
namespace Go.Proofs.Ytmbabfelnieagaa.paxFinds
open Go.ChangeShapes Go.WideShapes Go.ChangeAt Go.RowKit
set_option linter.unusedVariables false

set_option linter.unusedSimpArgs false
open Go.Deep
theorem walk (a0 : Option Addr) (len0 cap0 : Nat) (L0 : List Px.Pr) (s1 : ByteArray) (w : World) (w0 : InPrs w a0 len0 cap0 L0) (w1 : s1.size ≤ 140737488351232) :
    Calls Try.prog 3 #[.slice a0 len0 cap0, .string s1] w fun e w' => e = .returned (.bool true) ∧ Below w.heap.size w w' := by
  obtain ⟨hlen, hprs, hle, hroom, hnil, heach⟩ := w0
  have HPR : Hid (PrsAt w a0 L0) := hprs
  have HNL : Hid (L0.length = len0) := hlen
  have HE : Hid (∀ p ∈ L0, p.1.length ≤ 140737488355328 ∧ p.2.length ≤ 140737488355328) := fun p hp => by obtain ⟨h1, h2⟩ := heach p hp; exact ⟨by omega, by omega⟩
  have HLent : Hid (∀ u, PrsAt u a0 L0 → Calls Try.prog 4 #[.slice a0 len0 cap0] u fun e w' => ∃ g c, e = .returned (.slice (some ⟨g, 0, none⟩) len0 c) ∧ len0 + 1 ≤ c ∧ PrsAt w' (some ⟨g, 0, none⟩) (L0 ++ [Px.mark]) ∧ Bw u w') := fun u h => by
    have := lent9_any a0 cap0 L0 (by rw [HNL.out]; omega) u h (by rw [HNL.out]; exact hnil)
    rw [HNL.out] at this
    exact this.mono fun e w' ⟨g, c, h1, h2, h3, h4, h5⟩ => ⟨g, c, h1, h2, lent_prs h4, h5⟩
  have HKept : Hid (∀ u g c, PrsAt u (some ⟨g, 0, none⟩) (L0 ++ [Px.mark]) → PrsAt u a0 L0 → len0 + 1 ≤ c → Calls Try.prog 7 #[.slice (some ⟨g, 0, none⟩) len0 c, .slice a0 len0 cap0] u fun e w' => e = .returned (.bool true) ∧ Bw u w') := fun u g c h1 h2 h3 => by
    have := kept9_any g c cap0 a0 L0 (by rw [HNL.out]; omega) (by rw [HNL.out]; exact h3) u h1 h2
    rw [HNL.out] at this
    exact this
  clear hprs hlen heach hnil
  obtain ⟨r, er, hR⟩ : ∃ r er, Hid (Px.findE L0 s1.toList = (r, er)) := ⟨_, _, show Px.findE L0 s1.toList = _ from rfl⟩
  have heb : er ≤ 100 := by
    have : (Px.findE L0 s1.toList).2 ≤ 100 := by
      unfold Px.findE
      split
      · exact Nat.zero_le _
      · exact (by decide : (4 : Nat) ≤ 100)
    rw [hR.out] at this; exact this
  have HP : Hid (∀ u g c, PrsAt u (some ⟨g, 0, none⟩) L0 → Calls Try.prog 5 #[.slice (some ⟨g, 0, none⟩) len0 c, .string s1] u fun e w' => e = .returned (.tuple #[.string (Nm.S r), .int .i64 (er : Int)]) ∧ Bw u w') := fun u g c h => by
    have := pfind_any (some ⟨g, 0, none⟩) c L0 s1.toList (by rw [HNL.out]; omega) u h
    rw [HNL.out, Nm.S_toList, hR.out] at this
    exact this
  have HRf : Hid (∀ u, PrsAt u a0 L0 → Calls Try.prog 6 #[.slice a0 len0 cap0, .string s1] u fun e w' => e = .returned (.tuple #[.string (Nm.S r), .int .i64 (er : Int)]) ∧ w' = u) := fun u h => by
    have := rfind_any a0 cap0 L0 s1.toList (by rw [HNL.out]; omega) u h
    rw [HNL.out, Nm.S_toList, hR.out] at this
    exact this
  have HOne : Hid (∀ u b c, PrsAt u (some ⟨b, 0, none⟩) [(([97], []) : Px.Pr)] → Calls Try.prog 5 #[.slice (some ⟨b, 0, none⟩) 1 c, .string ⟨#[97]⟩] u fun e w' => e = .returned (.tuple #[.string ⟨#[]⟩, .int .i64 0]) ∧ Bw u w') := fun u b c h => pfind_any (some ⟨b, 0, none⟩) c [(([97], []) : Px.Pr)] [97] (by decide) u h
  have tok : Hid (w = w) := rfl
  go_enter Try.func3, Try.ntmps3
  go_wp2_with (first
    | (go_at_call 4; refine (HLent.out _ HPR.out).mono ?_; rintro e w1 ⟨g, c, rfl, hc, hin, hw1⟩)
    | (go_at_call 5; clear tok; refine (HP.out _ g c hin.front).mono ?_; rintro e w2 ⟨rfl, hw2⟩)
    | (go_at_call 6; refine (HRf.out _ (HPR.out.keep (hw1.trans hw2))).mono ?_; rintro e w3 ⟨rfl, hw3⟩; subst w3))
  go_wp2_with (first
    | (go_at_call 5; refine (HOne.out _ _ 1 (prs_new w2 _ _ rfl)).mono ?_; rintro e w4 ⟨rfl, hw4⟩; have hb4 : Bw w2 w4 := Bw.trans (Below.alloc (Bw.refl _) (Nat.le_refl _) _) hw4)
    | (go_at_call 7; refine (HKept.out _ g c (hin.keep (hw2.trans hb4)) (HPR.out.keep (hw1.trans (hw2.trans hb4))) hc).mono ?_; rintro e w5 ⟨rfl, hw5⟩))
  go_ret
  exact ⟨rfl, hw1.trans (hw2.trans (hb4.trans hw5))⟩

set_option maxRecDepth 100000 in
theorem lifted (os : Os) (started : os.Started) (H : Type) (enc : TypeId × Value → H) :
    ReturnsInHanded {} Try.checked os 3 .any (Rows.paxFindsSpec.pre6 enc Try.prog Try.f3 Rows.paxFindsRow.domain false) (Rows.paxFindsSpec.post enc Try.prog Try.f3 false true false false) := by
  refine returnsInHanded_of_change_sized (C := Try.checked) own started (by kernel_rfl) Try.func3
    (ChangeSpec.witness6 (enc := enc) (C := Try.checked) false ⟨#[], #[.slice none 0 0, .string .empty], []⟩ 8 (by kernel_rfl) (by kernel_rfl) (by kernel_rfl) (by kernel_rfl)) ?_
  intro W base args ds gs before hval0 hW hcnd hsz0 _
  have hval : ∀ (j : Nat) t v, Try.f3.params[j]? = some t → args[j]? = some v → Value.okWide Try.prog W .any base t v := hval0
  have hW' := hW
  obtain ⟨p, q, hA0, hV, rfl, hfz, hnd⟩ := hW
  have hA : DataW.TrodAll enc Try.prog W 0 (fun _ => true) true Try.f3.params.toList args.toList ds p := hA0
  have hsz : (DataW.weightsEach Try.prog (Try.f3.params.toList ++ Rows.paxFindsSpec.plain.varTypes Try.prog) (ds ++ gs)).all (· ≤ reachBytes) = true := hsz0
  rw [Try.params3] at hA hval hsz
  obtain ⟨v0, vs0, d0, ds0, p0, q0, hargs, rfl, rfl, h0, r0⟩ := trodAll_cons hA
  obtain ⟨v1, vs1, d1, ds1, p1, q1, rfl, rfl, rfl, h1, r1⟩ := trodAll_cons r0
  obtain ⟨rfl, rfl, rfl⟩ := trodAll_nil r1
  obtain rfl : args = #[v0, v1] := by cases args; simp_all
  obtain ⟨rfl, rfl⟩ := trodVars_none hV
  obtain ⟨a0, len0, cap0, rfl⟩ := okWide_slice Try.underlying22 (hval 0 22 v0 rfl rfl)
  have k0 := h0
  have lt0 : ∀ x ∈ p0, x.block < W.heap.size := by obtain ⟨m, hm⟩ := k0; exact DataW.trod_lt m _ _ _ hm
  obtain ⟨L0, w0⟩ := open_prs h0 (fun x hx => by simpa using List.all_eq_true.1 hsz x (DataW.weights_mem_each (j := 0) (t := 22) rfl rfl x hx))
  have k1 := h1
  have lt1 : ∀ x ∈ p1, x.block < W.heap.size := by obtain ⟨m, hm⟩ := k1; exact DataW.trod_lt m _ _ _ hm
  obtain ⟨s1, rfl, rfl, w1⟩ := open_str (hval 1 9 v1 rfl rfl) h1 (fun x hx => by simpa using List.all_eq_true.1 hsz x (DataW.weights_mem_each (j := 1) (t := 9) rfl rfl x hx))
  clear hA0 hval0
  refine (walk a0 len0 cap0 L0 s1 W w0 w1).mono fun e W' ⟨he, bel⟩ => ?_
  subst he
  exact ⟨_, rfl, _, _, _, [], _, [], hW', trodAll_mk1 (shut_bool Try.underlying4 _), (trodAll_cons_mk (Below.trod laidOut (by kernel_rfl) (of_decide_eq_true (by kernel_rfl)) k0 bel lt0) (trodAll_cons_mk (Below.trod laidOut (by kernel_rfl) (of_decide_eq_true (by kernel_rfl)) k1 bel lt1) trodAll_mk0)), rfl, bel.frame _, fun h => by cases h⟩

theorem over : Rows.paxFindsRow.holds Try.pinned (OpenSpec.ofChange Rows.paxFindsSpec) :=
  OpenClaim.holds_of_wide 3 Try.f3 rfl rfl rfl rfl rfl rfl rfl ⟨rfl, rfl, rfl, rfl, rfl⟩ rfl rfl rfl rfl rfl (by kernel_rfl) Try.func3 (by kernel_rfl)
    (of_decide_eq_true (by kernel_rfl)) (by unfold Func.isWrapper; first | (rw [if_pos (by decide +kernel)]; kernel_rfl) | (rw [if_neg (by decide +kernel)]; exact ⟨rfl, rfl⟩))
    (fun os started H enc _ => lifted os started H enc)

theorem proved : Rows.PaxFindsSaid := over
#print axioms proved
end Go.Proofs.Ytmbabfelnieagaa.paxFinds
