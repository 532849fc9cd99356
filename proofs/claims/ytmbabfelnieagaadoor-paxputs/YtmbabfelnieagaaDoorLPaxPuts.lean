/- Proved: for every list of pairs the statement PaxPuts answers true (the document's P9.3 and P9.10: every Put, the place and the error). -/
import Derived.Test.YtmbabfelnieagaaDoorBQ
import Derived.Test.YtmbabfelnieagaaDoorFx
import Derived.Test.YtmbabfelnieagaaDoorCards
import Derived.Test.YtmbabfelnieagaaDoorTie
import Derived.ShutString
import Derived.ChangeOld
import Derived.SevenTiedAt
namespace Go.Proofs.YtmbabfelnieagaaDoor.paxPuts
open Go.ChangeShapes Go.WideShapes Go.ChangeAt Go.RowKit Go.Deep
set_option linter.unusedVariables false

set_option linter.unusedSimpArgs false
open Go.Deep
set_option maxRecDepth 100000 in
set_option maxHeartbeats 4000000 in
theorem walk (a0 : Option Addr) (len0 cap0 : Nat) (L0 : List Px.Pr) (w : World) (hk : KAt w) (w0 : InPrs w a0 len0 cap0 L0) :
    Calls Tryd.prog 4 #[.slice a0 len0 cap0] w fun e w' => e = .returned (.bool true) ∧ Below w.heap.size w w' := by
  obtain ⟨hlen, hprs, hle, hroom, hnil, heach⟩ := w0
  have HK : Hid (KAt w) := hk
  clear hk
  have HPR : Hid (PrsAt w a0 L0) := hprs
  have HNL : Hid (L0.length = len0) := hlen
  have HE : Hid (∀ p ∈ L0, p.1.length ≤ 140737488355328 ∧ p.2.length ≤ 140737488355328) := fun p hp => by obtain ⟨h1, h2⟩ := heach p hp; exact ⟨by omega, by omega⟩
  have HLent : Hid (∀ u, PrsAt u a0 L0 → Calls Tryd.prog 13 #[.slice a0 len0 cap0] u fun e w' => ∃ g c, e = .returned (.slice (some ⟨g, 0, none⟩) len0 c) ∧ len0 + 1 ≤ c ∧ PrsAt w' (some ⟨g, 0, none⟩) (L0 ++ [Px.mark]) ∧ Bw u w') := fun u h => by
    have := lent9_any a0 cap0 L0 (by rw [HNL.out]; omega) u h (by rw [HNL.out]; exact hnil)
    rw [HNL.out] at this
    exact this.mono fun e w' ⟨g, c, h1, h2, h3, h4, h5⟩ => ⟨g, c, h1, h2, lent_prs h4, h5⟩
  have HKept : Hid (∀ u g c, PrsAt u (some ⟨g, 0, none⟩) (L0 ++ [Px.mark]) → PrsAt u a0 L0 → len0 + 1 ≤ c → Calls Tryd.prog 16 #[.slice (some ⟨g, 0, none⟩) len0 c, .slice a0 len0 cap0] u fun e w' => e = .returned (.bool true) ∧ Bw u w') := fun u g c h1 h2 h3 => by
    have := kept9_any g c cap0 a0 L0 (by rw [HNL.out]; omega) (by rw [HNL.out]; exact h3) u h1 h2
    rw [HNL.out] at this
    exact this
  clear hprs hlen heach hnil
  obtain ⟨r, i, er, hR⟩ : ∃ r i er, Hid (Px.putF L0 = (r, i, er)) := ⟨_, _, _, show Px.putF L0 = _ from rfl⟩
  have heb : er ≤ 100 := by have := Px.put_er L0; rw [hR.out] at this; exact this
  have hib : i ≤ 64 := by have := (Px.put_place L0).2; rw [hR.out] at this; exact this
  have hrl : r.length ≤ 68096 := by
    by_cases h : (Px.putF L0).2.2 = 0
    · have h1 := Px.put_good h
      have h2 := (Px.put_ok L0).1 h
      have h3 := Px.all9_bd L0 h2.2.1
      rw [hR.out] at h1
      simp only [Prod.mk.injEq] at h1
      rw [h1.1]
      omega
    · have h1 := Px.put_bad h
      rw [hR.out] at h1
      dsimp only at h1
      rw [h1]; exact Nat.zero_le _
  obtain ⟨l, hl⟩ : ∃ l, Hid (r.length = l) := ⟨_, rfl⟩
  have HB : Hid (∀ (A B : Option Addr) (ca cb : Nat) (u : World), RowAt u A r.length (Px.rowF r) → RowAt u B r.length (Px.rowF r) → Calls Tryd.prog 12 #[.slice A l ca, .slice B l cb] u fun e w' => e = .returned (.bool true) ∧ ∃ q, w' = u.drewN q) := fun A B ca cb u h1 h2 => by
    have := bytes9_any A B ca cb r r (by omega) (by omega) u h1 h2
    rw [hl.out, decide_eq_true rfl] at this
    exact this
  have HP : Hid (∀ u g c, KAt u → len0 ≤ c → PrsAt u (some ⟨g, 0, none⟩) L0 → Calls Tryd.prog 14 #[.slice (some ⟨g, 0, none⟩) len0 c] u fun e w' => PutSays L0 e w' ∧ Bw u w') := fun u g c hku hc h => by
    have := pput_any (some ⟨g, 0, none⟩) c L0 (by rw [HNL.out]; omega) (by rw [HNL.out]; exact hc) HE.out u hku h
    rw [HNL.out] at this
    exact this
  have HRf : Hid (∀ u, PrsAt u a0 L0 → Calls Tryd.prog 15 #[.slice a0 len0 cap0] u fun e w' => PutSays L0 e w' ∧ Bw u w') := fun u h => by
    have := rput_says a0 cap0 L0 (by rw [HNL.out]; omega) HE.out u h
    rw [HNL.out] at this
    exact this
  go_enter Tryd.func4, Tryd.ntmps4
  go_wp2_with (first
    | (go_at_call 13; refine (HLent.out _ HPR.out).mono ?_; rintro e w1 ⟨g, c, rfl, hc, hin, hw1⟩)
    | (go_at_call 14; refine (HP.out _ g c (HK.out.keep hw1) (by omega) hin.front).mono ?_; rintro e w2 ⟨⟨v, rfl, hv⟩, hw2⟩; rw [hR.out] at hv ⊢; (try dsimp only at hv); obtain ⟨A, ca, rfl, hca, hra⟩ := hv; rw [hl.out])
    | (go_at_call 15; refine (HRf.out _ (HPR.out.keep (hw1.trans hw2))).mono ?_; rintro e w3 ⟨⟨v, rfl, hv⟩, hw3⟩; rw [hR.out] at hv ⊢; (try dsimp only at hv); obtain ⟨B, cb, rfl, hcb, hrb⟩ := hv; rw [hl.out])
    | (go_at_call 12; refine (HB.out A B ca cb _ (hra.keep hw3) hrb).mono ?_; rintro e w4 ⟨rfl, q4, hq4⟩; have hw4 := bw_of_drew hq4; clear hq4)
    | (go_at_call 16; refine (HKept.out _ g c (hin.keep (hw2.trans (hw3.trans hw4))) (HPR.out.keep (hw1.trans (hw2.trans (hw3.trans hw4)))) hc).mono ?_; rintro e w5 ⟨rfl, hw5⟩))
  go_ret
  exact ⟨rfl, hw1.trans (hw2.trans (hw3.trans (hw4.trans hw5)))⟩

set_option maxRecDepth 100000 in
theorem lifted (os : Os) (started : os.Started) (H : Type) (enc : TypeId × Value → H) :
    ReturnsInHanded {} Tryd.checked os 4 .any (fun w args => (Rows.paxPutsSpec.pre enc Tryd.prog Tryd.f4 [] false w args ∧ laidMetH Tryd.prog laidK w) ∧ sizedMet enc Tryd.prog Tryd.f4 (OpenSpec.ofChange Rows.paxPutsSpec) false w args)
      (Rows.paxPutsSpec.post enc Tryd.prog Tryd.f4 false true false false) := by
  refine returnsInHanded_of_change_and (C := Tryd.checked) (X := fun w _ => laidMetH Tryd.prog laidK w) (fun _ _ _ hh h => h.of_heap hh) own started (by kernel_rfl) Tryd.func4
    (ChangeSpec.witness_shaped (enc := enc) (C := Tryd.checked) (os := os) (X := fun w _ => laidMetH Tryd.prog laidK w) false (World.doorLaid Tryd.prog 400 os) #[.slice none 0 0] 8 rfl (World.shaped_of_RefB (by kernel_rfl) (by kernel_rfl)) (by kernel_rfl) (by kernel_rfl) (by kernel_rfl) (door_met os _)) ?_
  intro W base args ds gs before hval0 hW hcnd hsz0 hL _
  have hval : ∀ (j : Nat) t v, Tryd.f4.params[j]? = some t → args[j]? = some v → Value.okWide Tryd.prog W .any base t v := hval0
  have hW' := hW
  obtain ⟨p, q, hA0, hV, rfl, hfz, hnd⟩ := hW
  have hA : DataW.TrodAll enc Tryd.prog W 0 (fun _ => true) true Tryd.f4.params.toList args.toList ds p := hA0
  have hsz : (DataW.weightsEach Tryd.prog (Tryd.f4.params.toList ++ Rows.paxPutsSpec.plain.varTypes Tryd.prog) (ds ++ gs)).all (· ≤ reachBytes) = true := hsz0
  have hkat := kat_of_laid hL
  rw [Tryd.params4] at hA hval hsz
  obtain ⟨v0, vs0, d0, ds0, p0, q0, hargs, rfl, rfl, h0, r0⟩ := trodAll_cons hA
  obtain ⟨rfl, rfl, rfl⟩ := trodAll_nil r0
  obtain rfl : args = #[v0] := by cases args; simp_all
  obtain ⟨rfl, rfl⟩ := trodVars_none hV
  obtain ⟨a0, len0, cap0, rfl⟩ := okWide_slice Tryd.underlying33 (hval 0 33 v0 rfl rfl)
  have k0 := h0
  have lt0 : ∀ x ∈ p0, x.block < W.heap.size := by obtain ⟨m, hm⟩ := k0; exact DataW.trod_lt m _ _ _ hm
  obtain ⟨L0, w0⟩ := open_prs h0 (fun x hx => by simpa using List.all_eq_true.1 hsz x (DataW.weights_mem_each (j := 0) (t := 33) rfl rfl x hx))
  clear hA0 hval0
  refine (walk a0 len0 cap0 L0 W hkat w0).mono fun e W' ⟨he, bel⟩ => ?_
  subst he
  exact ⟨_, rfl, _, _, _, [], _, [], hW', trodAll_mk1 (shut_bool Tryd.underlying4 _), (trodAll_cons_mk (Below.trod laidOut (by kernel_rfl) (of_decide_eq_true (by kernel_rfl)) k0 bel lt0) trodAll_mk0), rfl, bel.frame _, fun h => by cases h⟩

theorem over : Rows.paxPutsRow.holds Tryd.pinned (OpenSpec.ofChange Rows.paxPutsSpec) :=
  OpenClaim.holds_of_wide 4 Tryd.f4 rfl rfl rfl rfl rfl rfl rfl ⟨rfl, rfl, rfl, rfl, rfl⟩ rfl rfl rfl rfl rfl (by kernel_rfl) Tryd.func4 (by kernel_rfl)
    (of_decide_eq_true (by kernel_rfl)) (by unfold Func.isWrapper; first | (rw [if_pos (by decide +kernel)]; kernel_rfl) | (rw [if_neg (by decide +kernel)]; exact ⟨rfl, rfl⟩))
    (fun os started H enc _ => lifted os started H enc)

theorem proved : Rows.PaxPutsCardSaid :=
  Claim7.holds_tied_plain_at .later [] [.data, .data, .data] true (true, "8d609f7f5d6121d0bdfa4a950c82c9eb40796584ba27f9101fab04311bde18cd") true
    over (fun _ h => by cases h) (by kernel_rfl) (fun _ h => by cases h) paxPuts_row_tie rfl ⟨rfl, rfl⟩ (by kernel_rfl) rfl
    (fun f fn hf hfn => by
      obtain rfl : f = 4 := Option.some.inj ((show Tryd.prog.funcNamed "tabulary/tabularylaw09.PaxPuts" = some 4 by kernel_rfl).symm.trans hf) |>.symm
      obtain rfl : fn = Tryd.f4 := (Option.some.inj (Tryd.func4.symm.trans hfn)).symm
      exact ⟨by kernel_rfl, fun j t ht => by
        rw [Tryd.params4] at ht
        have hm : t ∈ [33] := by simpa using Array.mem_of_getElem? ht
        have hall : ([33].all fun u => !Tryd.prog.wantsStandIn u) = true := by kernel_rfl
        exact (show Tryd.prog.wantsStandIn t = false by simpa using List.all_eq_true.1 hall t hm)⟩)
    (by kernel_rfl)
#print axioms proved
end Go.Proofs.YtmbabfelnieagaaDoor.paxPuts
