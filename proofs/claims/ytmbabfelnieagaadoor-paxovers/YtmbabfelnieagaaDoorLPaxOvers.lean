/- Proved: for any two lists of pairs the statement PaxOvers answers true (the document's P9.6 and P9.10: every Over). -/
import Derived.Test.YtmbabfelnieagaaDoorDB
import Derived.Test.YtmbabfelnieagaaDoorFx
import Derived.Test.YtmbabfelnieagaaDoorCards
import Derived.Test.YtmbabfelnieagaaDoorTie
import Derived.ShutString
import Derived.ChangeOld
import Derived.SevenTiedAt
namespace Go.Proofs.YtmbabfelnieagaaDoor.paxOvers
open Go.ChangeShapes Go.WideShapes Go.ChangeAt Go.RowKit Go.Deep
set_option linter.unusedVariables false

set_option linter.unusedSimpArgs false
open Go.Deep
theorem size_none : Px.psize ((⟨#[]⟩ : ByteArray).toList, (⟨#[]⟩ : ByteArray).toList) = 4 := by
  rw [show (⟨#[]⟩ : ByteArray).toList = [] from Nm.toList_S []]
  show Px.size 3 = 4
  unfold Px.size
  rw [Px.dl_one (show 3 < 10 by decide), Px.dl_one (show 3 + 1 < 10 by decide)]
  rfl
set_option maxRecDepth 100000 in
set_option maxHeartbeats 4000000 in
theorem walk (a0 : Option Addr) (len0 cap0 : Nat) (L0 : List Px.Pr) (a1 : Option Addr) (len1 cap1 : Nat) (L1 : List Px.Pr) (w : World) (hk : KAt w) (w0 : InPrs w a0 len0 cap0 L0) (w1 : InPrs w a1 len1 cap1 L1) :
    Calls Tryd.prog 6 #[.slice a0 len0 cap0, .slice a1 len1 cap1] w fun e w' => e = .returned (.bool true) ∧ Below w.heap.size w w' := by
  have HK : Hid (KAt w) := hk
  clear hk
  obtain ⟨hlen, hprs, hle0, hroom0, hnil, heach⟩ := w0
  have HPR : Hid (PrsAt w a0 L0) := hprs
  have HNL : Hid (L0.length = len0) := hlen
  have HE : Hid (∀ p ∈ L0, p.1.length ≤ 140737488355328 ∧ p.2.length ≤ 140737488355328) := fun p hp => by obtain ⟨h1, h2⟩ := heach p hp; exact ⟨by omega, by omega⟩
  have HLent : Hid (∀ u, PrsAt u a0 L0 → Calls Tryd.prog 13 #[.slice a0 len0 cap0] u fun e w' => ∃ g c, e = .returned (.slice (some ⟨g, 0, none⟩) len0 c) ∧ len0 + 1 ≤ c ∧ PrsAt w' (some ⟨g, 0, none⟩) (L0 ++ [Px.mark]) ∧ Bw u w') := fun u h => by
    have := lent9_any a0 cap0 L0 (by rw [HNL.out]; omega) u h (by rw [HNL.out]; exact hnil)
    rw [HNL.out] at this
    exact this.mono fun e w' ⟨g, c, h1, h2, h3, h4, h5⟩ => ⟨g, c, h1, h2, lent_prs h4, h5⟩
  have HKept : Hid (∀ u g c, PrsAt u (some ⟨g, 0, none⟩) (L0 ++ [Px.mark]) → PrsAt u a0 L0 → len0 + 1 ≤ c → Calls Tryd.prog 16 #[.slice (some ⟨g, 0, none⟩) len0 c, .slice a0 len0 cap0] u fun e w' => e = .returned (.bool true) ∧ Bw u w') := fun u g c h1 h2 h3 => by
    have := kept9_any g c cap0 a0 L0 (by rw [HNL.out]; omega) (by rw [HNL.out]; exact h3) u h1 h2
    rw [HNL.out] at this
    exact this
  clear hprs hlen heach hnil
  obtain ⟨hlen, hprs, hle1, hroom1, hnil, heach⟩ := w1
  have HPR1 : Hid (PrsAt w a1 L1) := hprs
  have HNL1 : Hid (L1.length = len1) := hlen
  have HE1 : Hid (∀ p ∈ L1, p.1.length ≤ 140737488355328 ∧ p.2.length ≤ 140737488355328) := fun p hp => by obtain ⟨h1, h2⟩ := heach p hp; exact ⟨by omega, by omega⟩
  have HLent1 : Hid (∀ u, PrsAt u a1 L1 → Calls Tryd.prog 13 #[.slice a1 len1 cap1] u fun e w' => ∃ g c, e = .returned (.slice (some ⟨g, 0, none⟩) len1 c) ∧ len1 + 1 ≤ c ∧ PrsAt w' (some ⟨g, 0, none⟩) (L1 ++ [Px.mark]) ∧ Bw u w') := fun u h => by
    have := lent9_any a1 cap1 L1 (by rw [HNL1.out]; omega) u h (by rw [HNL1.out]; exact hnil)
    rw [HNL1.out] at this
    exact this.mono fun e w' ⟨g, c, h1, h2, h3, h4, h5⟩ => ⟨g, c, h1, h2, lent_prs h4, h5⟩
  have HKept1 : Hid (∀ u g c, PrsAt u (some ⟨g, 0, none⟩) (L1 ++ [Px.mark]) → PrsAt u a1 L1 → len1 + 1 ≤ c → Calls Tryd.prog 16 #[.slice (some ⟨g, 0, none⟩) len1 c, .slice a1 len1 cap1] u fun e w' => e = .returned (.bool true) ∧ Bw u w') := fun u g c h1 h2 h3 => by
    have := kept9_any g c cap1 a1 L1 (by rw [HNL1.out]; omega) (by rw [HNL1.out]; exact h3) u h1 h2
    rw [HNL1.out] at this
    exact this
  clear hprs hlen heach hnil
  obtain ⟨r, er, hR⟩ : ∃ r er, Hid (Px.overF L0 L1 = (r, er)) := ⟨_, _, show Px.overF L0 L1 = _ from rfl⟩
  have heb : er ≤ 100 := by have := Px.over_er L0 L1; rw [hR.out] at this; exact this
  have hrl : r.length ≤ 64 := by
    have : (Px.overF L0 L1).1.length ≤ 64 := by
      unfold Px.overF
      split
      · exact Nat.zero_le _
      · split
        · exact Nat.zero_le _
        · split
          · exact Nat.zero_le _
          · show (Px.over L0 L1).length ≤ 64; omega
    rw [hR.out] at this; exact this
  obtain ⟨l, hl⟩ : ∃ l, Hid (r.length = l) := ⟨_, rfl⟩
  have HB : Hid (∀ (A B : Option Addr) (ca cb : Nat) (u : World), PrsAt u A r → PrsAt u B r → Calls Tryd.prog 19 #[.slice A l ca, .slice B l cb] u fun e w' => e = .returned (.bool true) ∧ ∃ q, w' = u.drewN q) := fun A B ca cb u h1 h2 => by
    have := pairs9_any A B ca cb r r (by omega) (by omega) u h1 h2
    rw [hl.out, decide_eq_true rfl] at this
    exact this
  have HP : Hid (∀ u g c g' c', KAt u → len0 ≤ c → len1 ≤ c' → PrsAt u (some ⟨g, 0, none⟩) L0 → PrsAt u (some ⟨g', 0, none⟩) L1 → Calls Tryd.prog 20 #[.slice (some ⟨g, 0, none⟩) len0 c, .slice (some ⟨g', 0, none⟩) len1 c'] u fun e w' => OverSays L0 L1 e w' ∧ Bw u w') := fun u g c g' c' hku hc hc' h h' => by
    have := pover_any (some ⟨g, 0, none⟩) (some ⟨g', 0, none⟩) c c' L0 L1 (by rw [HNL.out]; omega) (by rw [HNL1.out]; omega) (by rw [HNL.out]; exact hc) (by rw [HNL1.out]; exact hc') HE.out HE1.out u hku h h'
    rw [HNL.out, HNL1.out] at this
    exact this
  have HRf : Hid (∀ u, PrsAt u a0 L0 → PrsAt u a1 L1 → Calls Tryd.prog 21 #[.slice a0 len0 cap0, .slice a1 len1 cap1] u fun e w' => OverSays L0 L1 e w' ∧ Bw u w') := fun u h h' => by
    have := rover_says a0 a1 cap0 cap1 L0 L1 (by rw [HNL.out]; omega) (by rw [HNL1.out]; omega) HE.out HE1.out u h h'
    rw [HNL.out, HNL1.out] at this
    exact this
  have tok1 : Hid (w = w) := rfl
  have tok2 : Hid (w = w) := rfl
  have tok3 : Hid (w = w) := rfl
  go_enter Tryd.func6, Tryd.ntmps6
  go_wp2_with (go_at_call 13; clear tok1; refine (HLent.out _ HPR.out).mono ?_; rintro e x1 ⟨g, c, rfl, hc, hin, hx1⟩)
  go_wp2_with (go_at_call 13; clear tok2; refine (HLent1.out _ (HPR1.out.keep hx1)).mono ?_; rintro e x2 ⟨g', c', rfl, hc', hin', hx2⟩)
  go_wp2_with (first
    | (go_at_call 20; refine (HP.out _ g c g' c' (HK.out.keep (by repeat (first | assumption | (apply Bw.trans; assumption)))) (by omega) (by omega) (hin.keep hx2).front hin'.front).mono ?_; rintro e x3 ⟨⟨v, rfl, hv⟩, hx3⟩; rw [hR.out] at hv ⊢; (try dsimp only at hv); obtain ⟨A, ca, rfl, hca, hra⟩ := hv; rw [hl.out])
    | (go_at_call 21; refine (HRf.out _ (HPR.out.keep (hx1.trans (hx2.trans hx3))) (HPR1.out.keep (hx1.trans (hx2.trans hx3)))).mono ?_; rintro e x4 ⟨⟨v, rfl, hv⟩, hx4⟩; rw [hR.out] at hv ⊢; (try dsimp only at hv); obtain ⟨B, cb, rfl, hcb, hrb⟩ := hv; rw [hl.out])
    | (go_at_call 19; refine (HB.out A B ca cb _ (hra.keep hx4) hrb).mono ?_; rintro e x5 ⟨rfl, q5, hq5⟩; have hx5 := bw_of_drew hq5; clear hq5)
    | (go_at_call 16; clear tok3; refine (HKept.out _ g c (hin.keep (hx2.trans (hx3.trans (hx4.trans hx5)))) (HPR.out.keep (hx1.trans (hx2.trans (hx3.trans (hx4.trans hx5))))) hc).mono ?_; rintro e x6 ⟨rfl, hx6⟩))
  go_wp2_with (first
    | (go_at_call 16; refine (HKept1.out _ g' c' (hin'.keep (hx3.trans (hx4.trans (hx5.trans hx6)))) (HPR1.out.keep (hx1.trans (hx2.trans (hx3.trans (hx4.trans (hx5.trans hx6)))))) hc').mono ?_; rintro e x7 ⟨rfl, hx7⟩)
    | (go_at_call 10; refine (psize_any ⟨#[]⟩ ⟨#[]⟩ (by decide) (by decide) _ (HK.out.keep (by repeat (first | assumption | (apply Bw.trans; assumption))))).mono ?_; rintro e x8 ⟨rfl, hx8⟩; rw [show Px.psize ((⟨#[]⟩ : ByteArray).toList, (⟨#[]⟩ : ByteArray).toList) = 4 from size_none]))
  go_ret
  exact ⟨rfl, hx1.trans (hx2.trans (hx3.trans (hx4.trans (hx5.trans (hx6.trans (hx7.trans hx8))))))⟩

set_option maxRecDepth 100000 in
theorem lifted (os : Os) (started : os.Started) (H : Type) (enc : TypeId × Value → H) :
    ReturnsInHanded {} Tryd.checked os 6 .any (fun w args => (Rows.paxOversSpec.pre enc Tryd.prog Tryd.f6 [] false w args ∧ laidMetH Tryd.prog laidK w) ∧ sizedMet enc Tryd.prog Tryd.f6 (OpenSpec.ofChange Rows.paxOversSpec) false w args)
      (Rows.paxOversSpec.post enc Tryd.prog Tryd.f6 false true false false) := by
  refine returnsInHanded_of_change_and (C := Tryd.checked) (X := fun w _ => laidMetH Tryd.prog laidK w) (fun _ _ _ hh h => h.of_heap hh) own started (by kernel_rfl) Tryd.func6
    (ChangeSpec.witness_shaped (enc := enc) (C := Tryd.checked) (os := os) (X := fun w _ => laidMetH Tryd.prog laidK w) false (World.doorLaid Tryd.prog 400 os) #[.slice none 0 0, .slice none 0 0] 8 rfl (World.shaped_of_RefB (by kernel_rfl) (by kernel_rfl)) (by kernel_rfl) (by kernel_rfl) (by kernel_rfl) (door_met os _)) ?_
  intro W base args ds gs before hval0 hW hcnd hsz0 hL _
  have hval : ∀ (j : Nat) t v, Tryd.f6.params[j]? = some t → args[j]? = some v → Value.okWide Tryd.prog W .any base t v := hval0
  have hW' := hW
  obtain ⟨p, q, hA0, hV, rfl, hfz, hnd⟩ := hW
  have hA : DataW.TrodAll enc Tryd.prog W 0 (fun _ => true) true Tryd.f6.params.toList args.toList ds p := hA0
  have hsz : (DataW.weightsEach Tryd.prog (Tryd.f6.params.toList ++ Rows.paxOversSpec.plain.varTypes Tryd.prog) (ds ++ gs)).all (· ≤ reachBytes) = true := hsz0
  have hkat := kat_of_laid hL
  rw [Tryd.params6] at hA hval hsz
  obtain ⟨v0, vs0, d0, ds0, p0, q0, hargs, rfl, rfl, h0, r0⟩ := trodAll_cons hA
  obtain ⟨v1, vs1, d1, ds1, p1, q1, rfl, rfl, rfl, h1, r1⟩ := trodAll_cons r0
  obtain ⟨rfl, rfl, rfl⟩ := trodAll_nil r1
  obtain rfl : args = #[v0, v1] := by cases args; simp_all
  obtain ⟨rfl, rfl⟩ := trodVars_none hV
  obtain ⟨a0, len0, cap0, rfl⟩ := okWide_slice Tryd.underlying33 (hval 0 33 v0 rfl rfl)
  have k0 := h0
  have lt0 : ∀ x ∈ p0, x.block < W.heap.size := by obtain ⟨m, hm⟩ := k0; exact DataW.trod_lt m _ _ _ hm
  obtain ⟨L0, w0⟩ := open_prs h0 (fun x hx => by simpa using List.all_eq_true.1 hsz x (DataW.weights_mem_each (j := 0) (t := 33) rfl rfl x hx))
  obtain ⟨a1, len1, cap1, rfl⟩ := okWide_slice Tryd.underlying33 (hval 1 33 v1 rfl rfl)
  have k1 := h1
  have lt1 : ∀ x ∈ p1, x.block < W.heap.size := by obtain ⟨m, hm⟩ := k1; exact DataW.trod_lt m _ _ _ hm
  obtain ⟨L1, w1⟩ := open_prs h1 (fun x hx => by simpa using List.all_eq_true.1 hsz x (DataW.weights_mem_each (j := 1) (t := 33) rfl rfl x hx))
  clear hA0 hval0
  refine (walk a0 len0 cap0 L0 a1 len1 cap1 L1 W hkat w0 w1).mono fun e W' ⟨he, bel⟩ => ?_
  subst he
  exact ⟨_, rfl, _, _, _, [], _, [], hW', trodAll_mk1 (shut_bool Tryd.underlying4 _), (trodAll_cons_mk (Below.trod laidOut (by kernel_rfl) (of_decide_eq_true (by kernel_rfl)) k0 bel lt0) (trodAll_cons_mk (Below.trod laidOut (by kernel_rfl) (of_decide_eq_true (by kernel_rfl)) k1 bel lt1) trodAll_mk0)), rfl, bel.frame _, fun h => by cases h⟩

theorem over : Rows.paxOversRow.holds Tryd.pinned (OpenSpec.ofChange Rows.paxOversSpec) :=
  OpenClaim.holds_of_wide 6 Tryd.f6 rfl rfl rfl rfl rfl rfl rfl ⟨rfl, rfl, rfl, rfl, rfl⟩ rfl rfl rfl rfl rfl (by kernel_rfl) Tryd.func6 (by kernel_rfl)
    (of_decide_eq_true (by kernel_rfl)) (by unfold Func.isWrapper; first | (rw [if_pos (by decide +kernel)]; kernel_rfl) | (rw [if_neg (by decide +kernel)]; exact ⟨rfl, rfl⟩))
    (fun os started H enc _ => lifted os started H enc)

theorem proved : Rows.PaxOversCardSaid :=
  Claim7.holds_tied_plain_at .later [] [.data, .data, .data] true (true, "8d609f7f5d6121d0bdfa4a950c82c9eb40796584ba27f9101fab04311bde18cd") true
    over (fun _ h => by cases h) (by kernel_rfl) (fun _ h => by cases h) paxOvers_row_tie rfl ⟨rfl, rfl⟩ (by kernel_rfl) rfl
    (fun f fn hf hfn => by
      obtain rfl : f = 6 := Option.some.inj ((show Tryd.prog.funcNamed "tabulary/tabularylaw09.PaxOvers" = some 6 by kernel_rfl).symm.trans hf) |>.symm
      obtain rfl : fn = Tryd.f6 := (Option.some.inj (Tryd.func6.symm.trans hfn)).symm
      exact ⟨by kernel_rfl, fun j t ht => by
        rw [Tryd.params6] at ht
        have hm : t ∈ [33, 33] := by simpa using Array.mem_of_getElem? ht
        have hall : ([33, 33].all fun u => !Tryd.prog.wantsStandIn u) = true := by kernel_rfl
        exact (show Tryd.prog.wantsStandIn t = false by simpa using List.all_eq_true.1 hall t hm)⟩)
    (by kernel_rfl)
#print axioms proved
end Go.Proofs.YtmbabfelnieagaaDoor.paxOvers
