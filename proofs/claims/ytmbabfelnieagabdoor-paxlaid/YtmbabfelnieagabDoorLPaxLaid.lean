/- Proved: for any three lists of pairs and every text the statement PaxLaid answers true (the document's P9.9: laying over nothing, of three, and what a key has). -/
import Derived.Test.YtmbabfelnieagabDoorAJ
import Derived.Test.YtmbabfelnieagabDoorDB
import Derived.Test.YtmbabfelnieagabDoorAP
import Derived.Test.YtmbabfelnieagabDoorFx
import Derived.Test.YtmbabfelnieagabDoorCards
import Derived.Test.YtmbabfelnieagabDoorTie
import Derived.ShutString
import Derived.ChangeOld
import Derived.SevenTiedAt
namespace Go.Proofs.YtmbabfelnieagabDoor.paxLaid
open Go.ChangeShapes Go.WideShapes Go.ChangeAt Go.RowKit Go.Deep
set_option linter.unusedVariables false

set_option linter.unusedSimpArgs false
attribute [local go_sem] List.getElem?_cons_zero Option.getD_some
open Go.Deep
set_option maxRecDepth 100000 in
set_option maxHeartbeats 4000000 in
theorem laid_xxxn (a0 : Option Addr) (len0 cap0 : Nat) (L0 : List Px.Pr) (a1 : Option Addr) (len1 cap1 : Nat) (L1 : List Px.Pr) (a2 : Option Addr) (len2 cap2 : Nat) (L2 : List Px.Pr) (s3 : ByteArray) (w : World) (hkat : KAt w) (w0 : InPrs w a0 len0 cap0 L0) (w1 : InPrs w a1 len1 cap1 L1) (w2 : InPrs w a2 len2 cap2 L2) (hg : (Px.putF L0).2.2 ≠ 0) (he : (Px.overF L0 L1).2 ≠ 0) (hf : (Px.overF L1 L2).2 ≠ 0) :
    Calls Tryd.prog 4 #[.slice a0 len0 cap0, .slice a1 len1 cap1, .slice a2 len2 cap2, .string s3] w fun e w' => e = .returned (.bool true) ∧ Below w.heap.size w w' := by
  have HK : Hid (KAt w) := hkat
  clear hkat
  obtain ⟨hlen0, hprs0, hle0, hroom0, hnil0, heach0⟩ := w0
  have HPR0 : Hid (PrsAt w a0 L0) := hprs0
  have HNL0 : Hid (L0.length = len0) := hlen0
  have HE0 : Hid (∀ p ∈ L0, p.1.length ≤ 140737488355328 ∧ p.2.length ≤ 140737488355328) := fun p hp => by obtain ⟨h1, h2⟩ := heach0 p hp; exact ⟨by omega, by omega⟩
  clear hprs0 hlen0 heach0 hnil0
  obtain ⟨hlen1, hprs1, hle1, hroom1, hnil1, heach1⟩ := w1
  have HPR1 : Hid (PrsAt w a1 L1) := hprs1
  have HNL1 : Hid (L1.length = len1) := hlen1
  have HE1 : Hid (∀ p ∈ L1, p.1.length ≤ 140737488355328 ∧ p.2.length ≤ 140737488355328) := fun p hp => by obtain ⟨h1, h2⟩ := heach1 p hp; exact ⟨by omega, by omega⟩
  clear hprs1 hlen1 heach1 hnil1
  obtain ⟨hlen2, hprs2, hle2, hroom2, hnil2, heach2⟩ := w2
  have HPR2 : Hid (PrsAt w a2 L2) := hprs2
  have HNL2 : Hid (L2.length = len2) := hlen2
  have HE2 : Hid (∀ p ∈ L2, p.1.length ≤ 140737488355328 ∧ p.2.length ≤ 140737488355328) := fun p hp => by obtain ⟨h1, h2⟩ := heach2 p hp; exact ⟨by omega, by omega⟩
  clear hprs2 hlen2 heach2 hnil2
  obtain ⟨gp, ip, eg, hgp⟩ : ∃ b i e, Hid (Px.putF L0 = (b, i, e)) := ⟨_, _, _, show Px.putF L0 = _ from rfl⟩
  have heg : eg ≠ 0 := by rw [hgp.out] at hg; exact hg
  have hegb : eg ≤ 100 := by have := Px.put_er L0; rw [hgp.out] at this; exact this
  have hipb : ip ≤ 64 := by have := (Px.put_place L0).2; rw [hgp.out] at this; exact this
  have eg1 : ((eg : Int) == 0) = false := by rw [beq_eq_false_iff_ne]; omega
  have HOR : Hid (Px.overF L0 [] = ([], eg)) := by show _ = _; rw [Px.overF_nil_r, if_neg hg, hgp.out]
  have HOL : Hid (Px.overF [] L0 = ([], eg)) := by show _ = _; rw [Px.overF_nil_l, if_neg hg, hgp.out]
  have HO1 : Hid (∀ u, KAt u → PrsAt u a0 L0 → Calls Tryd.prog 11 #[.slice a0 len0 cap0, .slice none 0 0] u fun e w' => OverSays L0 [] e w' ∧ Bw u w') := fun u hku h => by
    have := pover_any a0 none cap0 0 L0 [] (by rw [HNL0.out]; omega) (by simp) (by rw [HNL0.out]; exact hle0) (Nat.le_refl _) HE0.out (fun p hp => by simp at hp) u hku h (prs_nil _ _)
    rw [HNL0.out] at this
    exact this
  have HO2 : Hid (∀ u, KAt u → PrsAt u a0 L0 → Calls Tryd.prog 11 #[.slice none 0 0, .slice a0 len0 cap0] u fun e w' => OverSays [] L0 e w' ∧ Bw u w') := fun u hku h => by
    have := pover_any none a0 0 cap0 [] L0 (by simp) (by rw [HNL0.out]; omega) (Nat.le_refl _) (by rw [HNL0.out]; exact hle0) (fun p hp => by simp at hp) HE0.out u hku (prs_nil _ _) h
    rw [HNL0.out] at this
    exact this
  have HPut : Hid (∀ u, KAt u → PrsAt u a0 L0 → Calls Tryd.prog 12 #[.slice a0 len0 cap0] u fun e w' => PutSays L0 e w' ∧ Bw u w') := fun u hku h => by
    have := pput_any a0 cap0 L0 (by rw [HNL0.out]; omega) (by rw [HNL0.out]; exact hle0) HE0.out u hku h
    rw [HNL0.out] at this
    exact this
  have HO3 : Hid (∀ u, KAt u → PrsAt u a0 L0 → PrsAt u a1 L1 → Calls Tryd.prog 11 #[.slice a0 len0 cap0, .slice a1 len1 cap1] u fun e w' => OverSays L0 L1 e w' ∧ Bw u w') := fun u hku h h' => by
    have := pover_any a0 a1 cap0 cap1 L0 L1 (by rw [HNL0.out]; omega) (by rw [HNL1.out]; omega) (by rw [HNL0.out]; exact hle0) (by rw [HNL1.out]; exact hle1) HE0.out HE1.out u hku h h'
    rw [HNL0.out, HNL1.out] at this
    exact this
  have HO4 : Hid (∀ u, KAt u → PrsAt u a1 L1 → PrsAt u a2 L2 → Calls Tryd.prog 11 #[.slice a1 len1 cap1, .slice a2 len2 cap2] u fun e w' => OverSays L1 L2 e w' ∧ Bw u w') := fun u hku h h' => by
    have := pover_any a1 a2 cap1 cap2 L1 L2 (by rw [HNL1.out]; omega) (by rw [HNL2.out]; omega) (by rw [HNL1.out]; exact hle1) (by rw [HNL2.out]; exact hle2) HE1.out HE2.out u hku h h'
    rw [HNL1.out, HNL2.out] at this
    exact this
  obtain ⟨e3, hLM⟩ : ∃ e3, Hid (Px.overF L0 L1 = ([], e3)) := ⟨(Px.overF L0 L1).2, by show _ = _; rw [← Px.over_bad he]⟩
  have he3 : e3 ≠ 0 := by rw [hLM.out] at he; exact he
  have he3b : e3 ≤ 100 := by have := Px.over_er L0 L1; rw [hLM.out] at this; exact this
  have ee1 : ((e3 : Int) != 0) = true := by rw [bne_iff_ne]; omega
  have ee2 : ((e3 : Int) == 0) = false := by rw [beq_eq_false_iff_ne]; omega
  obtain ⟨f3, hMN⟩ : ∃ e3, Hid (Px.overF L1 L2 = ([], e3)) := ⟨(Px.overF L1 L2).2, by show _ = _; rw [← Px.over_bad hf]⟩
  have hf3 : f3 ≠ 0 := by rw [hMN.out] at hf; exact hf
  have hf3b : f3 ≤ 100 := by have := Px.over_er L1 L2; rw [hMN.out] at this; exact this
  have ff1 : ((f3 : Int) != 0) = true := by rw [bne_iff_ne]; omega
  have ff2 : ((f3 : Int) == 0) = false := by rw [beq_eq_false_iff_ne]; omega
  clear hg he hf
  have tok1 : Hid (w = w) := rfl
  have tok2 : Hid (w = w) := rfl
  have tok3 : Hid (w = w) := rfl
  have tok4 : Hid (w = w) := rfl
  have tok5 : Hid (w = w) := rfl
  have tok6 : Hid (w = w) := rfl
  have tok7 : Hid (w = w) := rfl
  have tok8 : Hid (w = w) := rfl
  have tok9 : Hid (w = w) := rfl
  go_enter Tryd.func4, Tryd.ntmps4
  go_wp2_with (go_at_call 7; refine (awake9_any _ HK.out).mono ?_; rintro e x0 ⟨rfl, hx0⟩)
  go_wp2_with (go_at_call 11; clear tok1; refine (HO1.out _ (HK.out.keep (by repeat (first | assumption | (apply Bw.trans; assumption)))) (HPR0.out.keep hx0)).mono ?_; rintro e x1 ⟨⟨v, rfl, hv⟩, hx1⟩; rw [HOR.out] at hv ⊢; (try dsimp only at hv); obtain ⟨A1, c1, rfl, hc1, hr1⟩ := hv)
  go_wp2_with (go_at_call 11; clear tok2; refine (HO2.out _ (HK.out.keep (by repeat (first | assumption | (apply Bw.trans; assumption)))) (HPR0.out.keep (hx0.trans hx1))).mono ?_; rintro e x2 ⟨⟨v, rfl, hv⟩, hx2⟩; rw [HOL.out] at hv ⊢; (try dsimp only at hv); obtain ⟨A2, c2, rfl, hc2, hr2⟩ := hv)
  go_wp2_with (go_at_call 12; clear tok3; refine (HPut.out _ (HK.out.keep (by repeat (first | assumption | (apply Bw.trans; assumption)))) (HPR0.out.keep (hx0.trans (hx1.trans hx2)))).mono ?_; rintro e x3 ⟨⟨v, rfl, hv⟩, hx3⟩; rw [hgp.out] at hv ⊢; (try dsimp only at hv); obtain ⟨A3, c3, rfl, hc3, hr3⟩ := hv)
  go_wp2_with (go_at_call 11; clear tok6; refine (HO3.out _ (HK.out.keep (by repeat (first | assumption | (apply Bw.trans; assumption)))) (HPR0.out.keep (hx0.trans (hx1.trans (hx2.trans hx3)))) (HPR1.out.keep (hx0.trans (hx1.trans (hx2.trans hx3))))).mono ?_; rintro e x6 ⟨⟨v, rfl, hv⟩, hx6⟩; rw [hLM.out] at hv ⊢; (try dsimp only at hv); obtain ⟨A6, c6, rfl, hc6, hr6⟩ := hv)
  go_wp2_with (go_at_call 11; clear tok7; refine (HO4.out _ (HK.out.keep (by repeat (first | assumption | (apply Bw.trans; assumption)))) (HPR1.out.keep (hx0.trans (hx1.trans (hx2.trans (hx3.trans hx6))))) (HPR2.out.keep (hx0.trans (hx1.trans (hx2.trans (hx3.trans hx6)))))).mono ?_; rintro e x7 ⟨⟨v, rfl, hv⟩, hx7⟩; rw [hMN.out] at hv ⊢; (try dsimp only at hv); obtain ⟨A7, c7, rfl, hc7, hr7⟩ := hv)
  go_ret
  exact ⟨by simp, (hx0.trans (hx1.trans (hx2.trans (hx3.trans (hx6.trans hx7)))))⟩
set_option maxRecDepth 100000 in
set_option maxHeartbeats 4000000 in
theorem laid_xxyn (a0 : Option Addr) (len0 cap0 : Nat) (L0 : List Px.Pr) (a1 : Option Addr) (len1 cap1 : Nat) (L1 : List Px.Pr) (a2 : Option Addr) (len2 cap2 : Nat) (L2 : List Px.Pr) (s3 : ByteArray) (w : World) (hkat : KAt w) (w0 : InPrs w a0 len0 cap0 L0) (w1 : InPrs w a1 len1 cap1 L1) (w2 : InPrs w a2 len2 cap2 L2) (hg : (Px.putF L0).2.2 ≠ 0) (he : (Px.overF L0 L1).2 ≠ 0) (hf : (Px.overF L1 L2).2 = 0) :
    Calls Tryd.prog 4 #[.slice a0 len0 cap0, .slice a1 len1 cap1, .slice a2 len2 cap2, .string s3] w fun e w' => e = .returned (.bool true) ∧ Below w.heap.size w w' := by
  have HK : Hid (KAt w) := hkat
  clear hkat
  obtain ⟨hlen0, hprs0, hle0, hroom0, hnil0, heach0⟩ := w0
  have HPR0 : Hid (PrsAt w a0 L0) := hprs0
  have HNL0 : Hid (L0.length = len0) := hlen0
  have HE0 : Hid (∀ p ∈ L0, p.1.length ≤ 140737488355328 ∧ p.2.length ≤ 140737488355328) := fun p hp => by obtain ⟨h1, h2⟩ := heach0 p hp; exact ⟨by omega, by omega⟩
  clear hprs0 hlen0 heach0 hnil0
  obtain ⟨hlen1, hprs1, hle1, hroom1, hnil1, heach1⟩ := w1
  have HPR1 : Hid (PrsAt w a1 L1) := hprs1
  have HNL1 : Hid (L1.length = len1) := hlen1
  have HE1 : Hid (∀ p ∈ L1, p.1.length ≤ 140737488355328 ∧ p.2.length ≤ 140737488355328) := fun p hp => by obtain ⟨h1, h2⟩ := heach1 p hp; exact ⟨by omega, by omega⟩
  clear hprs1 hlen1 heach1 hnil1
  obtain ⟨hlen2, hprs2, hle2, hroom2, hnil2, heach2⟩ := w2
  have HPR2 : Hid (PrsAt w a2 L2) := hprs2
  have HNL2 : Hid (L2.length = len2) := hlen2
  have HE2 : Hid (∀ p ∈ L2, p.1.length ≤ 140737488355328 ∧ p.2.length ≤ 140737488355328) := fun p hp => by obtain ⟨h1, h2⟩ := heach2 p hp; exact ⟨by omega, by omega⟩
  clear hprs2 hlen2 heach2 hnil2
  obtain ⟨gp, ip, eg, hgp⟩ : ∃ b i e, Hid (Px.putF L0 = (b, i, e)) := ⟨_, _, _, show Px.putF L0 = _ from rfl⟩
  have heg : eg ≠ 0 := by rw [hgp.out] at hg; exact hg
  have hegb : eg ≤ 100 := by have := Px.put_er L0; rw [hgp.out] at this; exact this
  have hipb : ip ≤ 64 := by have := (Px.put_place L0).2; rw [hgp.out] at this; exact this
  have eg1 : ((eg : Int) == 0) = false := by rw [beq_eq_false_iff_ne]; omega
  have HOR : Hid (Px.overF L0 [] = ([], eg)) := by show _ = _; rw [Px.overF_nil_r, if_neg hg, hgp.out]
  have HOL : Hid (Px.overF [] L0 = ([], eg)) := by show _ = _; rw [Px.overF_nil_l, if_neg hg, hgp.out]
  have HO1 : Hid (∀ u, KAt u → PrsAt u a0 L0 → Calls Tryd.prog 11 #[.slice a0 len0 cap0, .slice none 0 0] u fun e w' => OverSays L0 [] e w' ∧ Bw u w') := fun u hku h => by
    have := pover_any a0 none cap0 0 L0 [] (by rw [HNL0.out]; omega) (by simp) (by rw [HNL0.out]; exact hle0) (Nat.le_refl _) HE0.out (fun p hp => by simp at hp) u hku h (prs_nil _ _)
    rw [HNL0.out] at this
    exact this
  have HO2 : Hid (∀ u, KAt u → PrsAt u a0 L0 → Calls Tryd.prog 11 #[.slice none 0 0, .slice a0 len0 cap0] u fun e w' => OverSays [] L0 e w' ∧ Bw u w') := fun u hku h => by
    have := pover_any none a0 0 cap0 [] L0 (by simp) (by rw [HNL0.out]; omega) (Nat.le_refl _) (by rw [HNL0.out]; exact hle0) (fun p hp => by simp at hp) HE0.out u hku (prs_nil _ _) h
    rw [HNL0.out] at this
    exact this
  have HPut : Hid (∀ u, KAt u → PrsAt u a0 L0 → Calls Tryd.prog 12 #[.slice a0 len0 cap0] u fun e w' => PutSays L0 e w' ∧ Bw u w') := fun u hku h => by
    have := pput_any a0 cap0 L0 (by rw [HNL0.out]; omega) (by rw [HNL0.out]; exact hle0) HE0.out u hku h
    rw [HNL0.out] at this
    exact this
  have HO3 : Hid (∀ u, KAt u → PrsAt u a0 L0 → PrsAt u a1 L1 → Calls Tryd.prog 11 #[.slice a0 len0 cap0, .slice a1 len1 cap1] u fun e w' => OverSays L0 L1 e w' ∧ Bw u w') := fun u hku h h' => by
    have := pover_any a0 a1 cap0 cap1 L0 L1 (by rw [HNL0.out]; omega) (by rw [HNL1.out]; omega) (by rw [HNL0.out]; exact hle0) (by rw [HNL1.out]; exact hle1) HE0.out HE1.out u hku h h'
    rw [HNL0.out, HNL1.out] at this
    exact this
  have HO4 : Hid (∀ u, KAt u → PrsAt u a1 L1 → PrsAt u a2 L2 → Calls Tryd.prog 11 #[.slice a1 len1 cap1, .slice a2 len2 cap2] u fun e w' => OverSays L1 L2 e w' ∧ Bw u w') := fun u hku h h' => by
    have := pover_any a1 a2 cap1 cap2 L1 L2 (by rw [HNL1.out]; omega) (by rw [HNL2.out]; omega) (by rw [HNL1.out]; exact hle1) (by rw [HNL2.out]; exact hle2) HE1.out HE2.out u hku h h'
    rw [HNL1.out, HNL2.out] at this
    exact this
  obtain ⟨e3, hLM⟩ : ∃ e3, Hid (Px.overF L0 L1 = ([], e3)) := ⟨(Px.overF L0 L1).2, by show _ = _; rw [← Px.over_bad he]⟩
  have he3 : e3 ≠ 0 := by rw [hLM.out] at he; exact he
  have he3b : e3 ≤ 100 := by have := Px.over_er L0 L1; rw [hLM.out] at this; exact this
  have ee1 : ((e3 : Int) != 0) = true := by rw [bne_iff_ne]; omega
  have ee2 : ((e3 : Int) == 0) = false := by rw [beq_eq_false_iff_ne]; omega
  obtain ⟨mn, hmn⟩ : ∃ l, Hid (Px.over L1 L2 = l) := ⟨_, rfl⟩
  have HMN : Hid (Px.overF L1 L2 = (mn, 0)) := by show _ = _; rw [(Px.overF_ok hf).2.2.2, hmn.out]
  have hmn64 : mn.length ≤ 64 := by rw [← hmn.out]; exact (Px.overF_ok hf).2.2.1
  obtain ⟨lmn, hlmn⟩ : ∃ l, Hid (mn.length = l) := ⟨_, rfl⟩
  rw [hlmn.out] at hmn64
  clear hg he hf
  have tok1 : Hid (w = w) := rfl
  have tok2 : Hid (w = w) := rfl
  have tok3 : Hid (w = w) := rfl
  have tok4 : Hid (w = w) := rfl
  have tok5 : Hid (w = w) := rfl
  have tok6 : Hid (w = w) := rfl
  have tok7 : Hid (w = w) := rfl
  have tok8 : Hid (w = w) := rfl
  have tok9 : Hid (w = w) := rfl
  go_enter Tryd.func4, Tryd.ntmps4
  go_wp2_with (go_at_call 7; refine (awake9_any _ HK.out).mono ?_; rintro e x0 ⟨rfl, hx0⟩)
  go_wp2_with (go_at_call 11; clear tok1; refine (HO1.out _ (HK.out.keep (by repeat (first | assumption | (apply Bw.trans; assumption)))) (HPR0.out.keep hx0)).mono ?_; rintro e x1 ⟨⟨v, rfl, hv⟩, hx1⟩; rw [HOR.out] at hv ⊢; (try dsimp only at hv); obtain ⟨A1, c1, rfl, hc1, hr1⟩ := hv)
  go_wp2_with (go_at_call 11; clear tok2; refine (HO2.out _ (HK.out.keep (by repeat (first | assumption | (apply Bw.trans; assumption)))) (HPR0.out.keep (hx0.trans hx1))).mono ?_; rintro e x2 ⟨⟨v, rfl, hv⟩, hx2⟩; rw [HOL.out] at hv ⊢; (try dsimp only at hv); obtain ⟨A2, c2, rfl, hc2, hr2⟩ := hv)
  go_wp2_with (go_at_call 12; clear tok3; refine (HPut.out _ (HK.out.keep (by repeat (first | assumption | (apply Bw.trans; assumption)))) (HPR0.out.keep (hx0.trans (hx1.trans hx2)))).mono ?_; rintro e x3 ⟨⟨v, rfl, hv⟩, hx3⟩; rw [hgp.out] at hv ⊢; (try dsimp only at hv); obtain ⟨A3, c3, rfl, hc3, hr3⟩ := hv)
  go_wp2_with (go_at_call 11; clear tok6; refine (HO3.out _ (HK.out.keep (by repeat (first | assumption | (apply Bw.trans; assumption)))) (HPR0.out.keep (hx0.trans (hx1.trans (hx2.trans hx3)))) (HPR1.out.keep (hx0.trans (hx1.trans (hx2.trans hx3))))).mono ?_; rintro e x6 ⟨⟨v, rfl, hv⟩, hx6⟩; rw [hLM.out] at hv ⊢; (try dsimp only at hv); obtain ⟨A6, c6, rfl, hc6, hr6⟩ := hv)
  go_wp2_with (go_at_call 11; clear tok7; refine (HO4.out _ (HK.out.keep (by repeat (first | assumption | (apply Bw.trans; assumption)))) (HPR1.out.keep (hx0.trans (hx1.trans (hx2.trans (hx3.trans hx6))))) (HPR2.out.keep (hx0.trans (hx1.trans (hx2.trans (hx3.trans hx6)))))).mono ?_; rintro e x7 ⟨⟨v, rfl, hv⟩, hx7⟩; rw [HMN.out] at hv ⊢; (try dsimp only at hv); obtain ⟨A7, c7, rfl, hc7, hr7⟩ := hv; rw [hlmn.out] at hc7 ⊢)
  go_ret
  exact ⟨by simp, (hx0.trans (hx1.trans (hx2.trans (hx3.trans (hx6.trans hx7)))))⟩
set_option maxRecDepth 100000 in
set_option maxHeartbeats 4000000 in
theorem laid_yxxn (a0 : Option Addr) (len0 cap0 : Nat) (L0 : List Px.Pr) (a1 : Option Addr) (len1 cap1 : Nat) (L1 : List Px.Pr) (a2 : Option Addr) (len2 cap2 : Nat) (L2 : List Px.Pr) (s3 : ByteArray) (w : World) (hkat : KAt w) (w0 : InPrs w a0 len0 cap0 L0) (w1 : InPrs w a1 len1 cap1 L1) (w2 : InPrs w a2 len2 cap2 L2) (hg : (Px.putF L0).2.2 = 0) (he : (Px.overF L0 L1).2 ≠ 0) (hf : (Px.overF L1 L2).2 ≠ 0) :
    Calls Tryd.prog 4 #[.slice a0 len0 cap0, .slice a1 len1 cap1, .slice a2 len2 cap2, .string s3] w fun e w' => e = .returned (.bool true) ∧ Below w.heap.size w w' := by
  have HK : Hid (KAt w) := hkat
  clear hkat
  obtain ⟨hlen0, hprs0, hle0, hroom0, hnil0, heach0⟩ := w0
  have HPR0 : Hid (PrsAt w a0 L0) := hprs0
  have HNL0 : Hid (L0.length = len0) := hlen0
  have HE0 : Hid (∀ p ∈ L0, p.1.length ≤ 140737488355328 ∧ p.2.length ≤ 140737488355328) := fun p hp => by obtain ⟨h1, h2⟩ := heach0 p hp; exact ⟨by omega, by omega⟩
  clear hprs0 hlen0 heach0 hnil0
  obtain ⟨hlen1, hprs1, hle1, hroom1, hnil1, heach1⟩ := w1
  have HPR1 : Hid (PrsAt w a1 L1) := hprs1
  have HNL1 : Hid (L1.length = len1) := hlen1
  have HE1 : Hid (∀ p ∈ L1, p.1.length ≤ 140737488355328 ∧ p.2.length ≤ 140737488355328) := fun p hp => by obtain ⟨h1, h2⟩ := heach1 p hp; exact ⟨by omega, by omega⟩
  clear hprs1 hlen1 heach1 hnil1
  obtain ⟨hlen2, hprs2, hle2, hroom2, hnil2, heach2⟩ := w2
  have HPR2 : Hid (PrsAt w a2 L2) := hprs2
  have HNL2 : Hid (L2.length = len2) := hlen2
  have HE2 : Hid (∀ p ∈ L2, p.1.length ≤ 140737488355328 ∧ p.2.length ≤ 140737488355328) := fun p hp => by obtain ⟨h1, h2⟩ := heach2 p hp; exact ⟨by omega, by omega⟩
  clear hprs2 hlen2 heach2 hnil2
  have HOR : Hid (Px.overF L0 [] = (L0, 0)) := by show _ = _; rw [Px.overF_nil_r, if_pos hg, hg]
  have HOL : Hid (Px.overF [] L0 = (L0, 0)) := by show _ = _; rw [Px.overF_nil_l, if_pos hg, hg]
  obtain ⟨gp, hgp⟩ : ∃ b, Hid (Px.putF L0 = (b, 0, 0)) := ⟨_, Px.put_good hg⟩
  have HO1 : Hid (∀ u, KAt u → PrsAt u a0 L0 → Calls Tryd.prog 11 #[.slice a0 len0 cap0, .slice none 0 0] u fun e w' => OverSays L0 [] e w' ∧ Bw u w') := fun u hku h => by
    have := pover_any a0 none cap0 0 L0 [] (by rw [HNL0.out]; omega) (by simp) (by rw [HNL0.out]; exact hle0) (Nat.le_refl _) HE0.out (fun p hp => by simp at hp) u hku h (prs_nil _ _)
    rw [HNL0.out] at this
    exact this
  have HO2 : Hid (∀ u, KAt u → PrsAt u a0 L0 → Calls Tryd.prog 11 #[.slice none 0 0, .slice a0 len0 cap0] u fun e w' => OverSays [] L0 e w' ∧ Bw u w') := fun u hku h => by
    have := pover_any none a0 0 cap0 [] L0 (by simp) (by rw [HNL0.out]; omega) (Nat.le_refl _) (by rw [HNL0.out]; exact hle0) (fun p hp => by simp at hp) HE0.out u hku (prs_nil _ _) h
    rw [HNL0.out] at this
    exact this
  have HPut : Hid (∀ u, KAt u → PrsAt u a0 L0 → Calls Tryd.prog 12 #[.slice a0 len0 cap0] u fun e w' => PutSays L0 e w' ∧ Bw u w') := fun u hku h => by
    have := pput_any a0 cap0 L0 (by rw [HNL0.out]; omega) (by rw [HNL0.out]; exact hle0) HE0.out u hku h
    rw [HNL0.out] at this
    exact this
  have HO3 : Hid (∀ u, KAt u → PrsAt u a0 L0 → PrsAt u a1 L1 → Calls Tryd.prog 11 #[.slice a0 len0 cap0, .slice a1 len1 cap1] u fun e w' => OverSays L0 L1 e w' ∧ Bw u w') := fun u hku h h' => by
    have := pover_any a0 a1 cap0 cap1 L0 L1 (by rw [HNL0.out]; omega) (by rw [HNL1.out]; omega) (by rw [HNL0.out]; exact hle0) (by rw [HNL1.out]; exact hle1) HE0.out HE1.out u hku h h'
    rw [HNL0.out, HNL1.out] at this
    exact this
  have HO4 : Hid (∀ u, KAt u → PrsAt u a1 L1 → PrsAt u a2 L2 → Calls Tryd.prog 11 #[.slice a1 len1 cap1, .slice a2 len2 cap2] u fun e w' => OverSays L1 L2 e w' ∧ Bw u w') := fun u hku h h' => by
    have := pover_any a1 a2 cap1 cap2 L1 L2 (by rw [HNL1.out]; omega) (by rw [HNL2.out]; omega) (by rw [HNL1.out]; exact hle1) (by rw [HNL2.out]; exact hle2) HE1.out HE2.out u hku h h'
    rw [HNL1.out, HNL2.out] at this
    exact this
  have HPairs : Hid (∀ u A c, PrsAt u A L0 → PrsAt u a0 L0 → Calls Tryd.prog 13 #[.slice A len0 c, .slice a0 len0 cap0] u fun e w' => e = .returned (.bool true) ∧ ∃ q, w' = u.drewN q) := fun u A c h1 h2 => by
    have := pairs9_any A a0 c cap0 L0 L0 (by rw [HNL0.out]; omega) (by rw [HNL0.out]; omega) u h1 h2
    rw [HNL0.out, decide_eq_true rfl] at this
    exact this
  obtain ⟨e3, hLM⟩ : ∃ e3, Hid (Px.overF L0 L1 = ([], e3)) := ⟨(Px.overF L0 L1).2, by show _ = _; rw [← Px.over_bad he]⟩
  have he3 : e3 ≠ 0 := by rw [hLM.out] at he; exact he
  have he3b : e3 ≤ 100 := by have := Px.over_er L0 L1; rw [hLM.out] at this; exact this
  have ee1 : ((e3 : Int) != 0) = true := by rw [bne_iff_ne]; omega
  have ee2 : ((e3 : Int) == 0) = false := by rw [beq_eq_false_iff_ne]; omega
  obtain ⟨f3, hMN⟩ : ∃ e3, Hid (Px.overF L1 L2 = ([], e3)) := ⟨(Px.overF L1 L2).2, by show _ = _; rw [← Px.over_bad hf]⟩
  have hf3 : f3 ≠ 0 := by rw [hMN.out] at hf; exact hf
  have hf3b : f3 ≤ 100 := by have := Px.over_er L1 L2; rw [hMN.out] at this; exact this
  have ff1 : ((f3 : Int) != 0) = true := by rw [bne_iff_ne]; omega
  have ff2 : ((f3 : Int) == 0) = false := by rw [beq_eq_false_iff_ne]; omega
  clear hg he hf
  have tok1 : Hid (w = w) := rfl
  have tok2 : Hid (w = w) := rfl
  have tok3 : Hid (w = w) := rfl
  have tok4 : Hid (w = w) := rfl
  have tok5 : Hid (w = w) := rfl
  have tok6 : Hid (w = w) := rfl
  have tok7 : Hid (w = w) := rfl
  have tok8 : Hid (w = w) := rfl
  have tok9 : Hid (w = w) := rfl
  go_enter Tryd.func4, Tryd.ntmps4
  go_wp2_with (go_at_call 7; refine (awake9_any _ HK.out).mono ?_; rintro e x0 ⟨rfl, hx0⟩)
  go_wp2_with (go_at_call 11; clear tok1; refine (HO1.out _ (HK.out.keep (by repeat (first | assumption | (apply Bw.trans; assumption)))) (HPR0.out.keep hx0)).mono ?_; rintro e x1 ⟨⟨v, rfl, hv⟩, hx1⟩; rw [HOR.out] at hv ⊢; (try dsimp only at hv); obtain ⟨A1, c1, rfl, hc1, hr1⟩ := hv; rw [HNL0.out] at hc1 ⊢)
  go_wp2_with (go_at_call 11; clear tok2; refine (HO2.out _ (HK.out.keep (by repeat (first | assumption | (apply Bw.trans; assumption)))) (HPR0.out.keep (hx0.trans hx1))).mono ?_; rintro e x2 ⟨⟨v, rfl, hv⟩, hx2⟩; rw [HOL.out] at hv ⊢; (try dsimp only at hv); obtain ⟨A2, c2, rfl, hc2, hr2⟩ := hv; rw [HNL0.out] at hc2 ⊢)
  go_wp2_with (go_at_call 12; clear tok3; refine (HPut.out _ (HK.out.keep (by repeat (first | assumption | (apply Bw.trans; assumption)))) (HPR0.out.keep (hx0.trans (hx1.trans hx2)))).mono ?_; rintro e x3 ⟨⟨v, rfl, hv⟩, hx3⟩; rw [hgp.out] at hv ⊢; (try dsimp only at hv); obtain ⟨A3, c3, rfl, hc3, hr3⟩ := hv)
  go_wp2_with (go_at_call 13; clear tok4; refine (HPairs.out _ A1 c1 (hr1.keep (hx2.trans hx3)) (HPR0.out.keep (hx0.trans (hx1.trans (hx2.trans hx3))))).mono ?_; rintro e x4 ⟨rfl, q4, hq4⟩; have hx4 := bw_of_drew hq4; clear hq4)
  go_wp2_with (go_at_call 13; clear tok5; refine (HPairs.out _ A2 c2 (hr2.keep (hx3.trans hx4)) (HPR0.out.keep (hx0.trans (hx1.trans (hx2.trans (hx3.trans hx4)))))).mono ?_; rintro e x5 ⟨rfl, q5, hq5⟩; have hx5 := bw_of_drew hq5; clear hq5)
  go_wp2_with (go_at_call 11; clear tok6; refine (HO3.out _ (HK.out.keep (by repeat (first | assumption | (apply Bw.trans; assumption)))) (HPR0.out.keep (hx0.trans (hx1.trans (hx2.trans (hx3.trans (hx4.trans hx5)))))) (HPR1.out.keep (hx0.trans (hx1.trans (hx2.trans (hx3.trans (hx4.trans hx5))))))).mono ?_; rintro e x6 ⟨⟨v, rfl, hv⟩, hx6⟩; rw [hLM.out] at hv ⊢; (try dsimp only at hv); obtain ⟨A6, c6, rfl, hc6, hr6⟩ := hv)
  go_wp2_with (go_at_call 11; clear tok7; refine (HO4.out _ (HK.out.keep (by repeat (first | assumption | (apply Bw.trans; assumption)))) (HPR1.out.keep (hx0.trans (hx1.trans (hx2.trans (hx3.trans (hx4.trans (hx5.trans hx6))))))) (HPR2.out.keep (hx0.trans (hx1.trans (hx2.trans (hx3.trans (hx4.trans (hx5.trans hx6)))))))).mono ?_; rintro e x7 ⟨⟨v, rfl, hv⟩, hx7⟩; rw [hMN.out] at hv ⊢; (try dsimp only at hv); obtain ⟨A7, c7, rfl, hc7, hr7⟩ := hv)
  go_ret
  exact ⟨by simp, (hx0.trans (hx1.trans (hx2.trans (hx3.trans (hx4.trans (hx5.trans (hx6.trans hx7)))))))⟩
set_option maxRecDepth 100000 in
set_option maxHeartbeats 4000000 in
theorem laid_yxyn (a0 : Option Addr) (len0 cap0 : Nat) (L0 : List Px.Pr) (a1 : Option Addr) (len1 cap1 : Nat) (L1 : List Px.Pr) (a2 : Option Addr) (len2 cap2 : Nat) (L2 : List Px.Pr) (s3 : ByteArray) (w : World) (hkat : KAt w) (w0 : InPrs w a0 len0 cap0 L0) (w1 : InPrs w a1 len1 cap1 L1) (w2 : InPrs w a2 len2 cap2 L2) (hg : (Px.putF L0).2.2 = 0) (he : (Px.overF L0 L1).2 ≠ 0) (hf : (Px.overF L1 L2).2 = 0) :
    Calls Tryd.prog 4 #[.slice a0 len0 cap0, .slice a1 len1 cap1, .slice a2 len2 cap2, .string s3] w fun e w' => e = .returned (.bool true) ∧ Below w.heap.size w w' := by
  have HK : Hid (KAt w) := hkat
  clear hkat
  obtain ⟨hlen0, hprs0, hle0, hroom0, hnil0, heach0⟩ := w0
  have HPR0 : Hid (PrsAt w a0 L0) := hprs0
  have HNL0 : Hid (L0.length = len0) := hlen0
  have HE0 : Hid (∀ p ∈ L0, p.1.length ≤ 140737488355328 ∧ p.2.length ≤ 140737488355328) := fun p hp => by obtain ⟨h1, h2⟩ := heach0 p hp; exact ⟨by omega, by omega⟩
  clear hprs0 hlen0 heach0 hnil0
  obtain ⟨hlen1, hprs1, hle1, hroom1, hnil1, heach1⟩ := w1
  have HPR1 : Hid (PrsAt w a1 L1) := hprs1
  have HNL1 : Hid (L1.length = len1) := hlen1
  have HE1 : Hid (∀ p ∈ L1, p.1.length ≤ 140737488355328 ∧ p.2.length ≤ 140737488355328) := fun p hp => by obtain ⟨h1, h2⟩ := heach1 p hp; exact ⟨by omega, by omega⟩
  clear hprs1 hlen1 heach1 hnil1
  obtain ⟨hlen2, hprs2, hle2, hroom2, hnil2, heach2⟩ := w2
  have HPR2 : Hid (PrsAt w a2 L2) := hprs2
  have HNL2 : Hid (L2.length = len2) := hlen2
  have HE2 : Hid (∀ p ∈ L2, p.1.length ≤ 140737488355328 ∧ p.2.length ≤ 140737488355328) := fun p hp => by obtain ⟨h1, h2⟩ := heach2 p hp; exact ⟨by omega, by omega⟩
  clear hprs2 hlen2 heach2 hnil2
  have HOR : Hid (Px.overF L0 [] = (L0, 0)) := by show _ = _; rw [Px.overF_nil_r, if_pos hg, hg]
  have HOL : Hid (Px.overF [] L0 = (L0, 0)) := by show _ = _; rw [Px.overF_nil_l, if_pos hg, hg]
  obtain ⟨gp, hgp⟩ : ∃ b, Hid (Px.putF L0 = (b, 0, 0)) := ⟨_, Px.put_good hg⟩
  have HO1 : Hid (∀ u, KAt u → PrsAt u a0 L0 → Calls Tryd.prog 11 #[.slice a0 len0 cap0, .slice none 0 0] u fun e w' => OverSays L0 [] e w' ∧ Bw u w') := fun u hku h => by
    have := pover_any a0 none cap0 0 L0 [] (by rw [HNL0.out]; omega) (by simp) (by rw [HNL0.out]; exact hle0) (Nat.le_refl _) HE0.out (fun p hp => by simp at hp) u hku h (prs_nil _ _)
    rw [HNL0.out] at this
    exact this
  have HO2 : Hid (∀ u, KAt u → PrsAt u a0 L0 → Calls Tryd.prog 11 #[.slice none 0 0, .slice a0 len0 cap0] u fun e w' => OverSays [] L0 e w' ∧ Bw u w') := fun u hku h => by
    have := pover_any none a0 0 cap0 [] L0 (by simp) (by rw [HNL0.out]; omega) (Nat.le_refl _) (by rw [HNL0.out]; exact hle0) (fun p hp => by simp at hp) HE0.out u hku (prs_nil _ _) h
    rw [HNL0.out] at this
    exact this
  have HPut : Hid (∀ u, KAt u → PrsAt u a0 L0 → Calls Tryd.prog 12 #[.slice a0 len0 cap0] u fun e w' => PutSays L0 e w' ∧ Bw u w') := fun u hku h => by
    have := pput_any a0 cap0 L0 (by rw [HNL0.out]; omega) (by rw [HNL0.out]; exact hle0) HE0.out u hku h
    rw [HNL0.out] at this
    exact this
  have HO3 : Hid (∀ u, KAt u → PrsAt u a0 L0 → PrsAt u a1 L1 → Calls Tryd.prog 11 #[.slice a0 len0 cap0, .slice a1 len1 cap1] u fun e w' => OverSays L0 L1 e w' ∧ Bw u w') := fun u hku h h' => by
    have := pover_any a0 a1 cap0 cap1 L0 L1 (by rw [HNL0.out]; omega) (by rw [HNL1.out]; omega) (by rw [HNL0.out]; exact hle0) (by rw [HNL1.out]; exact hle1) HE0.out HE1.out u hku h h'
    rw [HNL0.out, HNL1.out] at this
    exact this
  have HO4 : Hid (∀ u, KAt u → PrsAt u a1 L1 → PrsAt u a2 L2 → Calls Tryd.prog 11 #[.slice a1 len1 cap1, .slice a2 len2 cap2] u fun e w' => OverSays L1 L2 e w' ∧ Bw u w') := fun u hku h h' => by
    have := pover_any a1 a2 cap1 cap2 L1 L2 (by rw [HNL1.out]; omega) (by rw [HNL2.out]; omega) (by rw [HNL1.out]; exact hle1) (by rw [HNL2.out]; exact hle2) HE1.out HE2.out u hku h h'
    rw [HNL1.out, HNL2.out] at this
    exact this
  have HPairs : Hid (∀ u A c, PrsAt u A L0 → PrsAt u a0 L0 → Calls Tryd.prog 13 #[.slice A len0 c, .slice a0 len0 cap0] u fun e w' => e = .returned (.bool true) ∧ ∃ q, w' = u.drewN q) := fun u A c h1 h2 => by
    have := pairs9_any A a0 c cap0 L0 L0 (by rw [HNL0.out]; omega) (by rw [HNL0.out]; omega) u h1 h2
    rw [HNL0.out, decide_eq_true rfl] at this
    exact this
  obtain ⟨e3, hLM⟩ : ∃ e3, Hid (Px.overF L0 L1 = ([], e3)) := ⟨(Px.overF L0 L1).2, by show _ = _; rw [← Px.over_bad he]⟩
  have he3 : e3 ≠ 0 := by rw [hLM.out] at he; exact he
  have he3b : e3 ≤ 100 := by have := Px.over_er L0 L1; rw [hLM.out] at this; exact this
  have ee1 : ((e3 : Int) != 0) = true := by rw [bne_iff_ne]; omega
  have ee2 : ((e3 : Int) == 0) = false := by rw [beq_eq_false_iff_ne]; omega
  obtain ⟨mn, hmn⟩ : ∃ l, Hid (Px.over L1 L2 = l) := ⟨_, rfl⟩
  have HMN : Hid (Px.overF L1 L2 = (mn, 0)) := by show _ = _; rw [(Px.overF_ok hf).2.2.2, hmn.out]
  have hmn64 : mn.length ≤ 64 := by rw [← hmn.out]; exact (Px.overF_ok hf).2.2.1
  obtain ⟨lmn, hlmn⟩ : ∃ l, Hid (mn.length = l) := ⟨_, rfl⟩
  rw [hlmn.out] at hmn64
  clear hg he hf
  have tok1 : Hid (w = w) := rfl
  have tok2 : Hid (w = w) := rfl
  have tok3 : Hid (w = w) := rfl
  have tok4 : Hid (w = w) := rfl
  have tok5 : Hid (w = w) := rfl
  have tok6 : Hid (w = w) := rfl
  have tok7 : Hid (w = w) := rfl
  have tok8 : Hid (w = w) := rfl
  have tok9 : Hid (w = w) := rfl
  go_enter Tryd.func4, Tryd.ntmps4
  go_wp2_with (go_at_call 7; refine (awake9_any _ HK.out).mono ?_; rintro e x0 ⟨rfl, hx0⟩)
  go_wp2_with (go_at_call 11; clear tok1; refine (HO1.out _ (HK.out.keep (by repeat (first | assumption | (apply Bw.trans; assumption)))) (HPR0.out.keep hx0)).mono ?_; rintro e x1 ⟨⟨v, rfl, hv⟩, hx1⟩; rw [HOR.out] at hv ⊢; (try dsimp only at hv); obtain ⟨A1, c1, rfl, hc1, hr1⟩ := hv; rw [HNL0.out] at hc1 ⊢)
  go_wp2_with (go_at_call 11; clear tok2; refine (HO2.out _ (HK.out.keep (by repeat (first | assumption | (apply Bw.trans; assumption)))) (HPR0.out.keep (hx0.trans hx1))).mono ?_; rintro e x2 ⟨⟨v, rfl, hv⟩, hx2⟩; rw [HOL.out] at hv ⊢; (try dsimp only at hv); obtain ⟨A2, c2, rfl, hc2, hr2⟩ := hv; rw [HNL0.out] at hc2 ⊢)
  go_wp2_with (go_at_call 12; clear tok3; refine (HPut.out _ (HK.out.keep (by repeat (first | assumption | (apply Bw.trans; assumption)))) (HPR0.out.keep (hx0.trans (hx1.trans hx2)))).mono ?_; rintro e x3 ⟨⟨v, rfl, hv⟩, hx3⟩; rw [hgp.out] at hv ⊢; (try dsimp only at hv); obtain ⟨A3, c3, rfl, hc3, hr3⟩ := hv)
  go_wp2_with (go_at_call 13; clear tok4; refine (HPairs.out _ A1 c1 (hr1.keep (hx2.trans hx3)) (HPR0.out.keep (hx0.trans (hx1.trans (hx2.trans hx3))))).mono ?_; rintro e x4 ⟨rfl, q4, hq4⟩; have hx4 := bw_of_drew hq4; clear hq4)
  go_wp2_with (go_at_call 13; clear tok5; refine (HPairs.out _ A2 c2 (hr2.keep (hx3.trans hx4)) (HPR0.out.keep (hx0.trans (hx1.trans (hx2.trans (hx3.trans hx4)))))).mono ?_; rintro e x5 ⟨rfl, q5, hq5⟩; have hx5 := bw_of_drew hq5; clear hq5)
  go_wp2_with (go_at_call 11; clear tok6; refine (HO3.out _ (HK.out.keep (by repeat (first | assumption | (apply Bw.trans; assumption)))) (HPR0.out.keep (hx0.trans (hx1.trans (hx2.trans (hx3.trans (hx4.trans hx5)))))) (HPR1.out.keep (hx0.trans (hx1.trans (hx2.trans (hx3.trans (hx4.trans hx5))))))).mono ?_; rintro e x6 ⟨⟨v, rfl, hv⟩, hx6⟩; rw [hLM.out] at hv ⊢; (try dsimp only at hv); obtain ⟨A6, c6, rfl, hc6, hr6⟩ := hv)
  go_wp2_with (go_at_call 11; clear tok7; refine (HO4.out _ (HK.out.keep (by repeat (first | assumption | (apply Bw.trans; assumption)))) (HPR1.out.keep (hx0.trans (hx1.trans (hx2.trans (hx3.trans (hx4.trans (hx5.trans hx6))))))) (HPR2.out.keep (hx0.trans (hx1.trans (hx2.trans (hx3.trans (hx4.trans (hx5.trans hx6)))))))).mono ?_; rintro e x7 ⟨⟨v, rfl, hv⟩, hx7⟩; rw [HMN.out] at hv ⊢; (try dsimp only at hv); obtain ⟨A7, c7, rfl, hc7, hr7⟩ := hv; rw [hlmn.out] at hc7 ⊢)
  go_ret
  exact ⟨by simp, (hx0.trans (hx1.trans (hx2.trans (hx3.trans (hx4.trans (hx5.trans (hx6.trans hx7)))))))⟩
set_option maxRecDepth 100000 in
set_option maxHeartbeats 4000000 in
theorem laid_yyxn (a0 : Option Addr) (len0 cap0 : Nat) (L0 : List Px.Pr) (a1 : Option Addr) (len1 cap1 : Nat) (L1 : List Px.Pr) (a2 : Option Addr) (len2 cap2 : Nat) (L2 : List Px.Pr) (s3 : ByteArray) (w : World) (hkat : KAt w) (w0 : InPrs w a0 len0 cap0 L0) (w1 : InPrs w a1 len1 cap1 L1) (w2 : InPrs w a2 len2 cap2 L2) (hg : (Px.putF L0).2.2 = 0) (he : (Px.overF L0 L1).2 = 0) (hf : (Px.overF L1 L2).2 ≠ 0) :
    Calls Tryd.prog 4 #[.slice a0 len0 cap0, .slice a1 len1 cap1, .slice a2 len2 cap2, .string s3] w fun e w' => e = .returned (.bool true) ∧ Below w.heap.size w w' := by
  have HK : Hid (KAt w) := hkat
  clear hkat
  obtain ⟨hlen0, hprs0, hle0, hroom0, hnil0, heach0⟩ := w0
  have HPR0 : Hid (PrsAt w a0 L0) := hprs0
  have HNL0 : Hid (L0.length = len0) := hlen0
  have HE0 : Hid (∀ p ∈ L0, p.1.length ≤ 140737488355328 ∧ p.2.length ≤ 140737488355328) := fun p hp => by obtain ⟨h1, h2⟩ := heach0 p hp; exact ⟨by omega, by omega⟩
  clear hprs0 hlen0 heach0 hnil0
  obtain ⟨hlen1, hprs1, hle1, hroom1, hnil1, heach1⟩ := w1
  have HPR1 : Hid (PrsAt w a1 L1) := hprs1
  have HNL1 : Hid (L1.length = len1) := hlen1
  have HE1 : Hid (∀ p ∈ L1, p.1.length ≤ 140737488355328 ∧ p.2.length ≤ 140737488355328) := fun p hp => by obtain ⟨h1, h2⟩ := heach1 p hp; exact ⟨by omega, by omega⟩
  clear hprs1 hlen1 heach1 hnil1
  obtain ⟨hlen2, hprs2, hle2, hroom2, hnil2, heach2⟩ := w2
  have HPR2 : Hid (PrsAt w a2 L2) := hprs2
  have HNL2 : Hid (L2.length = len2) := hlen2
  have HE2 : Hid (∀ p ∈ L2, p.1.length ≤ 140737488355328 ∧ p.2.length ≤ 140737488355328) := fun p hp => by obtain ⟨h1, h2⟩ := heach2 p hp; exact ⟨by omega, by omega⟩
  clear hprs2 hlen2 heach2 hnil2
  have HOR : Hid (Px.overF L0 [] = (L0, 0)) := by show _ = _; rw [Px.overF_nil_r, if_pos hg, hg]
  have HOL : Hid (Px.overF [] L0 = (L0, 0)) := by show _ = _; rw [Px.overF_nil_l, if_pos hg, hg]
  obtain ⟨gp, hgp⟩ : ∃ b, Hid (Px.putF L0 = (b, 0, 0)) := ⟨_, Px.put_good hg⟩
  have HO1 : Hid (∀ u, KAt u → PrsAt u a0 L0 → Calls Tryd.prog 11 #[.slice a0 len0 cap0, .slice none 0 0] u fun e w' => OverSays L0 [] e w' ∧ Bw u w') := fun u hku h => by
    have := pover_any a0 none cap0 0 L0 [] (by rw [HNL0.out]; omega) (by simp) (by rw [HNL0.out]; exact hle0) (Nat.le_refl _) HE0.out (fun p hp => by simp at hp) u hku h (prs_nil _ _)
    rw [HNL0.out] at this
    exact this
  have HO2 : Hid (∀ u, KAt u → PrsAt u a0 L0 → Calls Tryd.prog 11 #[.slice none 0 0, .slice a0 len0 cap0] u fun e w' => OverSays [] L0 e w' ∧ Bw u w') := fun u hku h => by
    have := pover_any none a0 0 cap0 [] L0 (by simp) (by rw [HNL0.out]; omega) (Nat.le_refl _) (by rw [HNL0.out]; exact hle0) (fun p hp => by simp at hp) HE0.out u hku (prs_nil _ _) h
    rw [HNL0.out] at this
    exact this
  have HPut : Hid (∀ u, KAt u → PrsAt u a0 L0 → Calls Tryd.prog 12 #[.slice a0 len0 cap0] u fun e w' => PutSays L0 e w' ∧ Bw u w') := fun u hku h => by
    have := pput_any a0 cap0 L0 (by rw [HNL0.out]; omega) (by rw [HNL0.out]; exact hle0) HE0.out u hku h
    rw [HNL0.out] at this
    exact this
  have HO3 : Hid (∀ u, KAt u → PrsAt u a0 L0 → PrsAt u a1 L1 → Calls Tryd.prog 11 #[.slice a0 len0 cap0, .slice a1 len1 cap1] u fun e w' => OverSays L0 L1 e w' ∧ Bw u w') := fun u hku h h' => by
    have := pover_any a0 a1 cap0 cap1 L0 L1 (by rw [HNL0.out]; omega) (by rw [HNL1.out]; omega) (by rw [HNL0.out]; exact hle0) (by rw [HNL1.out]; exact hle1) HE0.out HE1.out u hku h h'
    rw [HNL0.out, HNL1.out] at this
    exact this
  have HO4 : Hid (∀ u, KAt u → PrsAt u a1 L1 → PrsAt u a2 L2 → Calls Tryd.prog 11 #[.slice a1 len1 cap1, .slice a2 len2 cap2] u fun e w' => OverSays L1 L2 e w' ∧ Bw u w') := fun u hku h h' => by
    have := pover_any a1 a2 cap1 cap2 L1 L2 (by rw [HNL1.out]; omega) (by rw [HNL2.out]; omega) (by rw [HNL1.out]; exact hle1) (by rw [HNL2.out]; exact hle2) HE1.out HE2.out u hku h h'
    rw [HNL1.out, HNL2.out] at this
    exact this
  have HPairs : Hid (∀ u A c, PrsAt u A L0 → PrsAt u a0 L0 → Calls Tryd.prog 13 #[.slice A len0 c, .slice a0 len0 cap0] u fun e w' => e = .returned (.bool true) ∧ ∃ q, w' = u.drewN q) := fun u A c h1 h2 => by
    have := pairs9_any A a0 c cap0 L0 L0 (by rw [HNL0.out]; omega) (by rw [HNL0.out]; omega) u h1 h2
    rw [HNL0.out, decide_eq_true rfl] at this
    exact this
  obtain ⟨lm, hlm⟩ : ∃ l, Hid (Px.over L0 L1 = l) := ⟨_, rfl⟩
  have HLM : Hid (Px.overF L0 L1 = (lm, 0)) := by show _ = _; rw [(Px.overF_ok he).2.2.2, hlm.out]
  have hlm64 : lm.length ≤ 64 := by rw [← hlm.out]; exact (Px.overF_ok he).2.2.1
  obtain ⟨llm, hllm⟩ : ∃ l, Hid (lm.length = l) := ⟨_, rfl⟩
  rw [hllm.out] at hlm64
  obtain ⟨f3, hMN⟩ : ∃ e3, Hid (Px.overF L1 L2 = ([], e3)) := ⟨(Px.overF L1 L2).2, by show _ = _; rw [← Px.over_bad hf]⟩
  have hf3 : f3 ≠ 0 := by rw [hMN.out] at hf; exact hf
  have hf3b : f3 ≤ 100 := by have := Px.over_er L1 L2; rw [hMN.out] at this; exact this
  have ff1 : ((f3 : Int) != 0) = true := by rw [bne_iff_ne]; omega
  have ff2 : ((f3 : Int) == 0) = false := by rw [beq_eq_false_iff_ne]; omega
  clear hg he hf
  have tok1 : Hid (w = w) := rfl
  have tok2 : Hid (w = w) := rfl
  have tok3 : Hid (w = w) := rfl
  have tok4 : Hid (w = w) := rfl
  have tok5 : Hid (w = w) := rfl
  have tok6 : Hid (w = w) := rfl
  have tok7 : Hid (w = w) := rfl
  have tok8 : Hid (w = w) := rfl
  have tok9 : Hid (w = w) := rfl
  go_enter Tryd.func4, Tryd.ntmps4
  go_wp2_with (go_at_call 7; refine (awake9_any _ HK.out).mono ?_; rintro e x0 ⟨rfl, hx0⟩)
  go_wp2_with (go_at_call 11; clear tok1; refine (HO1.out _ (HK.out.keep (by repeat (first | assumption | (apply Bw.trans; assumption)))) (HPR0.out.keep hx0)).mono ?_; rintro e x1 ⟨⟨v, rfl, hv⟩, hx1⟩; rw [HOR.out] at hv ⊢; (try dsimp only at hv); obtain ⟨A1, c1, rfl, hc1, hr1⟩ := hv; rw [HNL0.out] at hc1 ⊢)
  go_wp2_with (go_at_call 11; clear tok2; refine (HO2.out _ (HK.out.keep (by repeat (first | assumption | (apply Bw.trans; assumption)))) (HPR0.out.keep (hx0.trans hx1))).mono ?_; rintro e x2 ⟨⟨v, rfl, hv⟩, hx2⟩; rw [HOL.out] at hv ⊢; (try dsimp only at hv); obtain ⟨A2, c2, rfl, hc2, hr2⟩ := hv; rw [HNL0.out] at hc2 ⊢)
  go_wp2_with (go_at_call 12; clear tok3; refine (HPut.out _ (HK.out.keep (by repeat (first | assumption | (apply Bw.trans; assumption)))) (HPR0.out.keep (hx0.trans (hx1.trans hx2)))).mono ?_; rintro e x3 ⟨⟨v, rfl, hv⟩, hx3⟩; rw [hgp.out] at hv ⊢; (try dsimp only at hv); obtain ⟨A3, c3, rfl, hc3, hr3⟩ := hv)
  go_wp2_with (go_at_call 13; clear tok4; refine (HPairs.out _ A1 c1 (hr1.keep (hx2.trans hx3)) (HPR0.out.keep (hx0.trans (hx1.trans (hx2.trans hx3))))).mono ?_; rintro e x4 ⟨rfl, q4, hq4⟩; have hx4 := bw_of_drew hq4; clear hq4)
  go_wp2_with (go_at_call 13; clear tok5; refine (HPairs.out _ A2 c2 (hr2.keep (hx3.trans hx4)) (HPR0.out.keep (hx0.trans (hx1.trans (hx2.trans (hx3.trans hx4)))))).mono ?_; rintro e x5 ⟨rfl, q5, hq5⟩; have hx5 := bw_of_drew hq5; clear hq5)
  go_wp2_with (go_at_call 11; clear tok6; refine (HO3.out _ (HK.out.keep (by repeat (first | assumption | (apply Bw.trans; assumption)))) (HPR0.out.keep (hx0.trans (hx1.trans (hx2.trans (hx3.trans (hx4.trans hx5)))))) (HPR1.out.keep (hx0.trans (hx1.trans (hx2.trans (hx3.trans (hx4.trans hx5))))))).mono ?_; rintro e x6 ⟨⟨v, rfl, hv⟩, hx6⟩; rw [HLM.out] at hv ⊢; (try dsimp only at hv); obtain ⟨A6, c6, rfl, hc6, hr6⟩ := hv; rw [hllm.out] at hc6 ⊢)
  go_wp2_with (go_at_call 11; clear tok7; refine (HO4.out _ (HK.out.keep (by repeat (first | assumption | (apply Bw.trans; assumption)))) (HPR1.out.keep (hx0.trans (hx1.trans (hx2.trans (hx3.trans (hx4.trans (hx5.trans hx6))))))) (HPR2.out.keep (hx0.trans (hx1.trans (hx2.trans (hx3.trans (hx4.trans (hx5.trans hx6)))))))).mono ?_; rintro e x7 ⟨⟨v, rfl, hv⟩, hx7⟩; rw [hMN.out] at hv ⊢; (try dsimp only at hv); obtain ⟨A7, c7, rfl, hc7, hr7⟩ := hv)
  go_ret
  exact ⟨by simp, (hx0.trans (hx1.trans (hx2.trans (hx3.trans (hx4.trans (hx5.trans (hx6.trans hx7)))))))⟩
set_option maxRecDepth 100000 in
set_option maxHeartbeats 4000000 in
theorem laid_yyyy (a0 : Option Addr) (len0 cap0 : Nat) (L0 : List Px.Pr) (a1 : Option Addr) (len1 cap1 : Nat) (L1 : List Px.Pr) (a2 : Option Addr) (len2 cap2 : Nat) (L2 : List Px.Pr) (s3 : ByteArray) (w : World) (hkat : KAt w) (w0 : InPrs w a0 len0 cap0 L0) (w1 : InPrs w a1 len1 cap1 L1) (w2 : InPrs w a2 len2 cap2 L2) (hg : (Px.putF L0).2.2 = 0) (he : (Px.overF L0 L1).2 = 0) (hf : (Px.overF L1 L2).2 = 0) (hk : (Px.findE L1 s3.toList).2 = 0) :
    Calls Tryd.prog 4 #[.slice a0 len0 cap0, .slice a1 len1 cap1, .slice a2 len2 cap2, .string s3] w fun e w' => e = .returned (.bool true) ∧ Below w.heap.size w w' := by
  have HK : Hid (KAt w) := hkat
  clear hkat
  obtain ⟨hlen0, hprs0, hle0, hroom0, hnil0, heach0⟩ := w0
  have HPR0 : Hid (PrsAt w a0 L0) := hprs0
  have HNL0 : Hid (L0.length = len0) := hlen0
  have HE0 : Hid (∀ p ∈ L0, p.1.length ≤ 140737488355328 ∧ p.2.length ≤ 140737488355328) := fun p hp => by obtain ⟨h1, h2⟩ := heach0 p hp; exact ⟨by omega, by omega⟩
  clear hprs0 hlen0 heach0 hnil0
  obtain ⟨hlen1, hprs1, hle1, hroom1, hnil1, heach1⟩ := w1
  have HPR1 : Hid (PrsAt w a1 L1) := hprs1
  have HNL1 : Hid (L1.length = len1) := hlen1
  have HE1 : Hid (∀ p ∈ L1, p.1.length ≤ 140737488355328 ∧ p.2.length ≤ 140737488355328) := fun p hp => by obtain ⟨h1, h2⟩ := heach1 p hp; exact ⟨by omega, by omega⟩
  clear hprs1 hlen1 heach1 hnil1
  obtain ⟨hlen2, hprs2, hle2, hroom2, hnil2, heach2⟩ := w2
  have HPR2 : Hid (PrsAt w a2 L2) := hprs2
  have HNL2 : Hid (L2.length = len2) := hlen2
  have HE2 : Hid (∀ p ∈ L2, p.1.length ≤ 140737488355328 ∧ p.2.length ≤ 140737488355328) := fun p hp => by obtain ⟨h1, h2⟩ := heach2 p hp; exact ⟨by omega, by omega⟩
  clear hprs2 hlen2 heach2 hnil2
  have HOR : Hid (Px.overF L0 [] = (L0, 0)) := by show _ = _; rw [Px.overF_nil_r, if_pos hg, hg]
  have HOL : Hid (Px.overF [] L0 = (L0, 0)) := by show _ = _; rw [Px.overF_nil_l, if_pos hg, hg]
  obtain ⟨gp, hgp⟩ : ∃ b, Hid (Px.putF L0 = (b, 0, 0)) := ⟨_, Px.put_good hg⟩
  have HO1 : Hid (∀ u, KAt u → PrsAt u a0 L0 → Calls Tryd.prog 11 #[.slice a0 len0 cap0, .slice none 0 0] u fun e w' => OverSays L0 [] e w' ∧ Bw u w') := fun u hku h => by
    have := pover_any a0 none cap0 0 L0 [] (by rw [HNL0.out]; omega) (by simp) (by rw [HNL0.out]; exact hle0) (Nat.le_refl _) HE0.out (fun p hp => by simp at hp) u hku h (prs_nil _ _)
    rw [HNL0.out] at this
    exact this
  have HO2 : Hid (∀ u, KAt u → PrsAt u a0 L0 → Calls Tryd.prog 11 #[.slice none 0 0, .slice a0 len0 cap0] u fun e w' => OverSays [] L0 e w' ∧ Bw u w') := fun u hku h => by
    have := pover_any none a0 0 cap0 [] L0 (by simp) (by rw [HNL0.out]; omega) (Nat.le_refl _) (by rw [HNL0.out]; exact hle0) (fun p hp => by simp at hp) HE0.out u hku (prs_nil _ _) h
    rw [HNL0.out] at this
    exact this
  have HPut : Hid (∀ u, KAt u → PrsAt u a0 L0 → Calls Tryd.prog 12 #[.slice a0 len0 cap0] u fun e w' => PutSays L0 e w' ∧ Bw u w') := fun u hku h => by
    have := pput_any a0 cap0 L0 (by rw [HNL0.out]; omega) (by rw [HNL0.out]; exact hle0) HE0.out u hku h
    rw [HNL0.out] at this
    exact this
  have HO3 : Hid (∀ u, KAt u → PrsAt u a0 L0 → PrsAt u a1 L1 → Calls Tryd.prog 11 #[.slice a0 len0 cap0, .slice a1 len1 cap1] u fun e w' => OverSays L0 L1 e w' ∧ Bw u w') := fun u hku h h' => by
    have := pover_any a0 a1 cap0 cap1 L0 L1 (by rw [HNL0.out]; omega) (by rw [HNL1.out]; omega) (by rw [HNL0.out]; exact hle0) (by rw [HNL1.out]; exact hle1) HE0.out HE1.out u hku h h'
    rw [HNL0.out, HNL1.out] at this
    exact this
  have HO4 : Hid (∀ u, KAt u → PrsAt u a1 L1 → PrsAt u a2 L2 → Calls Tryd.prog 11 #[.slice a1 len1 cap1, .slice a2 len2 cap2] u fun e w' => OverSays L1 L2 e w' ∧ Bw u w') := fun u hku h h' => by
    have := pover_any a1 a2 cap1 cap2 L1 L2 (by rw [HNL1.out]; omega) (by rw [HNL2.out]; omega) (by rw [HNL1.out]; exact hle1) (by rw [HNL2.out]; exact hle2) HE1.out HE2.out u hku h h'
    rw [HNL1.out, HNL2.out] at this
    exact this
  have HPairs : Hid (∀ u A c, PrsAt u A L0 → PrsAt u a0 L0 → Calls Tryd.prog 13 #[.slice A len0 c, .slice a0 len0 cap0] u fun e w' => e = .returned (.bool true) ∧ ∃ q, w' = u.drewN q) := fun u A c h1 h2 => by
    have := pairs9_any A a0 c cap0 L0 L0 (by rw [HNL0.out]; omega) (by rw [HNL0.out]; omega) u h1 h2
    rw [HNL0.out, decide_eq_true rfl] at this
    exact this
  obtain ⟨lm, hlm⟩ : ∃ l, Hid (Px.over L0 L1 = l) := ⟨_, rfl⟩
  have HLM : Hid (Px.overF L0 L1 = (lm, 0)) := by show _ = _; rw [(Px.overF_ok he).2.2.2, hlm.out]
  have hlm64 : lm.length ≤ 64 := by rw [← hlm.out]; exact (Px.overF_ok he).2.2.1
  obtain ⟨llm, hllm⟩ : ∃ l, Hid (lm.length = l) := ⟨_, rfl⟩
  rw [hllm.out] at hlm64
  obtain ⟨mn, hmn⟩ : ∃ l, Hid (Px.over L1 L2 = l) := ⟨_, rfl⟩
  have HMN : Hid (Px.overF L1 L2 = (mn, 0)) := by show _ = _; rw [(Px.overF_ok hf).2.2.2, hmn.out]
  have hmn64 : mn.length ≤ 64 := by rw [← hmn.out]; exact (Px.overF_ok hf).2.2.1
  obtain ⟨lmn, hlmn⟩ : ∃ l, Hid (mn.length = l) := ⟨_, rfl⟩
  rw [hlmn.out] at hmn64
  have HSlm : Hid (∀ p ∈ lm, p.1.length ≤ 140737488355328 ∧ p.2.length ≤ 140737488355328) := by rw [← hlm.out]; exact Px.small_of_put (Px.put_over (Px.overF_ok he).1 (Px.overF_ok he).2.1 (Px.overF_ok he).2.2.1)
  have HSmn : Hid (∀ p ∈ mn, p.1.length ≤ 140737488355328 ∧ p.2.length ≤ 140737488355328) := by rw [← hmn.out]; exact Px.small_of_put (Px.put_over (Px.overF_ok hf).1 (Px.overF_ok hf).2.1 (Px.overF_ok hf).2.2.1)
  obtain ⟨r3, h3, hR3⟩ : ∃ r e, Hid (Px.overF lm L2 = (r, e)) := ⟨_, _, show Px.overF lm L2 = _ from rfl⟩
  have hR4 : Hid (Px.overF L0 mn = (r3, h3)) := by show _ = _; rw [← hmn.out, ← Px.laid3 he hf, hlm.out, hR3.out]
  have h3b : h3 ≤ 100 := by have := Px.over_er lm L2; rw [hR3.out] at this; exact this
  have hr3l : r3.length ≤ 64 := by
    by_cases h : (Px.overF lm L2).2 = 0
    · have := (Px.overF_ok h).2.2
      have e4 := this.2
      rw [hR3.out, Prod.mk.injEq] at e4
      rw [e4.1]; exact this.1
    · have := Px.over_bad h
      rw [hR3.out] at this
      dsimp only at this
      rw [this]; exact Nat.zero_le _
  obtain ⟨l3, hl3⟩ : ∃ l, Hid (r3.length = l) := ⟨_, rfl⟩
  rw [hl3.out] at hr3l
  have HO5 : Hid (∀ u A c, KAt u → llm ≤ c → PrsAt u A lm → PrsAt u a2 L2 → Calls Tryd.prog 11 #[.slice A llm c, .slice a2 len2 cap2] u fun e w' => OverSays lm L2 e w' ∧ Bw u w') := fun u A c hku hc h h' => by
    have := pover_any A a2 c cap2 lm L2 (by rw [hllm.out]; omega) (by rw [HNL2.out]; omega) (by rw [hllm.out]; exact hc) (by rw [HNL2.out]; exact hle2) HSlm.out HE2.out u hku h h'
    rw [hllm.out, HNL2.out] at this
    exact this
  have HO6 : Hid (∀ u A c, KAt u → lmn ≤ c → PrsAt u a0 L0 → PrsAt u A mn → Calls Tryd.prog 11 #[.slice a0 len0 cap0, .slice A lmn c] u fun e w' => OverSays L0 mn e w' ∧ Bw u w') := fun u A c hku hc h h' => by
    have := pover_any a0 A cap0 c L0 mn (by rw [HNL0.out]; omega) (by rw [hlmn.out]; omega) (by rw [HNL0.out]; exact hle0) (by rw [hlmn.out]; exact hc) HE0.out HSmn.out u hku h h'
    rw [HNL0.out, hlmn.out] at this
    exact this
  have HP3 : Hid (∀ u A c A' c', PrsAt u A r3 → PrsAt u A' r3 → Calls Tryd.prog 13 #[.slice A l3 c, .slice A' l3 c'] u fun e w' => e = .returned (.bool true) ∧ ∃ q, w' = u.drewN q) := fun u A c A' c' h1 h2 => by
    have := pairs9_any A A' c c' r3 r3 (by rw [hl3.out]; omega) (by rw [hl3.out]; omega) u h1 h2
    rw [hl3.out, decide_eq_true rfl] at this
    exact this
  obtain ⟨fv, fe, hFM⟩ : ∃ v e, Hid (Px.findE L1 s3.toList = (v, e)) := ⟨_, _, show Px.findE L1 s3.toList = _ from rfl⟩
  have hfeb : fe ≤ 4 := by have := Px.findE_er L1 s3.toList; rw [hFM.out] at this; exact this
  have HFl := Px.find_laid he s3.toList
  rw [hlm.out] at HFl
  have hfe0 : Hid (fe = 0) := by rw [hFM.out] at hk; exact hk
  have HFL : Hid (Px.findE lm s3.toList = (fv, fe)) := by show _ = _; rw [HFl, if_pos hk, hFM.out]
  have ke : ((fe : Int) != 0) = false := by rw [bne_eq_false_iff_eq]; have := hfe0.out; omega
  clear HFl
  have HF1 : Hid (∀ u A c, PrsAt u A lm → Calls Tryd.prog 14 #[.slice A llm c, .string s3] u fun e w' => e = .returned (.tuple #[.string (Nm.S fv), .int .i64 (fe : Int)]) ∧ Bw u w') := fun u A c h => by
    have := pfind_any A c lm s3.toList (by rw [hllm.out]; omega) u h
    rw [hllm.out, Nm.S_toList, HFL.out] at this
    exact this
  have HF2 : Hid (∀ u, PrsAt u a1 L1 → Calls Tryd.prog 14 #[.slice a1 len1 cap1, .string s3] u fun e w' => e = .returned (.tuple #[.string (Nm.S fv), .int .i64 (fe : Int)]) ∧ Bw u w') := fun u h => by
    have := pfind_any a1 cap1 L1 s3.toList (by rw [HNL1.out]; omega) u h
    rw [HNL1.out, Nm.S_toList, hFM.out] at this
    exact this
  clear hg he hf hk
  have tok1 : Hid (w = w) := rfl
  have tok2 : Hid (w = w) := rfl
  have tok3 : Hid (w = w) := rfl
  have tok4 : Hid (w = w) := rfl
  have tok5 : Hid (w = w) := rfl
  have tok6 : Hid (w = w) := rfl
  have tok7 : Hid (w = w) := rfl
  have tok8 : Hid (w = w) := rfl
  have tok9 : Hid (w = w) := rfl
  go_enter Tryd.func4, Tryd.ntmps4
  go_wp2_with (go_at_call 7; refine (awake9_any _ HK.out).mono ?_; rintro e x0 ⟨rfl, hx0⟩)
  go_wp2_with (go_at_call 11; clear tok1; refine (HO1.out _ (HK.out.keep (by repeat (first | assumption | (apply Bw.trans; assumption)))) (HPR0.out.keep hx0)).mono ?_; rintro e x1 ⟨⟨v, rfl, hv⟩, hx1⟩; rw [HOR.out] at hv ⊢; (try dsimp only at hv); obtain ⟨A1, c1, rfl, hc1, hr1⟩ := hv; rw [HNL0.out] at hc1 ⊢)
  go_wp2_with (go_at_call 11; clear tok2; refine (HO2.out _ (HK.out.keep (by repeat (first | assumption | (apply Bw.trans; assumption)))) (HPR0.out.keep (hx0.trans hx1))).mono ?_; rintro e x2 ⟨⟨v, rfl, hv⟩, hx2⟩; rw [HOL.out] at hv ⊢; (try dsimp only at hv); obtain ⟨A2, c2, rfl, hc2, hr2⟩ := hv; rw [HNL0.out] at hc2 ⊢)
  go_wp2_with (go_at_call 12; clear tok3; refine (HPut.out _ (HK.out.keep (by repeat (first | assumption | (apply Bw.trans; assumption)))) (HPR0.out.keep (hx0.trans (hx1.trans hx2)))).mono ?_; rintro e x3 ⟨⟨v, rfl, hv⟩, hx3⟩; rw [hgp.out] at hv ⊢; (try dsimp only at hv); obtain ⟨A3, c3, rfl, hc3, hr3⟩ := hv)
  go_wp2_with (go_at_call 13; clear tok4; refine (HPairs.out _ A1 c1 (hr1.keep (hx2.trans hx3)) (HPR0.out.keep (hx0.trans (hx1.trans (hx2.trans hx3))))).mono ?_; rintro e x4 ⟨rfl, q4, hq4⟩; have hx4 := bw_of_drew hq4; clear hq4)
  go_wp2_with (go_at_call 13; clear tok5; refine (HPairs.out _ A2 c2 (hr2.keep (hx3.trans hx4)) (HPR0.out.keep (hx0.trans (hx1.trans (hx2.trans (hx3.trans hx4)))))).mono ?_; rintro e x5 ⟨rfl, q5, hq5⟩; have hx5 := bw_of_drew hq5; clear hq5)
  go_wp2_with (go_at_call 11; clear tok6; refine (HO3.out _ (HK.out.keep (by repeat (first | assumption | (apply Bw.trans; assumption)))) (HPR0.out.keep (hx0.trans (hx1.trans (hx2.trans (hx3.trans (hx4.trans hx5)))))) (HPR1.out.keep (hx0.trans (hx1.trans (hx2.trans (hx3.trans (hx4.trans hx5))))))).mono ?_; rintro e x6 ⟨⟨v, rfl, hv⟩, hx6⟩; rw [HLM.out] at hv ⊢; (try dsimp only at hv); obtain ⟨A6, c6, rfl, hc6, hr6⟩ := hv; rw [hllm.out] at hc6 ⊢)
  go_wp2_with (go_at_call 11; clear tok7; refine (HO4.out _ (HK.out.keep (by repeat (first | assumption | (apply Bw.trans; assumption)))) (HPR1.out.keep (hx0.trans (hx1.trans (hx2.trans (hx3.trans (hx4.trans (hx5.trans hx6))))))) (HPR2.out.keep (hx0.trans (hx1.trans (hx2.trans (hx3.trans (hx4.trans (hx5.trans hx6)))))))).mono ?_; rintro e x7 ⟨⟨v, rfl, hv⟩, hx7⟩; rw [HMN.out] at hv ⊢; (try dsimp only at hv); obtain ⟨A7, c7, rfl, hc7, hr7⟩ := hv; rw [hlmn.out] at hc7 ⊢)
  go_wp2_with (go_at_call 11; clear tok8; refine (HO5.out _ A6 c6 (HK.out.keep (by repeat (first | assumption | (apply Bw.trans; assumption)))) (by omega) (hr6.keep hx7) (HPR2.out.keep (hx0.trans (hx1.trans (hx2.trans (hx3.trans (hx4.trans (hx5.trans (hx6.trans hx7))))))))).mono ?_; rintro e x8 ⟨⟨v, rfl, hv⟩, hx8⟩; rw [hR3.out] at hv ⊢; (try dsimp only at hv); obtain ⟨A8, c8, rfl, hc8, hr8⟩ := hv; rw [hl3.out] at hc8 ⊢)
  go_wp2_with (go_at_call 11; clear tok9; refine (HO6.out _ A7 c7 (HK.out.keep (by repeat (first | assumption | (apply Bw.trans; assumption)))) (by omega) (HPR0.out.keep (hx0.trans (hx1.trans (hx2.trans (hx3.trans (hx4.trans (hx5.trans (hx6.trans (hx7.trans hx8))))))))) (hr7.keep hx8)).mono ?_; rintro e x9 ⟨⟨v, rfl, hv⟩, hx9⟩; rw [hR4.out] at hv ⊢; (try dsimp only at hv); obtain ⟨A9, c9, rfl, hc9, hr9⟩ := hv; rw [hl3.out] at hc9 ⊢)
  go_wp2_with (go_at_call 13; refine (HP3.out _ A8 c8 A9 c9 (hr8.keep hx9) hr9).mono ?_; rintro e y1 ⟨rfl, q1, hq1⟩; have hy1 := bw_of_drew hq1; clear hq1)
  have tokA : Hid (w = w) := rfl
  have tokB : Hid (w = w) := rfl
  go_wp2_with (go_at_call 14; clear tokA; refine (HF1.out _ A6 c6 (hr6.keep (hx7.trans (hx8.trans (hx9.trans hy1))))).mono ?_; rintro e y2 ⟨rfl, hy2⟩)
  go_wp2_with (go_at_call 14; clear tokB; refine (HF2.out _ (HPR1.out.keep (hx0.trans (hx1.trans (hx2.trans (hx3.trans (hx4.trans (hx5.trans (hx6.trans (hx7.trans (hx8.trans (hx9.trans (hy1.trans hy2))))))))))))).mono ?_; rintro e y3 ⟨rfl, hy3⟩)
  go_ret
  exact ⟨by simp, (hx0.trans (hx1.trans (hx2.trans (hx3.trans (hx4.trans (hx5.trans (hx6.trans (hx7.trans (hx8.trans (hx9.trans (hy1.trans (hy2.trans hy3))))))))))))⟩
set_option maxRecDepth 100000 in
set_option maxHeartbeats 4000000 in
theorem laid_yyyx (a0 : Option Addr) (len0 cap0 : Nat) (L0 : List Px.Pr) (a1 : Option Addr) (len1 cap1 : Nat) (L1 : List Px.Pr) (a2 : Option Addr) (len2 cap2 : Nat) (L2 : List Px.Pr) (s3 : ByteArray) (w : World) (hkat : KAt w) (w0 : InPrs w a0 len0 cap0 L0) (w1 : InPrs w a1 len1 cap1 L1) (w2 : InPrs w a2 len2 cap2 L2) (hg : (Px.putF L0).2.2 = 0) (he : (Px.overF L0 L1).2 = 0) (hf : (Px.overF L1 L2).2 = 0) (hk : (Px.findE L1 s3.toList).2 ≠ 0) :
    Calls Tryd.prog 4 #[.slice a0 len0 cap0, .slice a1 len1 cap1, .slice a2 len2 cap2, .string s3] w fun e w' => e = .returned (.bool true) ∧ Below w.heap.size w w' := by
  have HK : Hid (KAt w) := hkat
  clear hkat
  obtain ⟨hlen0, hprs0, hle0, hroom0, hnil0, heach0⟩ := w0
  have HPR0 : Hid (PrsAt w a0 L0) := hprs0
  have HNL0 : Hid (L0.length = len0) := hlen0
  have HE0 : Hid (∀ p ∈ L0, p.1.length ≤ 140737488355328 ∧ p.2.length ≤ 140737488355328) := fun p hp => by obtain ⟨h1, h2⟩ := heach0 p hp; exact ⟨by omega, by omega⟩
  clear hprs0 hlen0 heach0 hnil0
  obtain ⟨hlen1, hprs1, hle1, hroom1, hnil1, heach1⟩ := w1
  have HPR1 : Hid (PrsAt w a1 L1) := hprs1
  have HNL1 : Hid (L1.length = len1) := hlen1
  have HE1 : Hid (∀ p ∈ L1, p.1.length ≤ 140737488355328 ∧ p.2.length ≤ 140737488355328) := fun p hp => by obtain ⟨h1, h2⟩ := heach1 p hp; exact ⟨by omega, by omega⟩
  clear hprs1 hlen1 heach1 hnil1
  obtain ⟨hlen2, hprs2, hle2, hroom2, hnil2, heach2⟩ := w2
  have HPR2 : Hid (PrsAt w a2 L2) := hprs2
  have HNL2 : Hid (L2.length = len2) := hlen2
  have HE2 : Hid (∀ p ∈ L2, p.1.length ≤ 140737488355328 ∧ p.2.length ≤ 140737488355328) := fun p hp => by obtain ⟨h1, h2⟩ := heach2 p hp; exact ⟨by omega, by omega⟩
  clear hprs2 hlen2 heach2 hnil2
  have HOR : Hid (Px.overF L0 [] = (L0, 0)) := by show _ = _; rw [Px.overF_nil_r, if_pos hg, hg]
  have HOL : Hid (Px.overF [] L0 = (L0, 0)) := by show _ = _; rw [Px.overF_nil_l, if_pos hg, hg]
  obtain ⟨gp, hgp⟩ : ∃ b, Hid (Px.putF L0 = (b, 0, 0)) := ⟨_, Px.put_good hg⟩
  have HO1 : Hid (∀ u, KAt u → PrsAt u a0 L0 → Calls Tryd.prog 11 #[.slice a0 len0 cap0, .slice none 0 0] u fun e w' => OverSays L0 [] e w' ∧ Bw u w') := fun u hku h => by
    have := pover_any a0 none cap0 0 L0 [] (by rw [HNL0.out]; omega) (by simp) (by rw [HNL0.out]; exact hle0) (Nat.le_refl _) HE0.out (fun p hp => by simp at hp) u hku h (prs_nil _ _)
    rw [HNL0.out] at this
    exact this
  have HO2 : Hid (∀ u, KAt u → PrsAt u a0 L0 → Calls Tryd.prog 11 #[.slice none 0 0, .slice a0 len0 cap0] u fun e w' => OverSays [] L0 e w' ∧ Bw u w') := fun u hku h => by
    have := pover_any none a0 0 cap0 [] L0 (by simp) (by rw [HNL0.out]; omega) (Nat.le_refl _) (by rw [HNL0.out]; exact hle0) (fun p hp => by simp at hp) HE0.out u hku (prs_nil _ _) h
    rw [HNL0.out] at this
    exact this
  have HPut : Hid (∀ u, KAt u → PrsAt u a0 L0 → Calls Tryd.prog 12 #[.slice a0 len0 cap0] u fun e w' => PutSays L0 e w' ∧ Bw u w') := fun u hku h => by
    have := pput_any a0 cap0 L0 (by rw [HNL0.out]; omega) (by rw [HNL0.out]; exact hle0) HE0.out u hku h
    rw [HNL0.out] at this
    exact this
  have HO3 : Hid (∀ u, KAt u → PrsAt u a0 L0 → PrsAt u a1 L1 → Calls Tryd.prog 11 #[.slice a0 len0 cap0, .slice a1 len1 cap1] u fun e w' => OverSays L0 L1 e w' ∧ Bw u w') := fun u hku h h' => by
    have := pover_any a0 a1 cap0 cap1 L0 L1 (by rw [HNL0.out]; omega) (by rw [HNL1.out]; omega) (by rw [HNL0.out]; exact hle0) (by rw [HNL1.out]; exact hle1) HE0.out HE1.out u hku h h'
    rw [HNL0.out, HNL1.out] at this
    exact this
  have HO4 : Hid (∀ u, KAt u → PrsAt u a1 L1 → PrsAt u a2 L2 → Calls Tryd.prog 11 #[.slice a1 len1 cap1, .slice a2 len2 cap2] u fun e w' => OverSays L1 L2 e w' ∧ Bw u w') := fun u hku h h' => by
    have := pover_any a1 a2 cap1 cap2 L1 L2 (by rw [HNL1.out]; omega) (by rw [HNL2.out]; omega) (by rw [HNL1.out]; exact hle1) (by rw [HNL2.out]; exact hle2) HE1.out HE2.out u hku h h'
    rw [HNL1.out, HNL2.out] at this
    exact this
  have HPairs : Hid (∀ u A c, PrsAt u A L0 → PrsAt u a0 L0 → Calls Tryd.prog 13 #[.slice A len0 c, .slice a0 len0 cap0] u fun e w' => e = .returned (.bool true) ∧ ∃ q, w' = u.drewN q) := fun u A c h1 h2 => by
    have := pairs9_any A a0 c cap0 L0 L0 (by rw [HNL0.out]; omega) (by rw [HNL0.out]; omega) u h1 h2
    rw [HNL0.out, decide_eq_true rfl] at this
    exact this
  obtain ⟨lm, hlm⟩ : ∃ l, Hid (Px.over L0 L1 = l) := ⟨_, rfl⟩
  have HLM : Hid (Px.overF L0 L1 = (lm, 0)) := by show _ = _; rw [(Px.overF_ok he).2.2.2, hlm.out]
  have hlm64 : lm.length ≤ 64 := by rw [← hlm.out]; exact (Px.overF_ok he).2.2.1
  obtain ⟨llm, hllm⟩ : ∃ l, Hid (lm.length = l) := ⟨_, rfl⟩
  rw [hllm.out] at hlm64
  obtain ⟨mn, hmn⟩ : ∃ l, Hid (Px.over L1 L2 = l) := ⟨_, rfl⟩
  have HMN : Hid (Px.overF L1 L2 = (mn, 0)) := by show _ = _; rw [(Px.overF_ok hf).2.2.2, hmn.out]
  have hmn64 : mn.length ≤ 64 := by rw [← hmn.out]; exact (Px.overF_ok hf).2.2.1
  obtain ⟨lmn, hlmn⟩ : ∃ l, Hid (mn.length = l) := ⟨_, rfl⟩
  rw [hlmn.out] at hmn64
  have HSlm : Hid (∀ p ∈ lm, p.1.length ≤ 140737488355328 ∧ p.2.length ≤ 140737488355328) := by rw [← hlm.out]; exact Px.small_of_put (Px.put_over (Px.overF_ok he).1 (Px.overF_ok he).2.1 (Px.overF_ok he).2.2.1)
  have HSmn : Hid (∀ p ∈ mn, p.1.length ≤ 140737488355328 ∧ p.2.length ≤ 140737488355328) := by rw [← hmn.out]; exact Px.small_of_put (Px.put_over (Px.overF_ok hf).1 (Px.overF_ok hf).2.1 (Px.overF_ok hf).2.2.1)
  obtain ⟨r3, h3, hR3⟩ : ∃ r e, Hid (Px.overF lm L2 = (r, e)) := ⟨_, _, show Px.overF lm L2 = _ from rfl⟩
  have hR4 : Hid (Px.overF L0 mn = (r3, h3)) := by show _ = _; rw [← hmn.out, ← Px.laid3 he hf, hlm.out, hR3.out]
  have h3b : h3 ≤ 100 := by have := Px.over_er lm L2; rw [hR3.out] at this; exact this
  have hr3l : r3.length ≤ 64 := by
    by_cases h : (Px.overF lm L2).2 = 0
    · have := (Px.overF_ok h).2.2
      have e4 := this.2
      rw [hR3.out, Prod.mk.injEq] at e4
      rw [e4.1]; exact this.1
    · have := Px.over_bad h
      rw [hR3.out] at this
      dsimp only at this
      rw [this]; exact Nat.zero_le _
  obtain ⟨l3, hl3⟩ : ∃ l, Hid (r3.length = l) := ⟨_, rfl⟩
  rw [hl3.out] at hr3l
  have HO5 : Hid (∀ u A c, KAt u → llm ≤ c → PrsAt u A lm → PrsAt u a2 L2 → Calls Tryd.prog 11 #[.slice A llm c, .slice a2 len2 cap2] u fun e w' => OverSays lm L2 e w' ∧ Bw u w') := fun u A c hku hc h h' => by
    have := pover_any A a2 c cap2 lm L2 (by rw [hllm.out]; omega) (by rw [HNL2.out]; omega) (by rw [hllm.out]; exact hc) (by rw [HNL2.out]; exact hle2) HSlm.out HE2.out u hku h h'
    rw [hllm.out, HNL2.out] at this
    exact this
  have HO6 : Hid (∀ u A c, KAt u → lmn ≤ c → PrsAt u a0 L0 → PrsAt u A mn → Calls Tryd.prog 11 #[.slice a0 len0 cap0, .slice A lmn c] u fun e w' => OverSays L0 mn e w' ∧ Bw u w') := fun u A c hku hc h h' => by
    have := pover_any a0 A cap0 c L0 mn (by rw [HNL0.out]; omega) (by rw [hlmn.out]; omega) (by rw [HNL0.out]; exact hle0) (by rw [hlmn.out]; exact hc) HE0.out HSmn.out u hku h h'
    rw [HNL0.out, hlmn.out] at this
    exact this
  have HP3 : Hid (∀ u A c A' c', PrsAt u A r3 → PrsAt u A' r3 → Calls Tryd.prog 13 #[.slice A l3 c, .slice A' l3 c'] u fun e w' => e = .returned (.bool true) ∧ ∃ q, w' = u.drewN q) := fun u A c A' c' h1 h2 => by
    have := pairs9_any A A' c c' r3 r3 (by rw [hl3.out]; omega) (by rw [hl3.out]; omega) u h1 h2
    rw [hl3.out, decide_eq_true rfl] at this
    exact this
  obtain ⟨fv, fe, hFM⟩ : ∃ v e, Hid (Px.findE L1 s3.toList = (v, e)) := ⟨_, _, show Px.findE L1 s3.toList = _ from rfl⟩
  have hfeb : fe ≤ 4 := by have := Px.findE_er L1 s3.toList; rw [hFM.out] at this; exact this
  have HFl := Px.find_laid he s3.toList
  rw [hlm.out] at HFl
  have hfe0 : Hid (fe ≠ 0) := by rw [hFM.out] at hk; exact hk
  obtain ⟨gv, ge, hFL0⟩ : ∃ v e, Hid (Px.findE L0 s3.toList = (v, e)) := ⟨_, _, show Px.findE L0 s3.toList = _ from rfl⟩
  have hgeb : ge ≤ 4 := by have := Px.findE_er L0 s3.toList; rw [hFL0.out] at this; exact this
  have HFL : Hid (Px.findE lm s3.toList = (gv, ge)) := by show _ = _; rw [HFl, if_neg hk, hFL0.out]
  have ke : ((fe : Int) != 0) = true := by rw [bne_iff_ne]; have := hfe0.out; omega
  clear HFl
  have HF1 : Hid (∀ u A c, PrsAt u A lm → Calls Tryd.prog 14 #[.slice A llm c, .string s3] u fun e w' => e = .returned (.tuple #[.string (Nm.S gv), .int .i64 (ge : Int)]) ∧ Bw u w') := fun u A c h => by
    have := pfind_any A c lm s3.toList (by rw [hllm.out]; omega) u h
    rw [hllm.out, Nm.S_toList, HFL.out] at this
    exact this
  have HF2 : Hid (∀ u, PrsAt u a1 L1 → Calls Tryd.prog 14 #[.slice a1 len1 cap1, .string s3] u fun e w' => e = .returned (.tuple #[.string (Nm.S fv), .int .i64 (fe : Int)]) ∧ Bw u w') := fun u h => by
    have := pfind_any a1 cap1 L1 s3.toList (by rw [HNL1.out]; omega) u h
    rw [HNL1.out, Nm.S_toList, hFM.out] at this
    exact this
  have HF3 : Hid (∀ u, PrsAt u a0 L0 → Calls Tryd.prog 14 #[.slice a0 len0 cap0, .string s3] u fun e w' => e = .returned (.tuple #[.string (Nm.S gv), .int .i64 (ge : Int)]) ∧ Bw u w') := fun u h => by
    have := pfind_any a0 cap0 L0 s3.toList (by rw [HNL0.out]; omega) u h
    rw [HNL0.out, Nm.S_toList, hFL0.out] at this
    exact this
  clear hg he hf hk
  have tok1 : Hid (w = w) := rfl
  have tok2 : Hid (w = w) := rfl
  have tok3 : Hid (w = w) := rfl
  have tok4 : Hid (w = w) := rfl
  have tok5 : Hid (w = w) := rfl
  have tok6 : Hid (w = w) := rfl
  have tok7 : Hid (w = w) := rfl
  have tok8 : Hid (w = w) := rfl
  have tok9 : Hid (w = w) := rfl
  go_enter Tryd.func4, Tryd.ntmps4
  go_wp2_with (go_at_call 7; refine (awake9_any _ HK.out).mono ?_; rintro e x0 ⟨rfl, hx0⟩)
  go_wp2_with (go_at_call 11; clear tok1; refine (HO1.out _ (HK.out.keep (by repeat (first | assumption | (apply Bw.trans; assumption)))) (HPR0.out.keep hx0)).mono ?_; rintro e x1 ⟨⟨v, rfl, hv⟩, hx1⟩; rw [HOR.out] at hv ⊢; (try dsimp only at hv); obtain ⟨A1, c1, rfl, hc1, hr1⟩ := hv; rw [HNL0.out] at hc1 ⊢)
  go_wp2_with (go_at_call 11; clear tok2; refine (HO2.out _ (HK.out.keep (by repeat (first | assumption | (apply Bw.trans; assumption)))) (HPR0.out.keep (hx0.trans hx1))).mono ?_; rintro e x2 ⟨⟨v, rfl, hv⟩, hx2⟩; rw [HOL.out] at hv ⊢; (try dsimp only at hv); obtain ⟨A2, c2, rfl, hc2, hr2⟩ := hv; rw [HNL0.out] at hc2 ⊢)
  go_wp2_with (go_at_call 12; clear tok3; refine (HPut.out _ (HK.out.keep (by repeat (first | assumption | (apply Bw.trans; assumption)))) (HPR0.out.keep (hx0.trans (hx1.trans hx2)))).mono ?_; rintro e x3 ⟨⟨v, rfl, hv⟩, hx3⟩; rw [hgp.out] at hv ⊢; (try dsimp only at hv); obtain ⟨A3, c3, rfl, hc3, hr3⟩ := hv)
  go_wp2_with (go_at_call 13; clear tok4; refine (HPairs.out _ A1 c1 (hr1.keep (hx2.trans hx3)) (HPR0.out.keep (hx0.trans (hx1.trans (hx2.trans hx3))))).mono ?_; rintro e x4 ⟨rfl, q4, hq4⟩; have hx4 := bw_of_drew hq4; clear hq4)
  go_wp2_with (go_at_call 13; clear tok5; refine (HPairs.out _ A2 c2 (hr2.keep (hx3.trans hx4)) (HPR0.out.keep (hx0.trans (hx1.trans (hx2.trans (hx3.trans hx4)))))).mono ?_; rintro e x5 ⟨rfl, q5, hq5⟩; have hx5 := bw_of_drew hq5; clear hq5)
  go_wp2_with (go_at_call 11; clear tok6; refine (HO3.out _ (HK.out.keep (by repeat (first | assumption | (apply Bw.trans; assumption)))) (HPR0.out.keep (hx0.trans (hx1.trans (hx2.trans (hx3.trans (hx4.trans hx5)))))) (HPR1.out.keep (hx0.trans (hx1.trans (hx2.trans (hx3.trans (hx4.trans hx5))))))).mono ?_; rintro e x6 ⟨⟨v, rfl, hv⟩, hx6⟩; rw [HLM.out] at hv ⊢; (try dsimp only at hv); obtain ⟨A6, c6, rfl, hc6, hr6⟩ := hv; rw [hllm.out] at hc6 ⊢)
  go_wp2_with (go_at_call 11; clear tok7; refine (HO4.out _ (HK.out.keep (by repeat (first | assumption | (apply Bw.trans; assumption)))) (HPR1.out.keep (hx0.trans (hx1.trans (hx2.trans (hx3.trans (hx4.trans (hx5.trans hx6))))))) (HPR2.out.keep (hx0.trans (hx1.trans (hx2.trans (hx3.trans (hx4.trans (hx5.trans hx6)))))))).mono ?_; rintro e x7 ⟨⟨v, rfl, hv⟩, hx7⟩; rw [HMN.out] at hv ⊢; (try dsimp only at hv); obtain ⟨A7, c7, rfl, hc7, hr7⟩ := hv; rw [hlmn.out] at hc7 ⊢)
  go_wp2_with (go_at_call 11; clear tok8; refine (HO5.out _ A6 c6 (HK.out.keep (by repeat (first | assumption | (apply Bw.trans; assumption)))) (by omega) (hr6.keep hx7) (HPR2.out.keep (hx0.trans (hx1.trans (hx2.trans (hx3.trans (hx4.trans (hx5.trans (hx6.trans hx7))))))))).mono ?_; rintro e x8 ⟨⟨v, rfl, hv⟩, hx8⟩; rw [hR3.out] at hv ⊢; (try dsimp only at hv); obtain ⟨A8, c8, rfl, hc8, hr8⟩ := hv; rw [hl3.out] at hc8 ⊢)
  go_wp2_with (go_at_call 11; clear tok9; refine (HO6.out _ A7 c7 (HK.out.keep (by repeat (first | assumption | (apply Bw.trans; assumption)))) (by omega) (HPR0.out.keep (hx0.trans (hx1.trans (hx2.trans (hx3.trans (hx4.trans (hx5.trans (hx6.trans (hx7.trans hx8))))))))) (hr7.keep hx8)).mono ?_; rintro e x9 ⟨⟨v, rfl, hv⟩, hx9⟩; rw [hR4.out] at hv ⊢; (try dsimp only at hv); obtain ⟨A9, c9, rfl, hc9, hr9⟩ := hv; rw [hl3.out] at hc9 ⊢)
  go_wp2_with (go_at_call 13; refine (HP3.out _ A8 c8 A9 c9 (hr8.keep hx9) hr9).mono ?_; rintro e y1 ⟨rfl, q1, hq1⟩; have hy1 := bw_of_drew hq1; clear hq1)
  have tokA : Hid (w = w) := rfl
  have tokB : Hid (w = w) := rfl
  go_wp2_with (go_at_call 14; clear tokA; refine (HF1.out _ A6 c6 (hr6.keep (hx7.trans (hx8.trans (hx9.trans hy1))))).mono ?_; rintro e y2 ⟨rfl, hy2⟩)
  go_wp2_with (go_at_call 14; clear tokB; refine (HF2.out _ (HPR1.out.keep (hx0.trans (hx1.trans (hx2.trans (hx3.trans (hx4.trans (hx5.trans (hx6.trans (hx7.trans (hx8.trans (hx9.trans (hy1.trans hy2))))))))))))).mono ?_; rintro e y3 ⟨rfl, hy3⟩)
  go_wp2_with (go_at_call 14; refine (HF3.out _ (HPR0.out.keep (hx0.trans (hx1.trans (hx2.trans (hx3.trans (hx4.trans (hx5.trans (hx6.trans (hx7.trans (hx8.trans (hx9.trans (hy1.trans (hy2.trans hy3)))))))))))))).mono ?_; rintro e y4 ⟨rfl, hy4⟩)
  go_ret
  exact ⟨by simp, (hx0.trans (hx1.trans (hx2.trans (hx3.trans (hx4.trans (hx5.trans (hx6.trans (hx7.trans (hx8.trans (hx9.trans (hy1.trans (hy2.trans (hy3.trans hy4)))))))))))))⟩
set_option maxRecDepth 100000 in
set_option maxHeartbeats 4000000 in
theorem walk (a0 : Option Addr) (len0 cap0 : Nat) (L0 : List Px.Pr) (a1 : Option Addr) (len1 cap1 : Nat) (L1 : List Px.Pr) (a2 : Option Addr) (len2 cap2 : Nat) (L2 : List Px.Pr) (s3 : ByteArray) (w : World) (hk : KAt w) (w0 : InPrs w a0 len0 cap0 L0) (w1 : InPrs w a1 len1 cap1 L1) (w2 : InPrs w a2 len2 cap2 L2) (w3 : s3.size ≤ 140737488351232) :
    Calls Tryd.prog 4 #[.slice a0 len0 cap0, .slice a1 len1 cap1, .slice a2 len2 cap2, .string s3] w fun e w' => e = .returned (.bool true) ∧ Below w.heap.size w w' := by
  have hkat : KAt w := hk
  clear w3 hk
  by_cases hg : (Px.putF L0).2.2 = 0
  · by_cases he : (Px.overF L0 L1).2 = 0
    · by_cases hf : (Px.overF L1 L2).2 = 0
      · by_cases hk : (Px.findE L1 s3.toList).2 = 0
        · exact laid_yyyy a0 len0 cap0 L0 a1 len1 cap1 L1 a2 len2 cap2 L2 s3 w hkat w0 w1 w2 hg he hf hk
        · exact laid_yyyx a0 len0 cap0 L0 a1 len1 cap1 L1 a2 len2 cap2 L2 s3 w hkat w0 w1 w2 hg he hf hk
      · exact laid_yyxn a0 len0 cap0 L0 a1 len1 cap1 L1 a2 len2 cap2 L2 s3 w hkat w0 w1 w2 hg he hf
    · by_cases hf : (Px.overF L1 L2).2 = 0
      · exact laid_yxyn a0 len0 cap0 L0 a1 len1 cap1 L1 a2 len2 cap2 L2 s3 w hkat w0 w1 w2 hg he hf
      · exact laid_yxxn a0 len0 cap0 L0 a1 len1 cap1 L1 a2 len2 cap2 L2 s3 w hkat w0 w1 w2 hg he hf
  · have he : (Px.overF L0 L1).2 ≠ 0 := fun h => hg (Px.overF_ok h).1
    by_cases hf : (Px.overF L1 L2).2 = 0
    · exact laid_xxyn a0 len0 cap0 L0 a1 len1 cap1 L1 a2 len2 cap2 L2 s3 w hkat w0 w1 w2 hg he hf
    · exact laid_xxxn a0 len0 cap0 L0 a1 len1 cap1 L1 a2 len2 cap2 L2 s3 w hkat w0 w1 w2 hg he hf

set_option maxRecDepth 100000 in
theorem lifted (os : Os) (started : os.Started) (H : Type) (enc : TypeId × Value → H) :
    ReturnsInHanded {} Tryd.checked os 4 .any (fun w args => (Rows.paxLaidSpec.pre enc Tryd.prog Tryd.f4 [] false w args ∧ laidMetH Tryd.prog laidK w) ∧ sizedMet enc Tryd.prog Tryd.f4 (OpenSpec.ofChange Rows.paxLaidSpec) false w args)
      (Rows.paxLaidSpec.post enc Tryd.prog Tryd.f4 false true false false) := by
  refine returnsInHanded_of_change_and (C := Tryd.checked) (X := fun w _ => laidMetH Tryd.prog laidK w) (fun _ _ _ hh h => h.of_heap hh) own started (by kernel_rfl) Tryd.func4
    (ChangeSpec.witness_shaped (enc := enc) (C := Tryd.checked) (os := os) (X := fun w _ => laidMetH Tryd.prog laidK w) false (World.doorLaid Tryd.prog 400 os) #[.slice none 0 0, .slice none 0 0, .slice none 0 0, .string .empty] 8 rfl (World.shaped_of_RefB (by kernel_rfl) (by kernel_rfl)) (by kernel_rfl) (by kernel_rfl) (by kernel_rfl) (door_met os _)) ?_
  intro W base args ds gs before hval0 hW hcnd hsz0 hL _
  have hval : ∀ (j : Nat) t v, Tryd.f4.params[j]? = some t → args[j]? = some v → Value.okWide Tryd.prog W .any base t v := hval0
  have hW' := hW
  obtain ⟨p, q, hA0, hV, rfl, hfz, hnd⟩ := hW
  have hA : DataW.TrodAll enc Tryd.prog W 0 (fun _ => true) true Tryd.f4.params.toList args.toList ds p := hA0
  have hsz : (DataW.weightsEach Tryd.prog (Tryd.f4.params.toList ++ Rows.paxLaidSpec.plain.varTypes Tryd.prog) (ds ++ gs)).all (· ≤ reachBytes) = true := hsz0
  have hkat := kat_of_laid hL
  rw [Tryd.params4] at hA hval hsz
  obtain ⟨v0, vs0, d0, ds0, p0, q0, hargs, rfl, rfl, h0, r0⟩ := trodAll_cons hA
  obtain ⟨v1, vs1, d1, ds1, p1, q1, rfl, rfl, rfl, h1, r1⟩ := trodAll_cons r0
  obtain ⟨v2, vs2, d2, ds2, p2, q2, rfl, rfl, rfl, h2, r2⟩ := trodAll_cons r1
  obtain ⟨v3, vs3, d3, ds3, p3, q3, rfl, rfl, rfl, h3, r3⟩ := trodAll_cons r2
  obtain ⟨rfl, rfl, rfl⟩ := trodAll_nil r3
  obtain rfl : args = #[v0, v1, v2, v3] := by cases args; simp_all
  obtain ⟨rfl, rfl⟩ := trodVars_none hV
  obtain ⟨a0, len0, cap0, rfl⟩ := okWide_slice Tryd.underlying32 (hval 0 32 v0 rfl rfl)
  have k0 := h0
  have lt0 : ∀ x ∈ p0, x.block < W.heap.size := by obtain ⟨m, hm⟩ := k0; exact DataW.trod_lt m _ _ _ hm
  obtain ⟨L0, w0⟩ := open_prs h0 (fun x hx => by simpa using List.all_eq_true.1 hsz x (DataW.weights_mem_each (j := 0) (t := 32) rfl rfl x hx))
  obtain ⟨a1, len1, cap1, rfl⟩ := okWide_slice Tryd.underlying32 (hval 1 32 v1 rfl rfl)
  have k1 := h1
  have lt1 : ∀ x ∈ p1, x.block < W.heap.size := by obtain ⟨m, hm⟩ := k1; exact DataW.trod_lt m _ _ _ hm
  obtain ⟨L1, w1⟩ := open_prs h1 (fun x hx => by simpa using List.all_eq_true.1 hsz x (DataW.weights_mem_each (j := 1) (t := 32) rfl rfl x hx))
  obtain ⟨a2, len2, cap2, rfl⟩ := okWide_slice Tryd.underlying32 (hval 2 32 v2 rfl rfl)
  have k2 := h2
  have lt2 : ∀ x ∈ p2, x.block < W.heap.size := by obtain ⟨m, hm⟩ := k2; exact DataW.trod_lt m _ _ _ hm
  obtain ⟨L2, w2⟩ := open_prs h2 (fun x hx => by simpa using List.all_eq_true.1 hsz x (DataW.weights_mem_each (j := 2) (t := 32) rfl rfl x hx))
  have k3 := h3
  have lt3 : ∀ x ∈ p3, x.block < W.heap.size := by obtain ⟨m, hm⟩ := k3; exact DataW.trod_lt m _ _ _ hm
  obtain ⟨s3, rfl, rfl, w3⟩ := open_str (hval 3 9 v3 rfl rfl) h3 (fun x hx => by simpa using List.all_eq_true.1 hsz x (DataW.weights_mem_each (j := 3) (t := 9) rfl rfl x hx))
  clear hA0 hval0
  refine (walk a0 len0 cap0 L0 a1 len1 cap1 L1 a2 len2 cap2 L2 s3 W hkat w0 w1 w2 w3).mono fun e W' ⟨he, bel⟩ => ?_
  subst he
  exact ⟨_, rfl, _, _, _, [], _, [], hW', trodAll_mk1 (shut_bool Tryd.underlying4 _), (trodAll_cons_mk (Below.trod laidOut (by kernel_rfl) (of_decide_eq_true (by kernel_rfl)) k0 bel lt0) (trodAll_cons_mk (Below.trod laidOut (by kernel_rfl) (of_decide_eq_true (by kernel_rfl)) k1 bel lt1) (trodAll_cons_mk (Below.trod laidOut (by kernel_rfl) (of_decide_eq_true (by kernel_rfl)) k2 bel lt2) (trodAll_cons_mk (Below.trod laidOut (by kernel_rfl) (of_decide_eq_true (by kernel_rfl)) k3 bel lt3) trodAll_mk0)))), rfl, bel.frame _, fun h => by cases h⟩

theorem over : Rows.paxLaidRow.holds Tryd.pinned (OpenSpec.ofChange Rows.paxLaidSpec) :=
  OpenClaim.holds_of_wide 4 Tryd.f4 rfl rfl rfl rfl rfl rfl rfl ⟨rfl, rfl, rfl, rfl, rfl⟩ rfl rfl rfl rfl rfl (by kernel_rfl) Tryd.func4 (by kernel_rfl)
    (of_decide_eq_true (by kernel_rfl)) (by unfold Func.isWrapper; first | (rw [if_pos (by decide +kernel)]; kernel_rfl) | (rw [if_neg (by decide +kernel)]; exact ⟨rfl, rfl⟩))
    (fun os started H enc _ => lifted os started H enc)

theorem proved : Rows.PaxLaidCardSaid :=
  Claim7.holds_tied_plain_at .later [] [.data, .data, .data] true (true, "8b76b5f6fb7e1ef1fb9d7b5d44a7d62024e4498942da5fd639422ba9fed3a870") true
    over (fun _ h => by cases h) (by kernel_rfl) (fun _ h => by cases h) paxLaid_row_tie rfl ⟨rfl, rfl⟩ (by kernel_rfl) rfl
    (fun f fn hf hfn => by
      obtain rfl : f = 4 := Option.some.inj ((show Tryd.prog.funcNamed "tabulary/tabularylaw09.PaxLaid" = some 4 by kernel_rfl).symm.trans hf) |>.symm
      obtain rfl : fn = Tryd.f4 := (Option.some.inj (Tryd.func4.symm.trans hfn)).symm
      exact ⟨by kernel_rfl, fun j t ht => by
        rw [Tryd.params4] at ht
        have hm : t ∈ [32, 32, 32, 9] := by simpa using Array.mem_of_getElem? ht
        have hall : ([32, 32, 32, 9].all fun u => !Tryd.prog.wantsStandIn u) = true := by kernel_rfl
        exact (show Tryd.prog.wantsStandIn t = false by simpa using List.all_eq_true.1 hall t hm)⟩)
    (by kernel_rfl)
#print axioms proved
end Go.Proofs.YtmbabfelnieagabDoor.paxLaid
