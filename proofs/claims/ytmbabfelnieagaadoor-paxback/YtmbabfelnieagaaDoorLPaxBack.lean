/- Proved: for every list of pairs, any bytes and every number the statement PaxBack answers true (the document's P9.7: what was put is got, what is got of any bytes, put, is just these bytes, and no record is cut). -/
import Derived.Test.YtmbabfelnieagaaDoorAH
import Derived.Test.YtmbabfelnieagaaDoorFx
import Derived.Test.YtmbabfelnieagaaDoorCards
import Derived.Test.YtmbabfelnieagaaDoorTie
import Derived.ShutString
import Derived.ChangeOld
import Derived.SevenTiedAt
namespace Go.Proofs.YtmbabfelnieagaaDoor.paxBack
open Go.ChangeShapes Go.WideShapes Go.ChangeAt Go.RowKit Go.Deep
set_option linter.unusedVariables false

set_option linter.unusedSimpArgs false
attribute [local go_sem] List.getElem?_cons_zero Option.getD_some
open Go.Deep
set_option maxRecDepth 100000 in
set_option maxHeartbeats 4000000 in
theorem back_bd_nil (a0 : Option Addr) (len0 cap0 : Nat) (L0 : List Px.Pr) (a1 : Option Addr) (len1 cap1 : Nat) (f1 : Nat → Int) (a2 : Int) (w : World) (hkat : KAt w) (w0 : InPrs w a0 len0 cap0 L0) (w1 : InRow w a1 len1 cap1 f1) (w2 : (Lit.int .i64 a2).wf = true) (b : Px.B) (hbl : b.length = len1) (hrow : RowAt w a1 b.length (Px.rowF b)) (hEL : (Px.putF L0).2.2 = 0) (hFB : (Px.getF b 0 []).2.2 = 0) (hT : L0 = []) :
    Calls Tryd.prog 7 #[.slice a0 len0 cap0, .slice a1 len1 cap1, .int .i64 a2] w fun e w' => e = .returned (.bool true) ∧ Below w.heap.size w w' := by
  obtain ⟨hlen, hprs, hle, hroom, hnil, heach⟩ := w0
  have HK : Hid (KAt w) := hkat
  clear hkat
  have hle1 := w1.le
  have hroom1 := w1.room
  have HPR : Hid (PrsAt w a0 L0) := hprs
  have HNL : Hid (L0.length = len0) := hlen
  have HBL : Hid (b.length = len1) := hbl
  have HRB : Hid (RowAt w a1 b.length (Px.rowF b)) := hrow
  have HE : Hid (∀ p ∈ L0, p.1.length ≤ 140737488355328 ∧ p.2.length ≤ 140737488355328) := fun p hp => by obtain ⟨h1, h2⟩ := heach p hp; exact ⟨by omega, by omega⟩
  clear hprs hlen heach hnil hbl hrow w1 w2
  have HPut : Hid (∀ u, KAt u → PrsAt u a0 L0 → Calls Tryd.prog 14 #[.slice a0 len0 cap0] u fun e w' => PutSays L0 e w' ∧ Bw u w') := fun u hku h => by
    have := pput_any a0 cap0 L0 (by rw [HNL.out]; omega) (by rw [HNL.out]; exact hle) HE.out u hku h
    rw [HNL.out] at this
    exact this
  have HGetB : Hid (∀ u, KAt u → RowAt u a1 b.length (Px.rowF b) → Calls Tryd.prog 17 #[.slice a1 len1 cap1] u fun e w' => GetSays b e w' ∧ Bw u w') := fun u hku h => by
    have := pget_any a1 cap1 b (by rw [HBL.out]; omega) (by rw [HBL.out]; exact hle1) u hku h
    rw [HBL.out] at this
    exact this
  have hPF := Px.put_good hEL
  have hok := (Px.put_ok L0).1 hEL
  obtain ⟨ab, hab⟩ : ∃ ab, Hid (Px.all9 L0 = ab) := ⟨_, rfl⟩
  have HPF : Hid (Px.putF L0 = (ab, 0, 0)) := by show _ = _; rw [hPF, hab.out]
  have hlb0 : ab.length ≤ 68096 := by
    have := Px.all9_bd L0 hok.2.1
    rw [hab.out] at this
    have := hok.1
    omega
  obtain ⟨lb, hlb⟩ : ∃ l, Hid (ab.length = l) := ⟨_, rfl⟩
  rw [hlb.out] at hlb0
  have HGet : Hid (Px.getF ab 0 [] = (L0, 0, 0)) := by
    show _ = _
    rw [← hab.out]
    exact Px.get_put L0 [] 0 hok.1 hok.2.1 hok.2.2
  have HGetA : Hid (∀ u A c, KAt u → RowAt u A ab.length (Px.rowF ab) → lb ≤ c → Calls Tryd.prog 17 #[.slice A lb c] u fun e w' => (∃ v, e = .returned (.tuple #[v, .int .i64 0, .int .i64 0]) ∧ PrsIs w' v L0) ∧ Bw u w') := fun u A c hku h hc => by
    have := pget_any A c ab (by rw [hlb.out]; omega) (by rw [hlb.out]; exact hc) u hku h
    unfold GetSays at this
    rw [hlb.out, HGet.out] at this
    exact this
  have HPairs : Hid (∀ u A c, PrsAt u A L0 → PrsAt u a0 L0 → Calls Tryd.prog 19 #[.slice A len0 c, .slice a0 len0 cap0] u fun e w' => e = .returned (.bool true) ∧ ∃ q, w' = u.drewN q) := fun u A c h1 h2 => by
    have := pairs9_any A a0 c cap0 L0 L0 (by rw [HNL.out]; omega) (by rw [HNL.out]; omega) u h1 h2
    rw [HNL.out, decide_eq_true rfl] at this
    exact this
  clear hPF hok hEL
  obtain ⟨r, hGF⟩ : ∃ r, Hid (Px.getF b 0 [] = (r, 0, 0)) := ⟨(Px.getF b 0 []).1, by show _ = _; have h1 := Px.get_zero hFB; obtain ⟨x, y, z, hx⟩ : ∃ x y z, Px.getF b 0 [] = (x, y, z) := ⟨_, _, _, rfl⟩; rw [hx] at h1 hFB ⊢; dsimp only at h1 hFB ⊢; rw [h1, hFB]⟩
  have hgo := Px.get_ok _ b 0 [] r (Nat.le_refl _) (by simp) (fun p hp => by simp at hp) List.Pairwise.nil hGF.out
  have HPM : Hid (Px.putF r = (b, 0, 0)) := by
    show _ = _
    rw [Px.put_all ⟨hgo.1, hgo.2.1, hgo.2.2.1⟩, hgo.2.2.2]; rfl
  have hrl0 : r.length ≤ 64 := hgo.1
  have HSR : Hid (∀ p ∈ r, p.1.length ≤ 140737488355328 ∧ p.2.length ≤ 140737488355328) := fun p hp => by
    have h1 := Px.fits_ok (hgo.2.1 p hp)
    have h2 := (Px.key_ok h1.1).2.2
    exact ⟨by omega, by omega⟩
  obtain ⟨lr, hlr⟩ : ∃ l, Hid (r.length = l) := ⟨_, rfl⟩
  rw [hlr.out] at hrl0
  have HPutM : Hid (∀ u A c, KAt u → lr ≤ c → PrsAt u A r → Calls Tryd.prog 14 #[.slice A lr c] u fun e w' => (∃ v, e = .returned (.tuple #[v, .int .i64 0, .int .i64 0]) ∧ RowIs w' v b) ∧ Bw u w') := fun u A c hku hc h => by
    have := pput_any A c r (by rw [hlr.out]; omega) (by rw [hlr.out]; exact hc) HSR.out u hku h
    unfold PutSays at this
    rw [hlr.out, HPM.out] at this
    exact this
  have HBytes : Hid (∀ u A c, RowAt u A b.length (Px.rowF b) → RowAt u a1 b.length (Px.rowF b) → Calls Tryd.prog 12 #[.slice A len1 c, .slice a1 len1 cap1] u fun e w' => e = .returned (.bool true) ∧ ∃ q, w' = u.drewN q) := fun u A c h1 h2 => by
    have := bytes9_any A a1 c cap1 b b (by rw [HBL.out]; omega) (by rw [HBL.out]; omega) u h1 h2
    rw [HBL.out, decide_eq_true rfl] at this
    exact this
  clear hgo hFB
  have hz0 : Hid (len0 = 0) := by show _ = _; rw [← HNL.out, hT]; rfl
  have e5 : ((len0 : Int) == 0) = true := by rw [beq_iff_eq]; have := hz0.out; omega
  clear hT
  go_enter Tryd.func7, Tryd.ntmps7
  go_wp2_with (go_at_call 22; refine (awake9_any _ HK.out).mono ?_; rintro e x0 ⟨rfl, hx0⟩)
  go_wp2_with (go_at_call 14; refine (HPut.out _ (HK.out.keep (by repeat (first | assumption | (apply Bw.trans; assumption)))) (HPR.out.keep hx0)).mono ?_; rintro e x1 ⟨⟨v, rfl, hv⟩, hx1⟩; rw [HPF.out] at hv ⊢; (try dsimp only at hv); obtain ⟨A1, c1, rfl, hc1, hr1⟩ := hv; rw [hlb.out] at hc1 ⊢)
  go_wp2_with (go_at_call 17; refine (HGetA.out _ A1 c1 (HK.out.keep (by repeat (first | assumption | (apply Bw.trans; assumption)))) hr1 hc1).mono ?_; rintro e x2 ⟨⟨v, rfl, hv⟩, hx2⟩; obtain ⟨A2, c2, rfl, hc2, hr2⟩ := hv; rw [HNL.out] at hc2 ⊢)
  go_wp2_with (go_at_call 19; refine (HPairs.out _ A2 c2 hr2 (HPR.out.keep (hx0.trans (hx1.trans hx2)))).mono ?_; rintro e x3 ⟨rfl, q3, hq3⟩; have hx3 := bw_of_drew hq3; clear hq3)
  go_wp2_with (go_at_call 17; refine (HGetB.out _ (HK.out.keep (by repeat (first | assumption | (apply Bw.trans; assumption)))) (HRB.out.keep (hx0.trans (hx1.trans (hx2.trans hx3))))).mono ?_; rintro e x4 ⟨⟨v, rfl, hv⟩, hx4⟩; rw [hGF.out] at hv ⊢; (try dsimp only at hv); obtain ⟨A4, c4, rfl, hc4, hr4⟩ := hv; rw [hlr.out] at hc4 ⊢)
  go_wp2_with (go_at_call 14; refine (HPutM.out _ A4 c4 (HK.out.keep (by repeat (first | assumption | (apply Bw.trans; assumption)))) hc4 hr4).mono ?_; rintro e x5 ⟨⟨v, rfl, hv⟩, hx5⟩; obtain ⟨A5, c5, rfl, hc5, hr5⟩ := hv; rw [HBL.out] at hc5 ⊢)
  go_wp2_with (go_at_call 12; refine (HBytes.out _ A5 c5 hr5 (HRB.out.keep (hx0.trans (hx1.trans (hx2.trans (hx3.trans (hx4.trans hx5))))))).mono ?_; rintro e x6 ⟨rfl, q6, hq6⟩; have hx6 := bw_of_drew hq6; clear hq6)
  go_ret
  exact ⟨rfl, (hx0.trans (hx1.trans (hx2.trans (hx3.trans (hx4.trans (hx5.trans hx6))))))⟩
set_option maxRecDepth 100000 in
set_option maxHeartbeats 4000000 in
theorem back_ad_rec (a0 : Option Addr) (len0 cap0 : Nat) (L0 : List Px.Pr) (a1 : Option Addr) (len1 cap1 : Nat) (f1 : Nat → Int) (a2 : Int) (w : World) (hkat : KAt w) (w0 : InPrs w a0 len0 cap0 L0) (w1 : InRow w a1 len1 cap1 f1) (w2 : (Lit.int .i64 a2).wf = true) (b : Px.B) (hbl : b.length = len1) (hrow : RowAt w a1 b.length (Px.rowF b)) (hEL : (Px.putF L0).2.2 ≠ 0) (hFB : (Px.getF b 0 []).2.2 = 0) (p : Px.Pr) (hT : L0[0]? = some p) (hp0 : Px.fits p ≠ 0) :
    Calls Tryd.prog 7 #[.slice a0 len0 cap0, .slice a1 len1 cap1, .int .i64 a2] w fun e w' => e = .returned (.bool true) ∧ Below w.heap.size w w' := by
  obtain ⟨hlen, hprs, hle, hroom, hnil, heach⟩ := w0
  have HK : Hid (KAt w) := hkat
  clear hkat
  have hle1 := w1.le
  have hroom1 := w1.room
  have HPR : Hid (PrsAt w a0 L0) := hprs
  have HNL : Hid (L0.length = len0) := hlen
  have HBL : Hid (b.length = len1) := hbl
  have HRB : Hid (RowAt w a1 b.length (Px.rowF b)) := hrow
  have HE : Hid (∀ p ∈ L0, p.1.length ≤ 140737488355328 ∧ p.2.length ≤ 140737488355328) := fun p hp => by obtain ⟨h1, h2⟩ := heach p hp; exact ⟨by omega, by omega⟩
  clear hprs hlen heach hnil hbl hrow w1 w2
  have HPut : Hid (∀ u, KAt u → PrsAt u a0 L0 → Calls Tryd.prog 14 #[.slice a0 len0 cap0] u fun e w' => PutSays L0 e w' ∧ Bw u w') := fun u hku h => by
    have := pput_any a0 cap0 L0 (by rw [HNL.out]; omega) (by rw [HNL.out]; exact hle) HE.out u hku h
    rw [HNL.out] at this
    exact this
  have HGetB : Hid (∀ u, KAt u → RowAt u a1 b.length (Px.rowF b) → Calls Tryd.prog 17 #[.slice a1 len1 cap1] u fun e w' => GetSays b e w' ∧ Bw u w') := fun u hku h => by
    have := pget_any a1 cap1 b (by rw [HBL.out]; omega) (by rw [HBL.out]; exact hle1) u hku h
    rw [HBL.out] at this
    exact this
  obtain ⟨rL, iL, eL, hPF⟩ : ∃ r i e, Hid (Px.putF L0 = (r, i, e)) := ⟨_, _, _, show Px.putF L0 = _ from rfl⟩
  have heL : eL ≠ 0 := by rw [hPF.out] at hEL; exact hEL
  have e1 : ((eL : Int) == 0) = false := by rw [beq_eq_false_iff_ne]; omega
  have heLb : eL ≤ 100 := by have := Px.put_er L0; rw [hPF.out] at this; exact this
  have hiLb : iL ≤ 64 := by have := (Px.put_place L0).2; rw [hPF.out] at this; exact this
  clear hEL
  obtain ⟨r, hGF⟩ : ∃ r, Hid (Px.getF b 0 [] = (r, 0, 0)) := ⟨(Px.getF b 0 []).1, by show _ = _; have h1 := Px.get_zero hFB; obtain ⟨x, y, z, hx⟩ : ∃ x y z, Px.getF b 0 [] = (x, y, z) := ⟨_, _, _, rfl⟩; rw [hx] at h1 hFB ⊢; dsimp only at h1 hFB ⊢; rw [h1, hFB]⟩
  have hgo := Px.get_ok _ b 0 [] r (Nat.le_refl _) (by simp) (fun p hp => by simp at hp) List.Pairwise.nil hGF.out
  have HPM : Hid (Px.putF r = (b, 0, 0)) := by
    show _ = _
    rw [Px.put_all ⟨hgo.1, hgo.2.1, hgo.2.2.1⟩, hgo.2.2.2]; rfl
  have hrl0 : r.length ≤ 64 := hgo.1
  have HSR : Hid (∀ p ∈ r, p.1.length ≤ 140737488355328 ∧ p.2.length ≤ 140737488355328) := fun p hp => by
    have h1 := Px.fits_ok (hgo.2.1 p hp)
    have h2 := (Px.key_ok h1.1).2.2
    exact ⟨by omega, by omega⟩
  obtain ⟨lr, hlr⟩ : ∃ l, Hid (r.length = l) := ⟨_, rfl⟩
  rw [hlr.out] at hrl0
  have HPutM : Hid (∀ u A c, KAt u → lr ≤ c → PrsAt u A r → Calls Tryd.prog 14 #[.slice A lr c] u fun e w' => (∃ v, e = .returned (.tuple #[v, .int .i64 0, .int .i64 0]) ∧ RowIs w' v b) ∧ Bw u w') := fun u A c hku hc h => by
    have := pput_any A c r (by rw [hlr.out]; omega) (by rw [hlr.out]; exact hc) HSR.out u hku h
    unfold PutSays at this
    rw [hlr.out, HPM.out] at this
    exact this
  have HBytes : Hid (∀ u A c, RowAt u A b.length (Px.rowF b) → RowAt u a1 b.length (Px.rowF b) → Calls Tryd.prog 12 #[.slice A len1 c, .slice a1 len1 cap1] u fun e w' => e = .returned (.bool true) ∧ ∃ q, w' = u.drewN q) := fun u A c h1 h2 => by
    have := bytes9_any A a1 c cap1 b b (by rw [HBL.out]; omega) (by rw [HBL.out]; omega) u h1 h2
    rw [HBL.out, decide_eq_true rfl] at this
    exact this
  clear hgo hFB
  have hz0 : 0 < len0 := by
    have := (List.getElem?_eq_some_iff.1 hT).1
    rw [HNL.out] at this; exact this
  have e5 : ((len0 : Int) == 0) = false := by rw [beq_eq_false_iff_ne]; omega
  have z5 : (0 : Int) < (len0 : Int) := by omega
  have HT : Hid (L0[0]? = some p) := hT
  have hsz := HE.out p (List.mem_of_getElem? hT)
  clear hT
  have hs1 : (Nm.S p.1).size ≤ 140737488355328 := by rw [Nm.size_S]; exact hsz.1
  have hs2 : (Nm.S p.2).size ≤ 140737488355328 := by rw [Nm.size_S]; exact hsz.2
  obtain ⟨b0, o0, ha0, hcell⟩ := HPR.out.at (by rw [HNL.out]; exact hz0)
  subst ha0
  have HC0 : Hid (∀ W, Bw w W → W.cell? ⟨b0, o0, none⟩ = some (.string (Nm.S p.1)) ∧ W.cell? ⟨b0, o0 + 1, none⟩ = some (.string (Nm.S p.2))) := fun W h => by
    obtain ⟨g1, g2⟩ := hcell 0 p HT.out
    rw [Nat.zero_mul, Nat.add_zero] at g1 g2
    have hlt := block_lt_of_cell g1
    rw [h.cell (p := ⟨b0, o0, none⟩) hlt, h.cell (p := ⟨b0, o0 + 1, none⟩) hlt]
    exact ⟨g1, g2⟩
  clear hcell hsz
  obtain ⟨ef, hef⟩ : ∃ e, Hid (Px.fits p = e) := ⟨_, rfl⟩
  have hefb : ef ≤ 100 := by have := Px.fits_vals p; rw [hef.out] at this; omega
  have hef0 : ef ≠ 0 := by rw [← hef.out]; exact hp0
  have e6 : ((ef : Int) != 0) = true := by rw [bne_iff_ne]; omega
  have HRec : Hid (∀ u, KAt u → Calls Tryd.prog 8 #[.agg #[.string (Nm.S p.1), .string (Nm.S p.2)]] u fun e w' => (∃ v, e = .returned (.tuple #[v, .int .i64 (ef : Int)]) ∧ RowIs w' v []) ∧ Bw u w') := fun u hku => by
    have := precord_any (Nm.S p.1) (Nm.S p.2) hs1 hs2 u hku
    unfold RecSays at this
    rw [Nm.toList_S, Nm.toList_S, show Px.recF (p.1, p.2) = ([], ef) by unfold Px.recF; rw [show ((p.1, p.2) : Px.Pr) = p from rfl, if_pos hp0, hef.out]] at this
    exact this
  clear hp0
  go_enter Tryd.func7, Tryd.ntmps7
  go_wp2_with (go_at_call 22; refine (awake9_any _ HK.out).mono ?_; rintro e x0 ⟨rfl, hx0⟩)
  go_wp2_with (go_at_call 14; refine (HPut.out _ (HK.out.keep (by repeat (first | assumption | (apply Bw.trans; assumption)))) (HPR.out.keep hx0)).mono ?_; rintro e x1 ⟨⟨v, rfl, hv⟩, hx1⟩; rw [hPF.out] at hv ⊢; (try dsimp only at hv); obtain ⟨A1, c1, rfl, hc1, hr1⟩ := hv)
  go_wp2_with (go_at_call 17; refine (HGetB.out _ (HK.out.keep (by repeat (first | assumption | (apply Bw.trans; assumption)))) (HRB.out.keep (hx0.trans hx1))).mono ?_; rintro e x4 ⟨⟨v, rfl, hv⟩, hx4⟩; rw [hGF.out] at hv ⊢; (try dsimp only at hv); obtain ⟨A4, c4, rfl, hc4, hr4⟩ := hv; rw [hlr.out] at hc4 ⊢)
  go_wp2_with (go_at_call 14; refine (HPutM.out _ A4 c4 (HK.out.keep (by repeat (first | assumption | (apply Bw.trans; assumption)))) hc4 hr4).mono ?_; rintro e x5 ⟨⟨v, rfl, hv⟩, hx5⟩; obtain ⟨A5, c5, rfl, hc5, hr5⟩ := hv; rw [HBL.out] at hc5 ⊢)
  go_wp2_with (go_at_call 12; refine (HBytes.out _ A5 c5 hr5 (HRB.out.keep (hx0.trans (hx1.trans (hx4.trans hx5))))).mono ?_; rintro e x6 ⟨rfl, q6, hq6⟩; have hx6 := bw_of_drew hq6; clear hq6; obtain ⟨z1, z2⟩ := HC0.out _ (hx0.trans (hx1.trans (hx4.trans (hx5.trans hx6)))))
  go_wp2_with (go_at_call 8; refine (HRec.out _ (HK.out.keep (by repeat (first | assumption | (apply Bw.trans; assumption))))).mono ?_; rintro e x7 ⟨⟨v, rfl, hv⟩, hx7⟩; obtain ⟨A7, c7, rfl, hc7, hr7⟩ := hv)
  go_ret
  exact ⟨rfl, (hx0.trans (hx1.trans (hx4.trans (hx5.trans (hx6.trans hx7)))))⟩
set_option maxRecDepth 100000 in
set_option maxHeartbeats 4000000 in
theorem back_bd_out (a0 : Option Addr) (len0 cap0 : Nat) (L0 : List Px.Pr) (a1 : Option Addr) (len1 cap1 : Nat) (f1 : Nat → Int) (a2 : Int) (w : World) (hkat : KAt w) (w0 : InPrs w a0 len0 cap0 L0) (w1 : InRow w a1 len1 cap1 f1) (w2 : (Lit.int .i64 a2).wf = true) (b : Px.B) (hbl : b.length = len1) (hrow : RowAt w a1 b.length (Px.rowF b)) (hEL : (Px.putF L0).2.2 = 0) (hFB : (Px.getF b 0 []).2.2 = 0) (p : Px.Pr) (hT : L0[0]? = some p) (hp0 : Px.fits p = 0) (hcut : a2 < 1 ∨ (Px.psize p : Int) ≤ a2) :
    Calls Tryd.prog 7 #[.slice a0 len0 cap0, .slice a1 len1 cap1, .int .i64 a2] w fun e w' => e = .returned (.bool true) ∧ Below w.heap.size w w' := by
  obtain ⟨hlen, hprs, hle, hroom, hnil, heach⟩ := w0
  have HK : Hid (KAt w) := hkat
  clear hkat
  have hle1 := w1.le
  have hroom1 := w1.room
  have HPR : Hid (PrsAt w a0 L0) := hprs
  have HNL : Hid (L0.length = len0) := hlen
  have HBL : Hid (b.length = len1) := hbl
  have HRB : Hid (RowAt w a1 b.length (Px.rowF b)) := hrow
  have HE : Hid (∀ p ∈ L0, p.1.length ≤ 140737488355328 ∧ p.2.length ≤ 140737488355328) := fun p hp => by obtain ⟨h1, h2⟩ := heach p hp; exact ⟨by omega, by omega⟩
  clear hprs hlen heach hnil hbl hrow w1 w2
  have HPut : Hid (∀ u, KAt u → PrsAt u a0 L0 → Calls Tryd.prog 14 #[.slice a0 len0 cap0] u fun e w' => PutSays L0 e w' ∧ Bw u w') := fun u hku h => by
    have := pput_any a0 cap0 L0 (by rw [HNL.out]; omega) (by rw [HNL.out]; exact hle) HE.out u hku h
    rw [HNL.out] at this
    exact this
  have HGetB : Hid (∀ u, KAt u → RowAt u a1 b.length (Px.rowF b) → Calls Tryd.prog 17 #[.slice a1 len1 cap1] u fun e w' => GetSays b e w' ∧ Bw u w') := fun u hku h => by
    have := pget_any a1 cap1 b (by rw [HBL.out]; omega) (by rw [HBL.out]; exact hle1) u hku h
    rw [HBL.out] at this
    exact this
  have hPF := Px.put_good hEL
  have hok := (Px.put_ok L0).1 hEL
  obtain ⟨ab, hab⟩ : ∃ ab, Hid (Px.all9 L0 = ab) := ⟨_, rfl⟩
  have HPF : Hid (Px.putF L0 = (ab, 0, 0)) := by show _ = _; rw [hPF, hab.out]
  have hlb0 : ab.length ≤ 68096 := by
    have := Px.all9_bd L0 hok.2.1
    rw [hab.out] at this
    have := hok.1
    omega
  obtain ⟨lb, hlb⟩ : ∃ l, Hid (ab.length = l) := ⟨_, rfl⟩
  rw [hlb.out] at hlb0
  have HGet : Hid (Px.getF ab 0 [] = (L0, 0, 0)) := by
    show _ = _
    rw [← hab.out]
    exact Px.get_put L0 [] 0 hok.1 hok.2.1 hok.2.2
  have HGetA : Hid (∀ u A c, KAt u → RowAt u A ab.length (Px.rowF ab) → lb ≤ c → Calls Tryd.prog 17 #[.slice A lb c] u fun e w' => (∃ v, e = .returned (.tuple #[v, .int .i64 0, .int .i64 0]) ∧ PrsIs w' v L0) ∧ Bw u w') := fun u A c hku h hc => by
    have := pget_any A c ab (by rw [hlb.out]; omega) (by rw [hlb.out]; exact hc) u hku h
    unfold GetSays at this
    rw [hlb.out, HGet.out] at this
    exact this
  have HPairs : Hid (∀ u A c, PrsAt u A L0 → PrsAt u a0 L0 → Calls Tryd.prog 19 #[.slice A len0 c, .slice a0 len0 cap0] u fun e w' => e = .returned (.bool true) ∧ ∃ q, w' = u.drewN q) := fun u A c h1 h2 => by
    have := pairs9_any A a0 c cap0 L0 L0 (by rw [HNL.out]; omega) (by rw [HNL.out]; omega) u h1 h2
    rw [HNL.out, decide_eq_true rfl] at this
    exact this
  clear hPF hok hEL
  obtain ⟨r, hGF⟩ : ∃ r, Hid (Px.getF b 0 [] = (r, 0, 0)) := ⟨(Px.getF b 0 []).1, by show _ = _; have h1 := Px.get_zero hFB; obtain ⟨x, y, z, hx⟩ : ∃ x y z, Px.getF b 0 [] = (x, y, z) := ⟨_, _, _, rfl⟩; rw [hx] at h1 hFB ⊢; dsimp only at h1 hFB ⊢; rw [h1, hFB]⟩
  have hgo := Px.get_ok _ b 0 [] r (Nat.le_refl _) (by simp) (fun p hp => by simp at hp) List.Pairwise.nil hGF.out
  have HPM : Hid (Px.putF r = (b, 0, 0)) := by
    show _ = _
    rw [Px.put_all ⟨hgo.1, hgo.2.1, hgo.2.2.1⟩, hgo.2.2.2]; rfl
  have hrl0 : r.length ≤ 64 := hgo.1
  have HSR : Hid (∀ p ∈ r, p.1.length ≤ 140737488355328 ∧ p.2.length ≤ 140737488355328) := fun p hp => by
    have h1 := Px.fits_ok (hgo.2.1 p hp)
    have h2 := (Px.key_ok h1.1).2.2
    exact ⟨by omega, by omega⟩
  obtain ⟨lr, hlr⟩ : ∃ l, Hid (r.length = l) := ⟨_, rfl⟩
  rw [hlr.out] at hrl0
  have HPutM : Hid (∀ u A c, KAt u → lr ≤ c → PrsAt u A r → Calls Tryd.prog 14 #[.slice A lr c] u fun e w' => (∃ v, e = .returned (.tuple #[v, .int .i64 0, .int .i64 0]) ∧ RowIs w' v b) ∧ Bw u w') := fun u A c hku hc h => by
    have := pput_any A c r (by rw [hlr.out]; omega) (by rw [hlr.out]; exact hc) HSR.out u hku h
    unfold PutSays at this
    rw [hlr.out, HPM.out] at this
    exact this
  have HBytes : Hid (∀ u A c, RowAt u A b.length (Px.rowF b) → RowAt u a1 b.length (Px.rowF b) → Calls Tryd.prog 12 #[.slice A len1 c, .slice a1 len1 cap1] u fun e w' => e = .returned (.bool true) ∧ ∃ q, w' = u.drewN q) := fun u A c h1 h2 => by
    have := bytes9_any A a1 c cap1 b b (by rw [HBL.out]; omega) (by rw [HBL.out]; omega) u h1 h2
    rw [HBL.out, decide_eq_true rfl] at this
    exact this
  clear hgo hFB
  have hz0 : 0 < len0 := by
    have := (List.getElem?_eq_some_iff.1 hT).1
    rw [HNL.out] at this; exact this
  have e5 : ((len0 : Int) == 0) = false := by rw [beq_eq_false_iff_ne]; omega
  have z5 : (0 : Int) < (len0 : Int) := by omega
  have HT : Hid (L0[0]? = some p) := hT
  have hsz := HE.out p (List.mem_of_getElem? hT)
  clear hT
  have hs1 : (Nm.S p.1).size ≤ 140737488355328 := by rw [Nm.size_S]; exact hsz.1
  have hs2 : (Nm.S p.2).size ≤ 140737488355328 := by rw [Nm.size_S]; exact hsz.2
  obtain ⟨b0, o0, ha0, hcell⟩ := HPR.out.at (by rw [HNL.out]; exact hz0)
  subst ha0
  have HC0 : Hid (∀ W, Bw w W → W.cell? ⟨b0, o0, none⟩ = some (.string (Nm.S p.1)) ∧ W.cell? ⟨b0, o0 + 1, none⟩ = some (.string (Nm.S p.2))) := fun W h => by
    obtain ⟨g1, g2⟩ := hcell 0 p HT.out
    rw [Nat.zero_mul, Nat.add_zero] at g1 g2
    have hlt := block_lt_of_cell g1
    rw [h.cell (p := ⟨b0, o0, none⟩) hlt, h.cell (p := ⟨b0, o0 + 1, none⟩) hlt]
    exact ⟨g1, g2⟩
  clear hcell hsz
  obtain ⟨rr, hrr⟩ : ∃ r, Hid (Px.rcd p = r) := ⟨_, rfl⟩
  obtain ⟨z, hz⟩ : ∃ z, Hid (Px.psize p = z) := ⟨_, rfl⟩
  have hrl : Hid (rr.length = z) := by show _ = _; rw [← hrr.out, Px.rcd_len, hz.out]
  have hzb : z ≤ 1064 := by rw [← hz.out]; exact Px.psize_le hp0
  have HRec : Hid (∀ u, KAt u → Calls Tryd.prog 8 #[.agg #[.string (Nm.S p.1), .string (Nm.S p.2)]] u fun e w' => (∃ A c, e = .returned (.tuple #[.slice A z c, .int .i64 0]) ∧ z ≤ c ∧ RowAt w' A rr.length (Px.rowF rr)) ∧ Bw u w') := fun u hku => by
    have := precord_any (Nm.S p.1) (Nm.S p.2) hs1 hs2 u hku
    unfold RecSays at this
    rw [Nm.toList_S, Nm.toList_S, show Px.recF (p.1, p.2) = (rr, 0) by unfold Px.recF; rw [show ((p.1, p.2) : Px.Pr) = p from rfl, if_neg (by rw [hp0]; simp), hrr.out]] at this
    refine this.mono ?_
    rintro e w' ⟨⟨v, he, A, c, hv, hc, hr⟩, hb⟩
    rw [hrl.out] at hv hc
    exact ⟨⟨A, c, by rw [he, hv]; rfl, hc, hr⟩, hb⟩
  rw [hz.out] at hcut
  clear hp0
  go_enter Tryd.func7, Tryd.ntmps7
  go_wp2_with (go_at_call 22; refine (awake9_any _ HK.out).mono ?_; rintro e x0 ⟨rfl, hx0⟩)
  go_wp2_with (go_at_call 14; refine (HPut.out _ (HK.out.keep (by repeat (first | assumption | (apply Bw.trans; assumption)))) (HPR.out.keep hx0)).mono ?_; rintro e x1 ⟨⟨v, rfl, hv⟩, hx1⟩; rw [HPF.out] at hv ⊢; (try dsimp only at hv); obtain ⟨A1, c1, rfl, hc1, hr1⟩ := hv; rw [hlb.out] at hc1 ⊢)
  go_wp2_with (go_at_call 17; refine (HGetA.out _ A1 c1 (HK.out.keep (by repeat (first | assumption | (apply Bw.trans; assumption)))) hr1 hc1).mono ?_; rintro e x2 ⟨⟨v, rfl, hv⟩, hx2⟩; obtain ⟨A2, c2, rfl, hc2, hr2⟩ := hv; rw [HNL.out] at hc2 ⊢)
  go_wp2_with (go_at_call 19; refine (HPairs.out _ A2 c2 hr2 (HPR.out.keep (hx0.trans (hx1.trans hx2)))).mono ?_; rintro e x3 ⟨rfl, q3, hq3⟩; have hx3 := bw_of_drew hq3; clear hq3)
  go_wp2_with (go_at_call 17; refine (HGetB.out _ (HK.out.keep (by repeat (first | assumption | (apply Bw.trans; assumption)))) (HRB.out.keep (hx0.trans (hx1.trans (hx2.trans hx3))))).mono ?_; rintro e x4 ⟨⟨v, rfl, hv⟩, hx4⟩; rw [hGF.out] at hv ⊢; (try dsimp only at hv); obtain ⟨A4, c4, rfl, hc4, hr4⟩ := hv; rw [hlr.out] at hc4 ⊢)
  go_wp2_with (go_at_call 14; refine (HPutM.out _ A4 c4 (HK.out.keep (by repeat (first | assumption | (apply Bw.trans; assumption)))) hc4 hr4).mono ?_; rintro e x5 ⟨⟨v, rfl, hv⟩, hx5⟩; obtain ⟨A5, c5, rfl, hc5, hr5⟩ := hv; rw [HBL.out] at hc5 ⊢)
  go_wp2_with (go_at_call 12; refine (HBytes.out _ A5 c5 hr5 (HRB.out.keep (hx0.trans (hx1.trans (hx2.trans (hx3.trans (hx4.trans hx5))))))).mono ?_; rintro e x6 ⟨rfl, q6, hq6⟩; have hx6 := bw_of_drew hq6; clear hq6; obtain ⟨z1, z2⟩ := HC0.out _ (hx0.trans (hx1.trans (hx2.trans (hx3.trans (hx4.trans (hx5.trans hx6)))))))
  by_cases hc : a2 < 1
  · go_wp2_with (go_at_call 8; refine (HRec.out _ (HK.out.keep (by repeat (first | assumption | (apply Bw.trans; assumption))))).mono ?_; rintro e x7 ⟨⟨A7, c7, rfl, hc7, hr7⟩, hx7⟩)
    go_ret
    exact ⟨rfl, (hx0.trans (hx1.trans (hx2.trans (hx3.trans (hx4.trans (hx5.trans (hx6.trans hx7)))))))⟩
  · have hc2' : (z : Int) ≤ a2 := hcut.resolve_left hc
    have hc3' : (1 : Int) ≤ a2 := by omega
    clear hc hcut
    go_wp2_with (go_at_call 8; refine (HRec.out _ (HK.out.keep (by repeat (first | assumption | (apply Bw.trans; assumption))))).mono ?_; rintro e x7 ⟨⟨A7, c7, rfl, hc7, hr7⟩, hx7⟩)
    go_ret
    exact ⟨rfl, (hx0.trans (hx1.trans (hx2.trans (hx3.trans (hx4.trans (hx5.trans (hx6.trans hx7)))))))⟩
set_option maxRecDepth 100000 in
set_option maxHeartbeats 4000000 in
theorem back_bd_cut (a0 : Option Addr) (len0 cap0 : Nat) (L0 : List Px.Pr) (a1 : Option Addr) (len1 cap1 : Nat) (f1 : Nat → Int) (a2 : Int) (w : World) (hkat : KAt w) (w0 : InPrs w a0 len0 cap0 L0) (w1 : InRow w a1 len1 cap1 f1) (w2 : (Lit.int .i64 a2).wf = true) (b : Px.B) (hbl : b.length = len1) (hrow : RowAt w a1 b.length (Px.rowF b)) (hEL : (Px.putF L0).2.2 = 0) (hFB : (Px.getF b 0 []).2.2 = 0) (p : Px.Pr) (hT : L0[0]? = some p) (hp0 : Px.fits p = 0) (k : Nat) (hk : a2 = (k : Int)) (hk1 : 1 ≤ k) (hk2 : k < Px.psize p) :
    Calls Tryd.prog 7 #[.slice a0 len0 cap0, .slice a1 len1 cap1, .int .i64 a2] w fun e w' => e = .returned (.bool true) ∧ Below w.heap.size w w' := by
  obtain ⟨hlen, hprs, hle, hroom, hnil, heach⟩ := w0
  have HK : Hid (KAt w) := hkat
  clear hkat
  have hle1 := w1.le
  have hroom1 := w1.room
  have HPR : Hid (PrsAt w a0 L0) := hprs
  have HNL : Hid (L0.length = len0) := hlen
  have HBL : Hid (b.length = len1) := hbl
  have HRB : Hid (RowAt w a1 b.length (Px.rowF b)) := hrow
  have HE : Hid (∀ p ∈ L0, p.1.length ≤ 140737488355328 ∧ p.2.length ≤ 140737488355328) := fun p hp => by obtain ⟨h1, h2⟩ := heach p hp; exact ⟨by omega, by omega⟩
  clear hprs hlen heach hnil hbl hrow w1 w2
  have HPut : Hid (∀ u, KAt u → PrsAt u a0 L0 → Calls Tryd.prog 14 #[.slice a0 len0 cap0] u fun e w' => PutSays L0 e w' ∧ Bw u w') := fun u hku h => by
    have := pput_any a0 cap0 L0 (by rw [HNL.out]; omega) (by rw [HNL.out]; exact hle) HE.out u hku h
    rw [HNL.out] at this
    exact this
  have HGetB : Hid (∀ u, KAt u → RowAt u a1 b.length (Px.rowF b) → Calls Tryd.prog 17 #[.slice a1 len1 cap1] u fun e w' => GetSays b e w' ∧ Bw u w') := fun u hku h => by
    have := pget_any a1 cap1 b (by rw [HBL.out]; omega) (by rw [HBL.out]; exact hle1) u hku h
    rw [HBL.out] at this
    exact this
  have hPF := Px.put_good hEL
  have hok := (Px.put_ok L0).1 hEL
  obtain ⟨ab, hab⟩ : ∃ ab, Hid (Px.all9 L0 = ab) := ⟨_, rfl⟩
  have HPF : Hid (Px.putF L0 = (ab, 0, 0)) := by show _ = _; rw [hPF, hab.out]
  have hlb0 : ab.length ≤ 68096 := by
    have := Px.all9_bd L0 hok.2.1
    rw [hab.out] at this
    have := hok.1
    omega
  obtain ⟨lb, hlb⟩ : ∃ l, Hid (ab.length = l) := ⟨_, rfl⟩
  rw [hlb.out] at hlb0
  have HGet : Hid (Px.getF ab 0 [] = (L0, 0, 0)) := by
    show _ = _
    rw [← hab.out]
    exact Px.get_put L0 [] 0 hok.1 hok.2.1 hok.2.2
  have HGetA : Hid (∀ u A c, KAt u → RowAt u A ab.length (Px.rowF ab) → lb ≤ c → Calls Tryd.prog 17 #[.slice A lb c] u fun e w' => (∃ v, e = .returned (.tuple #[v, .int .i64 0, .int .i64 0]) ∧ PrsIs w' v L0) ∧ Bw u w') := fun u A c hku h hc => by
    have := pget_any A c ab (by rw [hlb.out]; omega) (by rw [hlb.out]; exact hc) u hku h
    unfold GetSays at this
    rw [hlb.out, HGet.out] at this
    exact this
  have HPairs : Hid (∀ u A c, PrsAt u A L0 → PrsAt u a0 L0 → Calls Tryd.prog 19 #[.slice A len0 c, .slice a0 len0 cap0] u fun e w' => e = .returned (.bool true) ∧ ∃ q, w' = u.drewN q) := fun u A c h1 h2 => by
    have := pairs9_any A a0 c cap0 L0 L0 (by rw [HNL.out]; omega) (by rw [HNL.out]; omega) u h1 h2
    rw [HNL.out, decide_eq_true rfl] at this
    exact this
  clear hPF hok hEL
  obtain ⟨r, hGF⟩ : ∃ r, Hid (Px.getF b 0 [] = (r, 0, 0)) := ⟨(Px.getF b 0 []).1, by show _ = _; have h1 := Px.get_zero hFB; obtain ⟨x, y, z, hx⟩ : ∃ x y z, Px.getF b 0 [] = (x, y, z) := ⟨_, _, _, rfl⟩; rw [hx] at h1 hFB ⊢; dsimp only at h1 hFB ⊢; rw [h1, hFB]⟩
  have hgo := Px.get_ok _ b 0 [] r (Nat.le_refl _) (by simp) (fun p hp => by simp at hp) List.Pairwise.nil hGF.out
  have HPM : Hid (Px.putF r = (b, 0, 0)) := by
    show _ = _
    rw [Px.put_all ⟨hgo.1, hgo.2.1, hgo.2.2.1⟩, hgo.2.2.2]; rfl
  have hrl0 : r.length ≤ 64 := hgo.1
  have HSR : Hid (∀ p ∈ r, p.1.length ≤ 140737488355328 ∧ p.2.length ≤ 140737488355328) := fun p hp => by
    have h1 := Px.fits_ok (hgo.2.1 p hp)
    have h2 := (Px.key_ok h1.1).2.2
    exact ⟨by omega, by omega⟩
  obtain ⟨lr, hlr⟩ : ∃ l, Hid (r.length = l) := ⟨_, rfl⟩
  rw [hlr.out] at hrl0
  have HPutM : Hid (∀ u A c, KAt u → lr ≤ c → PrsAt u A r → Calls Tryd.prog 14 #[.slice A lr c] u fun e w' => (∃ v, e = .returned (.tuple #[v, .int .i64 0, .int .i64 0]) ∧ RowIs w' v b) ∧ Bw u w') := fun u A c hku hc h => by
    have := pput_any A c r (by rw [hlr.out]; omega) (by rw [hlr.out]; exact hc) HSR.out u hku h
    unfold PutSays at this
    rw [hlr.out, HPM.out] at this
    exact this
  have HBytes : Hid (∀ u A c, RowAt u A b.length (Px.rowF b) → RowAt u a1 b.length (Px.rowF b) → Calls Tryd.prog 12 #[.slice A len1 c, .slice a1 len1 cap1] u fun e w' => e = .returned (.bool true) ∧ ∃ q, w' = u.drewN q) := fun u A c h1 h2 => by
    have := bytes9_any A a1 c cap1 b b (by rw [HBL.out]; omega) (by rw [HBL.out]; omega) u h1 h2
    rw [HBL.out, decide_eq_true rfl] at this
    exact this
  clear hgo hFB
  have hz0 : 0 < len0 := by
    have := (List.getElem?_eq_some_iff.1 hT).1
    rw [HNL.out] at this; exact this
  have e5 : ((len0 : Int) == 0) = false := by rw [beq_eq_false_iff_ne]; omega
  have z5 : (0 : Int) < (len0 : Int) := by omega
  have HT : Hid (L0[0]? = some p) := hT
  have hsz := HE.out p (List.mem_of_getElem? hT)
  clear hT
  have hs1 : (Nm.S p.1).size ≤ 140737488355328 := by rw [Nm.size_S]; exact hsz.1
  have hs2 : (Nm.S p.2).size ≤ 140737488355328 := by rw [Nm.size_S]; exact hsz.2
  obtain ⟨b0, o0, ha0, hcell⟩ := HPR.out.at (by rw [HNL.out]; exact hz0)
  subst ha0
  have HC0 : Hid (∀ W, Bw w W → W.cell? ⟨b0, o0, none⟩ = some (.string (Nm.S p.1)) ∧ W.cell? ⟨b0, o0 + 1, none⟩ = some (.string (Nm.S p.2))) := fun W h => by
    obtain ⟨g1, g2⟩ := hcell 0 p HT.out
    rw [Nat.zero_mul, Nat.add_zero] at g1 g2
    have hlt := block_lt_of_cell g1
    rw [h.cell (p := ⟨b0, o0, none⟩) hlt, h.cell (p := ⟨b0, o0 + 1, none⟩) hlt]
    exact ⟨g1, g2⟩
  clear hcell hsz
  obtain ⟨rr, hrr⟩ : ∃ r, Hid (Px.rcd p = r) := ⟨_, rfl⟩
  obtain ⟨z, hz⟩ : ∃ z, Hid (Px.psize p = z) := ⟨_, rfl⟩
  have hrl : Hid (rr.length = z) := by show _ = _; rw [← hrr.out, Px.rcd_len, hz.out]
  have hzb : z ≤ 1064 := by rw [← hz.out]; exact Px.psize_le hp0
  have HRec : Hid (∀ u, KAt u → Calls Tryd.prog 8 #[.agg #[.string (Nm.S p.1), .string (Nm.S p.2)]] u fun e w' => (∃ A c, e = .returned (.tuple #[.slice A z c, .int .i64 0]) ∧ z ≤ c ∧ RowAt w' A rr.length (Px.rowF rr)) ∧ Bw u w') := fun u hku => by
    have := precord_any (Nm.S p.1) (Nm.S p.2) hs1 hs2 u hku
    unfold RecSays at this
    rw [Nm.toList_S, Nm.toList_S, show Px.recF (p.1, p.2) = (rr, 0) by unfold Px.recF; rw [show ((p.1, p.2) : Px.Pr) = p from rfl, if_neg (by rw [hp0]; simp), hrr.out]] at this
    refine this.mono ?_
    rintro e w' ⟨⟨v, he, A, c, hv, hc, hr⟩, hb⟩
    rw [hrl.out] at hv hc
    exact ⟨⟨A, c, by rw [he, hv]; rfl, hc, hr⟩, hb⟩
  rw [hz.out] at hk2
  subst hk
  have k1 : (1 : Int) ≤ (k : Int) := by omega
  have k2 : (k : Int) < (z : Int) := by omega
  have k0 : (0 : Int) ≤ (k : Int) := by omega
  have HGetC : Hid (∀ u A c, KAt u → RowAt u A rr.length (Px.rowF rr) → z ≤ c → Calls Tryd.prog 17 #[.slice A k c] u fun e w' => (∃ v, e = .returned (.tuple #[v, .int .i64 0, .int .i64 90]) ∧ PrsIs w' v []) ∧ Bw u w') := fun u A c hku h hc => by
    have hlt : (rr.take k).length = k := by rw [List.length_take, hrl.out]; omega
    have hfr : RowAt u A (rr.take k).length (Px.rowF (rr.take k)) := RowAt.front (b := rr.drop k) (by rw [List.take_append_drop]; exact h)
    have := pget_any A c (rr.take k) (by rw [hlt]; omega) (by rw [hlt]; omega) u hku hfr
    unfold GetSays at this
    rw [hlt, ← hrr.out, Px.get_cut p hp0 k hk1 (by rw [hz.out]; exact hk2)] at this
    exact this
  clear hp0
  go_enter Tryd.func7, Tryd.ntmps7
  go_wp2_with (go_at_call 22; refine (awake9_any _ HK.out).mono ?_; rintro e x0 ⟨rfl, hx0⟩)
  go_wp2_with (go_at_call 14; refine (HPut.out _ (HK.out.keep (by repeat (first | assumption | (apply Bw.trans; assumption)))) (HPR.out.keep hx0)).mono ?_; rintro e x1 ⟨⟨v, rfl, hv⟩, hx1⟩; rw [HPF.out] at hv ⊢; (try dsimp only at hv); obtain ⟨A1, c1, rfl, hc1, hr1⟩ := hv; rw [hlb.out] at hc1 ⊢)
  go_wp2_with (go_at_call 17; refine (HGetA.out _ A1 c1 (HK.out.keep (by repeat (first | assumption | (apply Bw.trans; assumption)))) hr1 hc1).mono ?_; rintro e x2 ⟨⟨v, rfl, hv⟩, hx2⟩; obtain ⟨A2, c2, rfl, hc2, hr2⟩ := hv; rw [HNL.out] at hc2 ⊢)
  go_wp2_with (go_at_call 19; refine (HPairs.out _ A2 c2 hr2 (HPR.out.keep (hx0.trans (hx1.trans hx2)))).mono ?_; rintro e x3 ⟨rfl, q3, hq3⟩; have hx3 := bw_of_drew hq3; clear hq3)
  go_wp2_with (go_at_call 17; refine (HGetB.out _ (HK.out.keep (by repeat (first | assumption | (apply Bw.trans; assumption)))) (HRB.out.keep (hx0.trans (hx1.trans (hx2.trans hx3))))).mono ?_; rintro e x4 ⟨⟨v, rfl, hv⟩, hx4⟩; rw [hGF.out] at hv ⊢; (try dsimp only at hv); obtain ⟨A4, c4, rfl, hc4, hr4⟩ := hv; rw [hlr.out] at hc4 ⊢)
  go_wp2_with (go_at_call 14; refine (HPutM.out _ A4 c4 (HK.out.keep (by repeat (first | assumption | (apply Bw.trans; assumption)))) hc4 hr4).mono ?_; rintro e x5 ⟨⟨v, rfl, hv⟩, hx5⟩; obtain ⟨A5, c5, rfl, hc5, hr5⟩ := hv; rw [HBL.out] at hc5 ⊢)
  go_wp2_with (go_at_call 12; refine (HBytes.out _ A5 c5 hr5 (HRB.out.keep (hx0.trans (hx1.trans (hx2.trans (hx3.trans (hx4.trans hx5))))))).mono ?_; rintro e x6 ⟨rfl, q6, hq6⟩; have hx6 := bw_of_drew hq6; clear hq6; obtain ⟨z1, z2⟩ := HC0.out _ (hx0.trans (hx1.trans (hx2.trans (hx3.trans (hx4.trans (hx5.trans hx6)))))))
  go_wp2_with (go_at_call 8; refine (HRec.out _ (HK.out.keep (by repeat (first | assumption | (apply Bw.trans; assumption))))).mono ?_; rintro e x7 ⟨⟨A7, c7, rfl, hc7, hr7⟩, hx7⟩; have k7 : (k : Int) ≤ (c7 : Int) := by omega)
  go_wp2_with (go_at_call 17; refine (HGetC.out _ A7 c7 (HK.out.keep (by repeat (first | assumption | (apply Bw.trans; assumption)))) hr7 hc7).mono ?_; rintro e x8 ⟨⟨v, rfl, hv⟩, hx8⟩; obtain ⟨A8, c8, rfl, hc8, hr8⟩ := hv)
  go_ret
  exact ⟨rfl, (hx0.trans (hx1.trans (hx2.trans (hx3.trans (hx4.trans (hx5.trans (hx6.trans (hx7.trans hx8))))))))⟩
set_option maxRecDepth 100000 in
set_option maxHeartbeats 4000000 in
theorem back_ad_out (a0 : Option Addr) (len0 cap0 : Nat) (L0 : List Px.Pr) (a1 : Option Addr) (len1 cap1 : Nat) (f1 : Nat → Int) (a2 : Int) (w : World) (hkat : KAt w) (w0 : InPrs w a0 len0 cap0 L0) (w1 : InRow w a1 len1 cap1 f1) (w2 : (Lit.int .i64 a2).wf = true) (b : Px.B) (hbl : b.length = len1) (hrow : RowAt w a1 b.length (Px.rowF b)) (hEL : (Px.putF L0).2.2 ≠ 0) (hFB : (Px.getF b 0 []).2.2 = 0) (p : Px.Pr) (hT : L0[0]? = some p) (hp0 : Px.fits p = 0) (hcut : a2 < 1 ∨ (Px.psize p : Int) ≤ a2) :
    Calls Tryd.prog 7 #[.slice a0 len0 cap0, .slice a1 len1 cap1, .int .i64 a2] w fun e w' => e = .returned (.bool true) ∧ Below w.heap.size w w' := by
  obtain ⟨hlen, hprs, hle, hroom, hnil, heach⟩ := w0
  have HK : Hid (KAt w) := hkat
  clear hkat
  have hle1 := w1.le
  have hroom1 := w1.room
  have HPR : Hid (PrsAt w a0 L0) := hprs
  have HNL : Hid (L0.length = len0) := hlen
  have HBL : Hid (b.length = len1) := hbl
  have HRB : Hid (RowAt w a1 b.length (Px.rowF b)) := hrow
  have HE : Hid (∀ p ∈ L0, p.1.length ≤ 140737488355328 ∧ p.2.length ≤ 140737488355328) := fun p hp => by obtain ⟨h1, h2⟩ := heach p hp; exact ⟨by omega, by omega⟩
  clear hprs hlen heach hnil hbl hrow w1 w2
  have HPut : Hid (∀ u, KAt u → PrsAt u a0 L0 → Calls Tryd.prog 14 #[.slice a0 len0 cap0] u fun e w' => PutSays L0 e w' ∧ Bw u w') := fun u hku h => by
    have := pput_any a0 cap0 L0 (by rw [HNL.out]; omega) (by rw [HNL.out]; exact hle) HE.out u hku h
    rw [HNL.out] at this
    exact this
  have HGetB : Hid (∀ u, KAt u → RowAt u a1 b.length (Px.rowF b) → Calls Tryd.prog 17 #[.slice a1 len1 cap1] u fun e w' => GetSays b e w' ∧ Bw u w') := fun u hku h => by
    have := pget_any a1 cap1 b (by rw [HBL.out]; omega) (by rw [HBL.out]; exact hle1) u hku h
    rw [HBL.out] at this
    exact this
  obtain ⟨rL, iL, eL, hPF⟩ : ∃ r i e, Hid (Px.putF L0 = (r, i, e)) := ⟨_, _, _, show Px.putF L0 = _ from rfl⟩
  have heL : eL ≠ 0 := by rw [hPF.out] at hEL; exact hEL
  have e1 : ((eL : Int) == 0) = false := by rw [beq_eq_false_iff_ne]; omega
  have heLb : eL ≤ 100 := by have := Px.put_er L0; rw [hPF.out] at this; exact this
  have hiLb : iL ≤ 64 := by have := (Px.put_place L0).2; rw [hPF.out] at this; exact this
  clear hEL
  obtain ⟨r, hGF⟩ : ∃ r, Hid (Px.getF b 0 [] = (r, 0, 0)) := ⟨(Px.getF b 0 []).1, by show _ = _; have h1 := Px.get_zero hFB; obtain ⟨x, y, z, hx⟩ : ∃ x y z, Px.getF b 0 [] = (x, y, z) := ⟨_, _, _, rfl⟩; rw [hx] at h1 hFB ⊢; dsimp only at h1 hFB ⊢; rw [h1, hFB]⟩
  have hgo := Px.get_ok _ b 0 [] r (Nat.le_refl _) (by simp) (fun p hp => by simp at hp) List.Pairwise.nil hGF.out
  have HPM : Hid (Px.putF r = (b, 0, 0)) := by
    show _ = _
    rw [Px.put_all ⟨hgo.1, hgo.2.1, hgo.2.2.1⟩, hgo.2.2.2]; rfl
  have hrl0 : r.length ≤ 64 := hgo.1
  have HSR : Hid (∀ p ∈ r, p.1.length ≤ 140737488355328 ∧ p.2.length ≤ 140737488355328) := fun p hp => by
    have h1 := Px.fits_ok (hgo.2.1 p hp)
    have h2 := (Px.key_ok h1.1).2.2
    exact ⟨by omega, by omega⟩
  obtain ⟨lr, hlr⟩ : ∃ l, Hid (r.length = l) := ⟨_, rfl⟩
  rw [hlr.out] at hrl0
  have HPutM : Hid (∀ u A c, KAt u → lr ≤ c → PrsAt u A r → Calls Tryd.prog 14 #[.slice A lr c] u fun e w' => (∃ v, e = .returned (.tuple #[v, .int .i64 0, .int .i64 0]) ∧ RowIs w' v b) ∧ Bw u w') := fun u A c hku hc h => by
    have := pput_any A c r (by rw [hlr.out]; omega) (by rw [hlr.out]; exact hc) HSR.out u hku h
    unfold PutSays at this
    rw [hlr.out, HPM.out] at this
    exact this
  have HBytes : Hid (∀ u A c, RowAt u A b.length (Px.rowF b) → RowAt u a1 b.length (Px.rowF b) → Calls Tryd.prog 12 #[.slice A len1 c, .slice a1 len1 cap1] u fun e w' => e = .returned (.bool true) ∧ ∃ q, w' = u.drewN q) := fun u A c h1 h2 => by
    have := bytes9_any A a1 c cap1 b b (by rw [HBL.out]; omega) (by rw [HBL.out]; omega) u h1 h2
    rw [HBL.out, decide_eq_true rfl] at this
    exact this
  clear hgo hFB
  have hz0 : 0 < len0 := by
    have := (List.getElem?_eq_some_iff.1 hT).1
    rw [HNL.out] at this; exact this
  have e5 : ((len0 : Int) == 0) = false := by rw [beq_eq_false_iff_ne]; omega
  have z5 : (0 : Int) < (len0 : Int) := by omega
  have HT : Hid (L0[0]? = some p) := hT
  have hsz := HE.out p (List.mem_of_getElem? hT)
  clear hT
  have hs1 : (Nm.S p.1).size ≤ 140737488355328 := by rw [Nm.size_S]; exact hsz.1
  have hs2 : (Nm.S p.2).size ≤ 140737488355328 := by rw [Nm.size_S]; exact hsz.2
  obtain ⟨b0, o0, ha0, hcell⟩ := HPR.out.at (by rw [HNL.out]; exact hz0)
  subst ha0
  have HC0 : Hid (∀ W, Bw w W → W.cell? ⟨b0, o0, none⟩ = some (.string (Nm.S p.1)) ∧ W.cell? ⟨b0, o0 + 1, none⟩ = some (.string (Nm.S p.2))) := fun W h => by
    obtain ⟨g1, g2⟩ := hcell 0 p HT.out
    rw [Nat.zero_mul, Nat.add_zero] at g1 g2
    have hlt := block_lt_of_cell g1
    rw [h.cell (p := ⟨b0, o0, none⟩) hlt, h.cell (p := ⟨b0, o0 + 1, none⟩) hlt]
    exact ⟨g1, g2⟩
  clear hcell hsz
  obtain ⟨rr, hrr⟩ : ∃ r, Hid (Px.rcd p = r) := ⟨_, rfl⟩
  obtain ⟨z, hz⟩ : ∃ z, Hid (Px.psize p = z) := ⟨_, rfl⟩
  have hrl : Hid (rr.length = z) := by show _ = _; rw [← hrr.out, Px.rcd_len, hz.out]
  have hzb : z ≤ 1064 := by rw [← hz.out]; exact Px.psize_le hp0
  have HRec : Hid (∀ u, KAt u → Calls Tryd.prog 8 #[.agg #[.string (Nm.S p.1), .string (Nm.S p.2)]] u fun e w' => (∃ A c, e = .returned (.tuple #[.slice A z c, .int .i64 0]) ∧ z ≤ c ∧ RowAt w' A rr.length (Px.rowF rr)) ∧ Bw u w') := fun u hku => by
    have := precord_any (Nm.S p.1) (Nm.S p.2) hs1 hs2 u hku
    unfold RecSays at this
    rw [Nm.toList_S, Nm.toList_S, show Px.recF (p.1, p.2) = (rr, 0) by unfold Px.recF; rw [show ((p.1, p.2) : Px.Pr) = p from rfl, if_neg (by rw [hp0]; simp), hrr.out]] at this
    refine this.mono ?_
    rintro e w' ⟨⟨v, he, A, c, hv, hc, hr⟩, hb⟩
    rw [hrl.out] at hv hc
    exact ⟨⟨A, c, by rw [he, hv]; rfl, hc, hr⟩, hb⟩
  rw [hz.out] at hcut
  clear hp0
  go_enter Tryd.func7, Tryd.ntmps7
  go_wp2_with (go_at_call 22; refine (awake9_any _ HK.out).mono ?_; rintro e x0 ⟨rfl, hx0⟩)
  go_wp2_with (go_at_call 14; refine (HPut.out _ (HK.out.keep (by repeat (first | assumption | (apply Bw.trans; assumption)))) (HPR.out.keep hx0)).mono ?_; rintro e x1 ⟨⟨v, rfl, hv⟩, hx1⟩; rw [hPF.out] at hv ⊢; (try dsimp only at hv); obtain ⟨A1, c1, rfl, hc1, hr1⟩ := hv)
  go_wp2_with (go_at_call 17; refine (HGetB.out _ (HK.out.keep (by repeat (first | assumption | (apply Bw.trans; assumption)))) (HRB.out.keep (hx0.trans hx1))).mono ?_; rintro e x4 ⟨⟨v, rfl, hv⟩, hx4⟩; rw [hGF.out] at hv ⊢; (try dsimp only at hv); obtain ⟨A4, c4, rfl, hc4, hr4⟩ := hv; rw [hlr.out] at hc4 ⊢)
  go_wp2_with (go_at_call 14; refine (HPutM.out _ A4 c4 (HK.out.keep (by repeat (first | assumption | (apply Bw.trans; assumption)))) hc4 hr4).mono ?_; rintro e x5 ⟨⟨v, rfl, hv⟩, hx5⟩; obtain ⟨A5, c5, rfl, hc5, hr5⟩ := hv; rw [HBL.out] at hc5 ⊢)
  go_wp2_with (go_at_call 12; refine (HBytes.out _ A5 c5 hr5 (HRB.out.keep (hx0.trans (hx1.trans (hx4.trans hx5))))).mono ?_; rintro e x6 ⟨rfl, q6, hq6⟩; have hx6 := bw_of_drew hq6; clear hq6; obtain ⟨z1, z2⟩ := HC0.out _ (hx0.trans (hx1.trans (hx4.trans (hx5.trans hx6)))))
  by_cases hc : a2 < 1
  · go_wp2_with (go_at_call 8; refine (HRec.out _ (HK.out.keep (by repeat (first | assumption | (apply Bw.trans; assumption))))).mono ?_; rintro e x7 ⟨⟨A7, c7, rfl, hc7, hr7⟩, hx7⟩)
    go_ret
    exact ⟨rfl, (hx0.trans (hx1.trans (hx4.trans (hx5.trans (hx6.trans hx7)))))⟩
  · have hc2' : (z : Int) ≤ a2 := hcut.resolve_left hc
    have hc3' : (1 : Int) ≤ a2 := by omega
    clear hc hcut
    go_wp2_with (go_at_call 8; refine (HRec.out _ (HK.out.keep (by repeat (first | assumption | (apply Bw.trans; assumption))))).mono ?_; rintro e x7 ⟨⟨A7, c7, rfl, hc7, hr7⟩, hx7⟩)
    go_ret
    exact ⟨rfl, (hx0.trans (hx1.trans (hx4.trans (hx5.trans (hx6.trans hx7)))))⟩
set_option maxRecDepth 100000 in
set_option maxHeartbeats 4000000 in
theorem back_ad_cut (a0 : Option Addr) (len0 cap0 : Nat) (L0 : List Px.Pr) (a1 : Option Addr) (len1 cap1 : Nat) (f1 : Nat → Int) (a2 : Int) (w : World) (hkat : KAt w) (w0 : InPrs w a0 len0 cap0 L0) (w1 : InRow w a1 len1 cap1 f1) (w2 : (Lit.int .i64 a2).wf = true) (b : Px.B) (hbl : b.length = len1) (hrow : RowAt w a1 b.length (Px.rowF b)) (hEL : (Px.putF L0).2.2 ≠ 0) (hFB : (Px.getF b 0 []).2.2 = 0) (p : Px.Pr) (hT : L0[0]? = some p) (hp0 : Px.fits p = 0) (k : Nat) (hk : a2 = (k : Int)) (hk1 : 1 ≤ k) (hk2 : k < Px.psize p) :
    Calls Tryd.prog 7 #[.slice a0 len0 cap0, .slice a1 len1 cap1, .int .i64 a2] w fun e w' => e = .returned (.bool true) ∧ Below w.heap.size w w' := by
  obtain ⟨hlen, hprs, hle, hroom, hnil, heach⟩ := w0
  have HK : Hid (KAt w) := hkat
  clear hkat
  have hle1 := w1.le
  have hroom1 := w1.room
  have HPR : Hid (PrsAt w a0 L0) := hprs
  have HNL : Hid (L0.length = len0) := hlen
  have HBL : Hid (b.length = len1) := hbl
  have HRB : Hid (RowAt w a1 b.length (Px.rowF b)) := hrow
  have HE : Hid (∀ p ∈ L0, p.1.length ≤ 140737488355328 ∧ p.2.length ≤ 140737488355328) := fun p hp => by obtain ⟨h1, h2⟩ := heach p hp; exact ⟨by omega, by omega⟩
  clear hprs hlen heach hnil hbl hrow w1 w2
  have HPut : Hid (∀ u, KAt u → PrsAt u a0 L0 → Calls Tryd.prog 14 #[.slice a0 len0 cap0] u fun e w' => PutSays L0 e w' ∧ Bw u w') := fun u hku h => by
    have := pput_any a0 cap0 L0 (by rw [HNL.out]; omega) (by rw [HNL.out]; exact hle) HE.out u hku h
    rw [HNL.out] at this
    exact this
  have HGetB : Hid (∀ u, KAt u → RowAt u a1 b.length (Px.rowF b) → Calls Tryd.prog 17 #[.slice a1 len1 cap1] u fun e w' => GetSays b e w' ∧ Bw u w') := fun u hku h => by
    have := pget_any a1 cap1 b (by rw [HBL.out]; omega) (by rw [HBL.out]; exact hle1) u hku h
    rw [HBL.out] at this
    exact this
  obtain ⟨rL, iL, eL, hPF⟩ : ∃ r i e, Hid (Px.putF L0 = (r, i, e)) := ⟨_, _, _, show Px.putF L0 = _ from rfl⟩
  have heL : eL ≠ 0 := by rw [hPF.out] at hEL; exact hEL
  have e1 : ((eL : Int) == 0) = false := by rw [beq_eq_false_iff_ne]; omega
  have heLb : eL ≤ 100 := by have := Px.put_er L0; rw [hPF.out] at this; exact this
  have hiLb : iL ≤ 64 := by have := (Px.put_place L0).2; rw [hPF.out] at this; exact this
  clear hEL
  obtain ⟨r, hGF⟩ : ∃ r, Hid (Px.getF b 0 [] = (r, 0, 0)) := ⟨(Px.getF b 0 []).1, by show _ = _; have h1 := Px.get_zero hFB; obtain ⟨x, y, z, hx⟩ : ∃ x y z, Px.getF b 0 [] = (x, y, z) := ⟨_, _, _, rfl⟩; rw [hx] at h1 hFB ⊢; dsimp only at h1 hFB ⊢; rw [h1, hFB]⟩
  have hgo := Px.get_ok _ b 0 [] r (Nat.le_refl _) (by simp) (fun p hp => by simp at hp) List.Pairwise.nil hGF.out
  have HPM : Hid (Px.putF r = (b, 0, 0)) := by
    show _ = _
    rw [Px.put_all ⟨hgo.1, hgo.2.1, hgo.2.2.1⟩, hgo.2.2.2]; rfl
  have hrl0 : r.length ≤ 64 := hgo.1
  have HSR : Hid (∀ p ∈ r, p.1.length ≤ 140737488355328 ∧ p.2.length ≤ 140737488355328) := fun p hp => by
    have h1 := Px.fits_ok (hgo.2.1 p hp)
    have h2 := (Px.key_ok h1.1).2.2
    exact ⟨by omega, by omega⟩
  obtain ⟨lr, hlr⟩ : ∃ l, Hid (r.length = l) := ⟨_, rfl⟩
  rw [hlr.out] at hrl0
  have HPutM : Hid (∀ u A c, KAt u → lr ≤ c → PrsAt u A r → Calls Tryd.prog 14 #[.slice A lr c] u fun e w' => (∃ v, e = .returned (.tuple #[v, .int .i64 0, .int .i64 0]) ∧ RowIs w' v b) ∧ Bw u w') := fun u A c hku hc h => by
    have := pput_any A c r (by rw [hlr.out]; omega) (by rw [hlr.out]; exact hc) HSR.out u hku h
    unfold PutSays at this
    rw [hlr.out, HPM.out] at this
    exact this
  have HBytes : Hid (∀ u A c, RowAt u A b.length (Px.rowF b) → RowAt u a1 b.length (Px.rowF b) → Calls Tryd.prog 12 #[.slice A len1 c, .slice a1 len1 cap1] u fun e w' => e = .returned (.bool true) ∧ ∃ q, w' = u.drewN q) := fun u A c h1 h2 => by
    have := bytes9_any A a1 c cap1 b b (by rw [HBL.out]; omega) (by rw [HBL.out]; omega) u h1 h2
    rw [HBL.out, decide_eq_true rfl] at this
    exact this
  clear hgo hFB
  have hz0 : 0 < len0 := by
    have := (List.getElem?_eq_some_iff.1 hT).1
    rw [HNL.out] at this; exact this
  have e5 : ((len0 : Int) == 0) = false := by rw [beq_eq_false_iff_ne]; omega
  have z5 : (0 : Int) < (len0 : Int) := by omega
  have HT : Hid (L0[0]? = some p) := hT
  have hsz := HE.out p (List.mem_of_getElem? hT)
  clear hT
  have hs1 : (Nm.S p.1).size ≤ 140737488355328 := by rw [Nm.size_S]; exact hsz.1
  have hs2 : (Nm.S p.2).size ≤ 140737488355328 := by rw [Nm.size_S]; exact hsz.2
  obtain ⟨b0, o0, ha0, hcell⟩ := HPR.out.at (by rw [HNL.out]; exact hz0)
  subst ha0
  have HC0 : Hid (∀ W, Bw w W → W.cell? ⟨b0, o0, none⟩ = some (.string (Nm.S p.1)) ∧ W.cell? ⟨b0, o0 + 1, none⟩ = some (.string (Nm.S p.2))) := fun W h => by
    obtain ⟨g1, g2⟩ := hcell 0 p HT.out
    rw [Nat.zero_mul, Nat.add_zero] at g1 g2
    have hlt := block_lt_of_cell g1
    rw [h.cell (p := ⟨b0, o0, none⟩) hlt, h.cell (p := ⟨b0, o0 + 1, none⟩) hlt]
    exact ⟨g1, g2⟩
  clear hcell hsz
  obtain ⟨rr, hrr⟩ : ∃ r, Hid (Px.rcd p = r) := ⟨_, rfl⟩
  obtain ⟨z, hz⟩ : ∃ z, Hid (Px.psize p = z) := ⟨_, rfl⟩
  have hrl : Hid (rr.length = z) := by show _ = _; rw [← hrr.out, Px.rcd_len, hz.out]
  have hzb : z ≤ 1064 := by rw [← hz.out]; exact Px.psize_le hp0
  have HRec : Hid (∀ u, KAt u → Calls Tryd.prog 8 #[.agg #[.string (Nm.S p.1), .string (Nm.S p.2)]] u fun e w' => (∃ A c, e = .returned (.tuple #[.slice A z c, .int .i64 0]) ∧ z ≤ c ∧ RowAt w' A rr.length (Px.rowF rr)) ∧ Bw u w') := fun u hku => by
    have := precord_any (Nm.S p.1) (Nm.S p.2) hs1 hs2 u hku
    unfold RecSays at this
    rw [Nm.toList_S, Nm.toList_S, show Px.recF (p.1, p.2) = (rr, 0) by unfold Px.recF; rw [show ((p.1, p.2) : Px.Pr) = p from rfl, if_neg (by rw [hp0]; simp), hrr.out]] at this
    refine this.mono ?_
    rintro e w' ⟨⟨v, he, A, c, hv, hc, hr⟩, hb⟩
    rw [hrl.out] at hv hc
    exact ⟨⟨A, c, by rw [he, hv]; rfl, hc, hr⟩, hb⟩
  rw [hz.out] at hk2
  subst hk
  have k1 : (1 : Int) ≤ (k : Int) := by omega
  have k2 : (k : Int) < (z : Int) := by omega
  have k0 : (0 : Int) ≤ (k : Int) := by omega
  have HGetC : Hid (∀ u A c, KAt u → RowAt u A rr.length (Px.rowF rr) → z ≤ c → Calls Tryd.prog 17 #[.slice A k c] u fun e w' => (∃ v, e = .returned (.tuple #[v, .int .i64 0, .int .i64 90]) ∧ PrsIs w' v []) ∧ Bw u w') := fun u A c hku h hc => by
    have hlt : (rr.take k).length = k := by rw [List.length_take, hrl.out]; omega
    have hfr : RowAt u A (rr.take k).length (Px.rowF (rr.take k)) := RowAt.front (b := rr.drop k) (by rw [List.take_append_drop]; exact h)
    have := pget_any A c (rr.take k) (by rw [hlt]; omega) (by rw [hlt]; omega) u hku hfr
    unfold GetSays at this
    rw [hlt, ← hrr.out, Px.get_cut p hp0 k hk1 (by rw [hz.out]; exact hk2)] at this
    exact this
  clear hp0
  go_enter Tryd.func7, Tryd.ntmps7
  go_wp2_with (go_at_call 22; refine (awake9_any _ HK.out).mono ?_; rintro e x0 ⟨rfl, hx0⟩)
  go_wp2_with (go_at_call 14; refine (HPut.out _ (HK.out.keep (by repeat (first | assumption | (apply Bw.trans; assumption)))) (HPR.out.keep hx0)).mono ?_; rintro e x1 ⟨⟨v, rfl, hv⟩, hx1⟩; rw [hPF.out] at hv ⊢; (try dsimp only at hv); obtain ⟨A1, c1, rfl, hc1, hr1⟩ := hv)
  go_wp2_with (go_at_call 17; refine (HGetB.out _ (HK.out.keep (by repeat (first | assumption | (apply Bw.trans; assumption)))) (HRB.out.keep (hx0.trans hx1))).mono ?_; rintro e x4 ⟨⟨v, rfl, hv⟩, hx4⟩; rw [hGF.out] at hv ⊢; (try dsimp only at hv); obtain ⟨A4, c4, rfl, hc4, hr4⟩ := hv; rw [hlr.out] at hc4 ⊢)
  go_wp2_with (go_at_call 14; refine (HPutM.out _ A4 c4 (HK.out.keep (by repeat (first | assumption | (apply Bw.trans; assumption)))) hc4 hr4).mono ?_; rintro e x5 ⟨⟨v, rfl, hv⟩, hx5⟩; obtain ⟨A5, c5, rfl, hc5, hr5⟩ := hv; rw [HBL.out] at hc5 ⊢)
  go_wp2_with (go_at_call 12; refine (HBytes.out _ A5 c5 hr5 (HRB.out.keep (hx0.trans (hx1.trans (hx4.trans hx5))))).mono ?_; rintro e x6 ⟨rfl, q6, hq6⟩; have hx6 := bw_of_drew hq6; clear hq6; obtain ⟨z1, z2⟩ := HC0.out _ (hx0.trans (hx1.trans (hx4.trans (hx5.trans hx6)))))
  go_wp2_with (go_at_call 8; refine (HRec.out _ (HK.out.keep (by repeat (first | assumption | (apply Bw.trans; assumption))))).mono ?_; rintro e x7 ⟨⟨A7, c7, rfl, hc7, hr7⟩, hx7⟩; have k7 : (k : Int) ≤ (c7 : Int) := by omega)
  go_wp2_with (go_at_call 17; refine (HGetC.out _ A7 c7 (HK.out.keep (by repeat (first | assumption | (apply Bw.trans; assumption)))) hr7 hc7).mono ?_; rintro e x8 ⟨⟨v, rfl, hv⟩, hx8⟩; obtain ⟨A8, c8, rfl, hc8, hr8⟩ := hv)
  go_ret
  exact ⟨rfl, (hx0.trans (hx1.trans (hx4.trans (hx5.trans (hx6.trans (hx7.trans hx8))))))⟩
set_option maxRecDepth 100000 in
set_option maxHeartbeats 4000000 in
theorem back_bc_nil (a0 : Option Addr) (len0 cap0 : Nat) (L0 : List Px.Pr) (a1 : Option Addr) (len1 cap1 : Nat) (f1 : Nat → Int) (a2 : Int) (w : World) (hkat : KAt w) (w0 : InPrs w a0 len0 cap0 L0) (w1 : InRow w a1 len1 cap1 f1) (w2 : (Lit.int .i64 a2).wf = true) (b : Px.B) (hbl : b.length = len1) (hrow : RowAt w a1 b.length (Px.rowF b)) (hEL : (Px.putF L0).2.2 = 0) (hFB : (Px.getF b 0 []).2.2 ≠ 0) (hT : L0 = []) :
    Calls Tryd.prog 7 #[.slice a0 len0 cap0, .slice a1 len1 cap1, .int .i64 a2] w fun e w' => e = .returned (.bool true) ∧ Below w.heap.size w w' := by
  obtain ⟨hlen, hprs, hle, hroom, hnil, heach⟩ := w0
  have HK : Hid (KAt w) := hkat
  clear hkat
  have hle1 := w1.le
  have hroom1 := w1.room
  have HPR : Hid (PrsAt w a0 L0) := hprs
  have HNL : Hid (L0.length = len0) := hlen
  have HBL : Hid (b.length = len1) := hbl
  have HRB : Hid (RowAt w a1 b.length (Px.rowF b)) := hrow
  have HE : Hid (∀ p ∈ L0, p.1.length ≤ 140737488355328 ∧ p.2.length ≤ 140737488355328) := fun p hp => by obtain ⟨h1, h2⟩ := heach p hp; exact ⟨by omega, by omega⟩
  clear hprs hlen heach hnil hbl hrow w1 w2
  have HPut : Hid (∀ u, KAt u → PrsAt u a0 L0 → Calls Tryd.prog 14 #[.slice a0 len0 cap0] u fun e w' => PutSays L0 e w' ∧ Bw u w') := fun u hku h => by
    have := pput_any a0 cap0 L0 (by rw [HNL.out]; omega) (by rw [HNL.out]; exact hle) HE.out u hku h
    rw [HNL.out] at this
    exact this
  have HGetB : Hid (∀ u, KAt u → RowAt u a1 b.length (Px.rowF b) → Calls Tryd.prog 17 #[.slice a1 len1 cap1] u fun e w' => GetSays b e w' ∧ Bw u w') := fun u hku h => by
    have := pget_any a1 cap1 b (by rw [HBL.out]; omega) (by rw [HBL.out]; exact hle1) u hku h
    rw [HBL.out] at this
    exact this
  have hPF := Px.put_good hEL
  have hok := (Px.put_ok L0).1 hEL
  obtain ⟨ab, hab⟩ : ∃ ab, Hid (Px.all9 L0 = ab) := ⟨_, rfl⟩
  have HPF : Hid (Px.putF L0 = (ab, 0, 0)) := by show _ = _; rw [hPF, hab.out]
  have hlb0 : ab.length ≤ 68096 := by
    have := Px.all9_bd L0 hok.2.1
    rw [hab.out] at this
    have := hok.1
    omega
  obtain ⟨lb, hlb⟩ : ∃ l, Hid (ab.length = l) := ⟨_, rfl⟩
  rw [hlb.out] at hlb0
  have HGet : Hid (Px.getF ab 0 [] = (L0, 0, 0)) := by
    show _ = _
    rw [← hab.out]
    exact Px.get_put L0 [] 0 hok.1 hok.2.1 hok.2.2
  have HGetA : Hid (∀ u A c, KAt u → RowAt u A ab.length (Px.rowF ab) → lb ≤ c → Calls Tryd.prog 17 #[.slice A lb c] u fun e w' => (∃ v, e = .returned (.tuple #[v, .int .i64 0, .int .i64 0]) ∧ PrsIs w' v L0) ∧ Bw u w') := fun u A c hku h hc => by
    have := pget_any A c ab (by rw [hlb.out]; omega) (by rw [hlb.out]; exact hc) u hku h
    unfold GetSays at this
    rw [hlb.out, HGet.out] at this
    exact this
  have HPairs : Hid (∀ u A c, PrsAt u A L0 → PrsAt u a0 L0 → Calls Tryd.prog 19 #[.slice A len0 c, .slice a0 len0 cap0] u fun e w' => e = .returned (.bool true) ∧ ∃ q, w' = u.drewN q) := fun u A c h1 h2 => by
    have := pairs9_any A a0 c cap0 L0 L0 (by rw [HNL.out]; omega) (by rw [HNL.out]; omega) u h1 h2
    rw [HNL.out, decide_eq_true rfl] at this
    exact this
  clear hPF hok hEL
  obtain ⟨r, i, er, hGF⟩ : ∃ r i er, Hid (Px.getF b 0 [] = (r, i, er)) := ⟨_, _, _, show Px.getF b 0 [] = _ from rfl⟩
  have hgb := Px.get_bad hFB
  rw [hGF.out] at hgb hFB
  dsimp only at hgb hFB
  obtain ⟨rfl, -, hib⟩ := hgb
  rw [HBL.out, Nat.zero_add] at hib
  have herb : er ≤ 100 := by have := Px.get_er _ b 0 [] (Nat.le_refl _); rw [hGF.out] at this; exact this
  have e2 : ((er : Int) != 0) = true := by rw [bne_iff_ne]; omega
  have i0' : (0 : Int) ≤ (i : Int) := Int.natCast_nonneg _
  have i1' : (i : Int) ≤ (len1 : Int) := by omega
  have hz0 : Hid (len0 = 0) := by show _ = _; rw [← HNL.out, hT]; rfl
  have e5 : ((len0 : Int) == 0) = true := by rw [beq_iff_eq]; have := hz0.out; omega
  clear hT
  go_enter Tryd.func7, Tryd.ntmps7
  go_wp2_with (go_at_call 22; refine (awake9_any _ HK.out).mono ?_; rintro e x0 ⟨rfl, hx0⟩)
  go_wp2_with (go_at_call 14; refine (HPut.out _ (HK.out.keep (by repeat (first | assumption | (apply Bw.trans; assumption)))) (HPR.out.keep hx0)).mono ?_; rintro e x1 ⟨⟨v, rfl, hv⟩, hx1⟩; rw [HPF.out] at hv ⊢; (try dsimp only at hv); obtain ⟨A1, c1, rfl, hc1, hr1⟩ := hv; rw [hlb.out] at hc1 ⊢)
  go_wp2_with (go_at_call 17; refine (HGetA.out _ A1 c1 (HK.out.keep (by repeat (first | assumption | (apply Bw.trans; assumption)))) hr1 hc1).mono ?_; rintro e x2 ⟨⟨v, rfl, hv⟩, hx2⟩; obtain ⟨A2, c2, rfl, hc2, hr2⟩ := hv; rw [HNL.out] at hc2 ⊢)
  go_wp2_with (go_at_call 19; refine (HPairs.out _ A2 c2 hr2 (HPR.out.keep (hx0.trans (hx1.trans hx2)))).mono ?_; rintro e x3 ⟨rfl, q3, hq3⟩; have hx3 := bw_of_drew hq3; clear hq3)
  go_wp2_with (go_at_call 17; refine (HGetB.out _ (HK.out.keep (by repeat (first | assumption | (apply Bw.trans; assumption)))) (HRB.out.keep (hx0.trans (hx1.trans (hx2.trans hx3))))).mono ?_; rintro e x4 ⟨⟨v, rfl, hv⟩, hx4⟩; rw [hGF.out] at hv ⊢; (try dsimp only at hv); obtain ⟨A4, c4, rfl, hc4, hr4⟩ := hv)
  go_ret
  exact ⟨rfl, (hx0.trans (hx1.trans (hx2.trans (hx3.trans hx4))))⟩
set_option maxRecDepth 100000 in
set_option maxHeartbeats 4000000 in
theorem back_ac_rec (a0 : Option Addr) (len0 cap0 : Nat) (L0 : List Px.Pr) (a1 : Option Addr) (len1 cap1 : Nat) (f1 : Nat → Int) (a2 : Int) (w : World) (hkat : KAt w) (w0 : InPrs w a0 len0 cap0 L0) (w1 : InRow w a1 len1 cap1 f1) (w2 : (Lit.int .i64 a2).wf = true) (b : Px.B) (hbl : b.length = len1) (hrow : RowAt w a1 b.length (Px.rowF b)) (hEL : (Px.putF L0).2.2 ≠ 0) (hFB : (Px.getF b 0 []).2.2 ≠ 0) (p : Px.Pr) (hT : L0[0]? = some p) (hp0 : Px.fits p ≠ 0) :
    Calls Tryd.prog 7 #[.slice a0 len0 cap0, .slice a1 len1 cap1, .int .i64 a2] w fun e w' => e = .returned (.bool true) ∧ Below w.heap.size w w' := by
  obtain ⟨hlen, hprs, hle, hroom, hnil, heach⟩ := w0
  have HK : Hid (KAt w) := hkat
  clear hkat
  have hle1 := w1.le
  have hroom1 := w1.room
  have HPR : Hid (PrsAt w a0 L0) := hprs
  have HNL : Hid (L0.length = len0) := hlen
  have HBL : Hid (b.length = len1) := hbl
  have HRB : Hid (RowAt w a1 b.length (Px.rowF b)) := hrow
  have HE : Hid (∀ p ∈ L0, p.1.length ≤ 140737488355328 ∧ p.2.length ≤ 140737488355328) := fun p hp => by obtain ⟨h1, h2⟩ := heach p hp; exact ⟨by omega, by omega⟩
  clear hprs hlen heach hnil hbl hrow w1 w2
  have HPut : Hid (∀ u, KAt u → PrsAt u a0 L0 → Calls Tryd.prog 14 #[.slice a0 len0 cap0] u fun e w' => PutSays L0 e w' ∧ Bw u w') := fun u hku h => by
    have := pput_any a0 cap0 L0 (by rw [HNL.out]; omega) (by rw [HNL.out]; exact hle) HE.out u hku h
    rw [HNL.out] at this
    exact this
  have HGetB : Hid (∀ u, KAt u → RowAt u a1 b.length (Px.rowF b) → Calls Tryd.prog 17 #[.slice a1 len1 cap1] u fun e w' => GetSays b e w' ∧ Bw u w') := fun u hku h => by
    have := pget_any a1 cap1 b (by rw [HBL.out]; omega) (by rw [HBL.out]; exact hle1) u hku h
    rw [HBL.out] at this
    exact this
  obtain ⟨rL, iL, eL, hPF⟩ : ∃ r i e, Hid (Px.putF L0 = (r, i, e)) := ⟨_, _, _, show Px.putF L0 = _ from rfl⟩
  have heL : eL ≠ 0 := by rw [hPF.out] at hEL; exact hEL
  have e1 : ((eL : Int) == 0) = false := by rw [beq_eq_false_iff_ne]; omega
  have heLb : eL ≤ 100 := by have := Px.put_er L0; rw [hPF.out] at this; exact this
  have hiLb : iL ≤ 64 := by have := (Px.put_place L0).2; rw [hPF.out] at this; exact this
  clear hEL
  obtain ⟨r, i, er, hGF⟩ : ∃ r i er, Hid (Px.getF b 0 [] = (r, i, er)) := ⟨_, _, _, show Px.getF b 0 [] = _ from rfl⟩
  have hgb := Px.get_bad hFB
  rw [hGF.out] at hgb hFB
  dsimp only at hgb hFB
  obtain ⟨rfl, -, hib⟩ := hgb
  rw [HBL.out, Nat.zero_add] at hib
  have herb : er ≤ 100 := by have := Px.get_er _ b 0 [] (Nat.le_refl _); rw [hGF.out] at this; exact this
  have e2 : ((er : Int) != 0) = true := by rw [bne_iff_ne]; omega
  have i0' : (0 : Int) ≤ (i : Int) := Int.natCast_nonneg _
  have i1' : (i : Int) ≤ (len1 : Int) := by omega
  have hz0 : 0 < len0 := by
    have := (List.getElem?_eq_some_iff.1 hT).1
    rw [HNL.out] at this; exact this
  have e5 : ((len0 : Int) == 0) = false := by rw [beq_eq_false_iff_ne]; omega
  have z5 : (0 : Int) < (len0 : Int) := by omega
  have HT : Hid (L0[0]? = some p) := hT
  have hsz := HE.out p (List.mem_of_getElem? hT)
  clear hT
  have hs1 : (Nm.S p.1).size ≤ 140737488355328 := by rw [Nm.size_S]; exact hsz.1
  have hs2 : (Nm.S p.2).size ≤ 140737488355328 := by rw [Nm.size_S]; exact hsz.2
  obtain ⟨b0, o0, ha0, hcell⟩ := HPR.out.at (by rw [HNL.out]; exact hz0)
  subst ha0
  have HC0 : Hid (∀ W, Bw w W → W.cell? ⟨b0, o0, none⟩ = some (.string (Nm.S p.1)) ∧ W.cell? ⟨b0, o0 + 1, none⟩ = some (.string (Nm.S p.2))) := fun W h => by
    obtain ⟨g1, g2⟩ := hcell 0 p HT.out
    rw [Nat.zero_mul, Nat.add_zero] at g1 g2
    have hlt := block_lt_of_cell g1
    rw [h.cell (p := ⟨b0, o0, none⟩) hlt, h.cell (p := ⟨b0, o0 + 1, none⟩) hlt]
    exact ⟨g1, g2⟩
  clear hcell hsz
  obtain ⟨ef, hef⟩ : ∃ e, Hid (Px.fits p = e) := ⟨_, rfl⟩
  have hefb : ef ≤ 100 := by have := Px.fits_vals p; rw [hef.out] at this; omega
  have hef0 : ef ≠ 0 := by rw [← hef.out]; exact hp0
  have e6 : ((ef : Int) != 0) = true := by rw [bne_iff_ne]; omega
  have HRec : Hid (∀ u, KAt u → Calls Tryd.prog 8 #[.agg #[.string (Nm.S p.1), .string (Nm.S p.2)]] u fun e w' => (∃ v, e = .returned (.tuple #[v, .int .i64 (ef : Int)]) ∧ RowIs w' v []) ∧ Bw u w') := fun u hku => by
    have := precord_any (Nm.S p.1) (Nm.S p.2) hs1 hs2 u hku
    unfold RecSays at this
    rw [Nm.toList_S, Nm.toList_S, show Px.recF (p.1, p.2) = ([], ef) by unfold Px.recF; rw [show ((p.1, p.2) : Px.Pr) = p from rfl, if_pos hp0, hef.out]] at this
    exact this
  clear hp0
  go_enter Tryd.func7, Tryd.ntmps7
  go_wp2_with (go_at_call 22; refine (awake9_any _ HK.out).mono ?_; rintro e x0 ⟨rfl, hx0⟩)
  go_wp2_with (go_at_call 14; refine (HPut.out _ (HK.out.keep (by repeat (first | assumption | (apply Bw.trans; assumption)))) (HPR.out.keep hx0)).mono ?_; rintro e x1 ⟨⟨v, rfl, hv⟩, hx1⟩; rw [hPF.out] at hv ⊢; (try dsimp only at hv); obtain ⟨A1, c1, rfl, hc1, hr1⟩ := hv)
  go_wp2_with (go_at_call 17; refine (HGetB.out _ (HK.out.keep (by repeat (first | assumption | (apply Bw.trans; assumption)))) (HRB.out.keep (hx0.trans hx1))).mono ?_; rintro e x4 ⟨⟨v, rfl, hv⟩, hx4⟩; rw [hGF.out] at hv ⊢; (try dsimp only at hv); obtain ⟨A4, c4, rfl, hc4, hr4⟩ := hv; obtain ⟨z1, z2⟩ := HC0.out _ (hx0.trans (hx1.trans hx4)))
  go_wp2_with (go_at_call 8; refine (HRec.out _ (HK.out.keep (by repeat (first | assumption | (apply Bw.trans; assumption))))).mono ?_; rintro e x7 ⟨⟨v, rfl, hv⟩, hx7⟩; obtain ⟨A7, c7, rfl, hc7, hr7⟩ := hv)
  go_ret
  exact ⟨rfl, (hx0.trans (hx1.trans (hx4.trans hx7)))⟩
set_option maxRecDepth 100000 in
set_option maxHeartbeats 4000000 in
theorem back_bc_out (a0 : Option Addr) (len0 cap0 : Nat) (L0 : List Px.Pr) (a1 : Option Addr) (len1 cap1 : Nat) (f1 : Nat → Int) (a2 : Int) (w : World) (hkat : KAt w) (w0 : InPrs w a0 len0 cap0 L0) (w1 : InRow w a1 len1 cap1 f1) (w2 : (Lit.int .i64 a2).wf = true) (b : Px.B) (hbl : b.length = len1) (hrow : RowAt w a1 b.length (Px.rowF b)) (hEL : (Px.putF L0).2.2 = 0) (hFB : (Px.getF b 0 []).2.2 ≠ 0) (p : Px.Pr) (hT : L0[0]? = some p) (hp0 : Px.fits p = 0) (hcut : a2 < 1 ∨ (Px.psize p : Int) ≤ a2) :
    Calls Tryd.prog 7 #[.slice a0 len0 cap0, .slice a1 len1 cap1, .int .i64 a2] w fun e w' => e = .returned (.bool true) ∧ Below w.heap.size w w' := by
  obtain ⟨hlen, hprs, hle, hroom, hnil, heach⟩ := w0
  have HK : Hid (KAt w) := hkat
  clear hkat
  have hle1 := w1.le
  have hroom1 := w1.room
  have HPR : Hid (PrsAt w a0 L0) := hprs
  have HNL : Hid (L0.length = len0) := hlen
  have HBL : Hid (b.length = len1) := hbl
  have HRB : Hid (RowAt w a1 b.length (Px.rowF b)) := hrow
  have HE : Hid (∀ p ∈ L0, p.1.length ≤ 140737488355328 ∧ p.2.length ≤ 140737488355328) := fun p hp => by obtain ⟨h1, h2⟩ := heach p hp; exact ⟨by omega, by omega⟩
  clear hprs hlen heach hnil hbl hrow w1 w2
  have HPut : Hid (∀ u, KAt u → PrsAt u a0 L0 → Calls Tryd.prog 14 #[.slice a0 len0 cap0] u fun e w' => PutSays L0 e w' ∧ Bw u w') := fun u hku h => by
    have := pput_any a0 cap0 L0 (by rw [HNL.out]; omega) (by rw [HNL.out]; exact hle) HE.out u hku h
    rw [HNL.out] at this
    exact this
  have HGetB : Hid (∀ u, KAt u → RowAt u a1 b.length (Px.rowF b) → Calls Tryd.prog 17 #[.slice a1 len1 cap1] u fun e w' => GetSays b e w' ∧ Bw u w') := fun u hku h => by
    have := pget_any a1 cap1 b (by rw [HBL.out]; omega) (by rw [HBL.out]; exact hle1) u hku h
    rw [HBL.out] at this
    exact this
  have hPF := Px.put_good hEL
  have hok := (Px.put_ok L0).1 hEL
  obtain ⟨ab, hab⟩ : ∃ ab, Hid (Px.all9 L0 = ab) := ⟨_, rfl⟩
  have HPF : Hid (Px.putF L0 = (ab, 0, 0)) := by show _ = _; rw [hPF, hab.out]
  have hlb0 : ab.length ≤ 68096 := by
    have := Px.all9_bd L0 hok.2.1
    rw [hab.out] at this
    have := hok.1
    omega
  obtain ⟨lb, hlb⟩ : ∃ l, Hid (ab.length = l) := ⟨_, rfl⟩
  rw [hlb.out] at hlb0
  have HGet : Hid (Px.getF ab 0 [] = (L0, 0, 0)) := by
    show _ = _
    rw [← hab.out]
    exact Px.get_put L0 [] 0 hok.1 hok.2.1 hok.2.2
  have HGetA : Hid (∀ u A c, KAt u → RowAt u A ab.length (Px.rowF ab) → lb ≤ c → Calls Tryd.prog 17 #[.slice A lb c] u fun e w' => (∃ v, e = .returned (.tuple #[v, .int .i64 0, .int .i64 0]) ∧ PrsIs w' v L0) ∧ Bw u w') := fun u A c hku h hc => by
    have := pget_any A c ab (by rw [hlb.out]; omega) (by rw [hlb.out]; exact hc) u hku h
    unfold GetSays at this
    rw [hlb.out, HGet.out] at this
    exact this
  have HPairs : Hid (∀ u A c, PrsAt u A L0 → PrsAt u a0 L0 → Calls Tryd.prog 19 #[.slice A len0 c, .slice a0 len0 cap0] u fun e w' => e = .returned (.bool true) ∧ ∃ q, w' = u.drewN q) := fun u A c h1 h2 => by
    have := pairs9_any A a0 c cap0 L0 L0 (by rw [HNL.out]; omega) (by rw [HNL.out]; omega) u h1 h2
    rw [HNL.out, decide_eq_true rfl] at this
    exact this
  clear hPF hok hEL
  obtain ⟨r, i, er, hGF⟩ : ∃ r i er, Hid (Px.getF b 0 [] = (r, i, er)) := ⟨_, _, _, show Px.getF b 0 [] = _ from rfl⟩
  have hgb := Px.get_bad hFB
  rw [hGF.out] at hgb hFB
  dsimp only at hgb hFB
  obtain ⟨rfl, -, hib⟩ := hgb
  rw [HBL.out, Nat.zero_add] at hib
  have herb : er ≤ 100 := by have := Px.get_er _ b 0 [] (Nat.le_refl _); rw [hGF.out] at this; exact this
  have e2 : ((er : Int) != 0) = true := by rw [bne_iff_ne]; omega
  have i0' : (0 : Int) ≤ (i : Int) := Int.natCast_nonneg _
  have i1' : (i : Int) ≤ (len1 : Int) := by omega
  have hz0 : 0 < len0 := by
    have := (List.getElem?_eq_some_iff.1 hT).1
    rw [HNL.out] at this; exact this
  have e5 : ((len0 : Int) == 0) = false := by rw [beq_eq_false_iff_ne]; omega
  have z5 : (0 : Int) < (len0 : Int) := by omega
  have HT : Hid (L0[0]? = some p) := hT
  have hsz := HE.out p (List.mem_of_getElem? hT)
  clear hT
  have hs1 : (Nm.S p.1).size ≤ 140737488355328 := by rw [Nm.size_S]; exact hsz.1
  have hs2 : (Nm.S p.2).size ≤ 140737488355328 := by rw [Nm.size_S]; exact hsz.2
  obtain ⟨b0, o0, ha0, hcell⟩ := HPR.out.at (by rw [HNL.out]; exact hz0)
  subst ha0
  have HC0 : Hid (∀ W, Bw w W → W.cell? ⟨b0, o0, none⟩ = some (.string (Nm.S p.1)) ∧ W.cell? ⟨b0, o0 + 1, none⟩ = some (.string (Nm.S p.2))) := fun W h => by
    obtain ⟨g1, g2⟩ := hcell 0 p HT.out
    rw [Nat.zero_mul, Nat.add_zero] at g1 g2
    have hlt := block_lt_of_cell g1
    rw [h.cell (p := ⟨b0, o0, none⟩) hlt, h.cell (p := ⟨b0, o0 + 1, none⟩) hlt]
    exact ⟨g1, g2⟩
  clear hcell hsz
  obtain ⟨rr, hrr⟩ : ∃ r, Hid (Px.rcd p = r) := ⟨_, rfl⟩
  obtain ⟨z, hz⟩ : ∃ z, Hid (Px.psize p = z) := ⟨_, rfl⟩
  have hrl : Hid (rr.length = z) := by show _ = _; rw [← hrr.out, Px.rcd_len, hz.out]
  have hzb : z ≤ 1064 := by rw [← hz.out]; exact Px.psize_le hp0
  have HRec : Hid (∀ u, KAt u → Calls Tryd.prog 8 #[.agg #[.string (Nm.S p.1), .string (Nm.S p.2)]] u fun e w' => (∃ A c, e = .returned (.tuple #[.slice A z c, .int .i64 0]) ∧ z ≤ c ∧ RowAt w' A rr.length (Px.rowF rr)) ∧ Bw u w') := fun u hku => by
    have := precord_any (Nm.S p.1) (Nm.S p.2) hs1 hs2 u hku
    unfold RecSays at this
    rw [Nm.toList_S, Nm.toList_S, show Px.recF (p.1, p.2) = (rr, 0) by unfold Px.recF; rw [show ((p.1, p.2) : Px.Pr) = p from rfl, if_neg (by rw [hp0]; simp), hrr.out]] at this
    refine this.mono ?_
    rintro e w' ⟨⟨v, he, A, c, hv, hc, hr⟩, hb⟩
    rw [hrl.out] at hv hc
    exact ⟨⟨A, c, by rw [he, hv]; rfl, hc, hr⟩, hb⟩
  rw [hz.out] at hcut
  clear hp0
  go_enter Tryd.func7, Tryd.ntmps7
  go_wp2_with (go_at_call 22; refine (awake9_any _ HK.out).mono ?_; rintro e x0 ⟨rfl, hx0⟩)
  go_wp2_with (go_at_call 14; refine (HPut.out _ (HK.out.keep (by repeat (first | assumption | (apply Bw.trans; assumption)))) (HPR.out.keep hx0)).mono ?_; rintro e x1 ⟨⟨v, rfl, hv⟩, hx1⟩; rw [HPF.out] at hv ⊢; (try dsimp only at hv); obtain ⟨A1, c1, rfl, hc1, hr1⟩ := hv; rw [hlb.out] at hc1 ⊢)
  go_wp2_with (go_at_call 17; refine (HGetA.out _ A1 c1 (HK.out.keep (by repeat (first | assumption | (apply Bw.trans; assumption)))) hr1 hc1).mono ?_; rintro e x2 ⟨⟨v, rfl, hv⟩, hx2⟩; obtain ⟨A2, c2, rfl, hc2, hr2⟩ := hv; rw [HNL.out] at hc2 ⊢)
  go_wp2_with (go_at_call 19; refine (HPairs.out _ A2 c2 hr2 (HPR.out.keep (hx0.trans (hx1.trans hx2)))).mono ?_; rintro e x3 ⟨rfl, q3, hq3⟩; have hx3 := bw_of_drew hq3; clear hq3)
  go_wp2_with (go_at_call 17; refine (HGetB.out _ (HK.out.keep (by repeat (first | assumption | (apply Bw.trans; assumption)))) (HRB.out.keep (hx0.trans (hx1.trans (hx2.trans hx3))))).mono ?_; rintro e x4 ⟨⟨v, rfl, hv⟩, hx4⟩; rw [hGF.out] at hv ⊢; (try dsimp only at hv); obtain ⟨A4, c4, rfl, hc4, hr4⟩ := hv; obtain ⟨z1, z2⟩ := HC0.out _ (hx0.trans (hx1.trans (hx2.trans (hx3.trans hx4)))))
  by_cases hc : a2 < 1
  · go_wp2_with (go_at_call 8; refine (HRec.out _ (HK.out.keep (by repeat (first | assumption | (apply Bw.trans; assumption))))).mono ?_; rintro e x7 ⟨⟨A7, c7, rfl, hc7, hr7⟩, hx7⟩)
    go_ret
    exact ⟨rfl, (hx0.trans (hx1.trans (hx2.trans (hx3.trans (hx4.trans hx7)))))⟩
  · have hc2' : (z : Int) ≤ a2 := hcut.resolve_left hc
    have hc3' : (1 : Int) ≤ a2 := by omega
    clear hc hcut
    go_wp2_with (go_at_call 8; refine (HRec.out _ (HK.out.keep (by repeat (first | assumption | (apply Bw.trans; assumption))))).mono ?_; rintro e x7 ⟨⟨A7, c7, rfl, hc7, hr7⟩, hx7⟩)
    go_ret
    exact ⟨rfl, (hx0.trans (hx1.trans (hx2.trans (hx3.trans (hx4.trans hx7)))))⟩
set_option maxRecDepth 100000 in
set_option maxHeartbeats 4000000 in
theorem back_bc_cut (a0 : Option Addr) (len0 cap0 : Nat) (L0 : List Px.Pr) (a1 : Option Addr) (len1 cap1 : Nat) (f1 : Nat → Int) (a2 : Int) (w : World) (hkat : KAt w) (w0 : InPrs w a0 len0 cap0 L0) (w1 : InRow w a1 len1 cap1 f1) (w2 : (Lit.int .i64 a2).wf = true) (b : Px.B) (hbl : b.length = len1) (hrow : RowAt w a1 b.length (Px.rowF b)) (hEL : (Px.putF L0).2.2 = 0) (hFB : (Px.getF b 0 []).2.2 ≠ 0) (p : Px.Pr) (hT : L0[0]? = some p) (hp0 : Px.fits p = 0) (k : Nat) (hk : a2 = (k : Int)) (hk1 : 1 ≤ k) (hk2 : k < Px.psize p) :
    Calls Tryd.prog 7 #[.slice a0 len0 cap0, .slice a1 len1 cap1, .int .i64 a2] w fun e w' => e = .returned (.bool true) ∧ Below w.heap.size w w' := by
  obtain ⟨hlen, hprs, hle, hroom, hnil, heach⟩ := w0
  have HK : Hid (KAt w) := hkat
  clear hkat
  have hle1 := w1.le
  have hroom1 := w1.room
  have HPR : Hid (PrsAt w a0 L0) := hprs
  have HNL : Hid (L0.length = len0) := hlen
  have HBL : Hid (b.length = len1) := hbl
  have HRB : Hid (RowAt w a1 b.length (Px.rowF b)) := hrow
  have HE : Hid (∀ p ∈ L0, p.1.length ≤ 140737488355328 ∧ p.2.length ≤ 140737488355328) := fun p hp => by obtain ⟨h1, h2⟩ := heach p hp; exact ⟨by omega, by omega⟩
  clear hprs hlen heach hnil hbl hrow w1 w2
  have HPut : Hid (∀ u, KAt u → PrsAt u a0 L0 → Calls Tryd.prog 14 #[.slice a0 len0 cap0] u fun e w' => PutSays L0 e w' ∧ Bw u w') := fun u hku h => by
    have := pput_any a0 cap0 L0 (by rw [HNL.out]; omega) (by rw [HNL.out]; exact hle) HE.out u hku h
    rw [HNL.out] at this
    exact this
  have HGetB : Hid (∀ u, KAt u → RowAt u a1 b.length (Px.rowF b) → Calls Tryd.prog 17 #[.slice a1 len1 cap1] u fun e w' => GetSays b e w' ∧ Bw u w') := fun u hku h => by
    have := pget_any a1 cap1 b (by rw [HBL.out]; omega) (by rw [HBL.out]; exact hle1) u hku h
    rw [HBL.out] at this
    exact this
  have hPF := Px.put_good hEL
  have hok := (Px.put_ok L0).1 hEL
  obtain ⟨ab, hab⟩ : ∃ ab, Hid (Px.all9 L0 = ab) := ⟨_, rfl⟩
  have HPF : Hid (Px.putF L0 = (ab, 0, 0)) := by show _ = _; rw [hPF, hab.out]
  have hlb0 : ab.length ≤ 68096 := by
    have := Px.all9_bd L0 hok.2.1
    rw [hab.out] at this
    have := hok.1
    omega
  obtain ⟨lb, hlb⟩ : ∃ l, Hid (ab.length = l) := ⟨_, rfl⟩
  rw [hlb.out] at hlb0
  have HGet : Hid (Px.getF ab 0 [] = (L0, 0, 0)) := by
    show _ = _
    rw [← hab.out]
    exact Px.get_put L0 [] 0 hok.1 hok.2.1 hok.2.2
  have HGetA : Hid (∀ u A c, KAt u → RowAt u A ab.length (Px.rowF ab) → lb ≤ c → Calls Tryd.prog 17 #[.slice A lb c] u fun e w' => (∃ v, e = .returned (.tuple #[v, .int .i64 0, .int .i64 0]) ∧ PrsIs w' v L0) ∧ Bw u w') := fun u A c hku h hc => by
    have := pget_any A c ab (by rw [hlb.out]; omega) (by rw [hlb.out]; exact hc) u hku h
    unfold GetSays at this
    rw [hlb.out, HGet.out] at this
    exact this
  have HPairs : Hid (∀ u A c, PrsAt u A L0 → PrsAt u a0 L0 → Calls Tryd.prog 19 #[.slice A len0 c, .slice a0 len0 cap0] u fun e w' => e = .returned (.bool true) ∧ ∃ q, w' = u.drewN q) := fun u A c h1 h2 => by
    have := pairs9_any A a0 c cap0 L0 L0 (by rw [HNL.out]; omega) (by rw [HNL.out]; omega) u h1 h2
    rw [HNL.out, decide_eq_true rfl] at this
    exact this
  clear hPF hok hEL
  obtain ⟨r, i, er, hGF⟩ : ∃ r i er, Hid (Px.getF b 0 [] = (r, i, er)) := ⟨_, _, _, show Px.getF b 0 [] = _ from rfl⟩
  have hgb := Px.get_bad hFB
  rw [hGF.out] at hgb hFB
  dsimp only at hgb hFB
  obtain ⟨rfl, -, hib⟩ := hgb
  rw [HBL.out, Nat.zero_add] at hib
  have herb : er ≤ 100 := by have := Px.get_er _ b 0 [] (Nat.le_refl _); rw [hGF.out] at this; exact this
  have e2 : ((er : Int) != 0) = true := by rw [bne_iff_ne]; omega
  have i0' : (0 : Int) ≤ (i : Int) := Int.natCast_nonneg _
  have i1' : (i : Int) ≤ (len1 : Int) := by omega
  have hz0 : 0 < len0 := by
    have := (List.getElem?_eq_some_iff.1 hT).1
    rw [HNL.out] at this; exact this
  have e5 : ((len0 : Int) == 0) = false := by rw [beq_eq_false_iff_ne]; omega
  have z5 : (0 : Int) < (len0 : Int) := by omega
  have HT : Hid (L0[0]? = some p) := hT
  have hsz := HE.out p (List.mem_of_getElem? hT)
  clear hT
  have hs1 : (Nm.S p.1).size ≤ 140737488355328 := by rw [Nm.size_S]; exact hsz.1
  have hs2 : (Nm.S p.2).size ≤ 140737488355328 := by rw [Nm.size_S]; exact hsz.2
  obtain ⟨b0, o0, ha0, hcell⟩ := HPR.out.at (by rw [HNL.out]; exact hz0)
  subst ha0
  have HC0 : Hid (∀ W, Bw w W → W.cell? ⟨b0, o0, none⟩ = some (.string (Nm.S p.1)) ∧ W.cell? ⟨b0, o0 + 1, none⟩ = some (.string (Nm.S p.2))) := fun W h => by
    obtain ⟨g1, g2⟩ := hcell 0 p HT.out
    rw [Nat.zero_mul, Nat.add_zero] at g1 g2
    have hlt := block_lt_of_cell g1
    rw [h.cell (p := ⟨b0, o0, none⟩) hlt, h.cell (p := ⟨b0, o0 + 1, none⟩) hlt]
    exact ⟨g1, g2⟩
  clear hcell hsz
  obtain ⟨rr, hrr⟩ : ∃ r, Hid (Px.rcd p = r) := ⟨_, rfl⟩
  obtain ⟨z, hz⟩ : ∃ z, Hid (Px.psize p = z) := ⟨_, rfl⟩
  have hrl : Hid (rr.length = z) := by show _ = _; rw [← hrr.out, Px.rcd_len, hz.out]
  have hzb : z ≤ 1064 := by rw [← hz.out]; exact Px.psize_le hp0
  have HRec : Hid (∀ u, KAt u → Calls Tryd.prog 8 #[.agg #[.string (Nm.S p.1), .string (Nm.S p.2)]] u fun e w' => (∃ A c, e = .returned (.tuple #[.slice A z c, .int .i64 0]) ∧ z ≤ c ∧ RowAt w' A rr.length (Px.rowF rr)) ∧ Bw u w') := fun u hku => by
    have := precord_any (Nm.S p.1) (Nm.S p.2) hs1 hs2 u hku
    unfold RecSays at this
    rw [Nm.toList_S, Nm.toList_S, show Px.recF (p.1, p.2) = (rr, 0) by unfold Px.recF; rw [show ((p.1, p.2) : Px.Pr) = p from rfl, if_neg (by rw [hp0]; simp), hrr.out]] at this
    refine this.mono ?_
    rintro e w' ⟨⟨v, he, A, c, hv, hc, hr⟩, hb⟩
    rw [hrl.out] at hv hc
    exact ⟨⟨A, c, by rw [he, hv]; rfl, hc, hr⟩, hb⟩
  rw [hz.out] at hk2
  subst hk
  have k1 : (1 : Int) ≤ (k : Int) := by omega
  have k2 : (k : Int) < (z : Int) := by omega
  have k0 : (0 : Int) ≤ (k : Int) := by omega
  have HGetC : Hid (∀ u A c, KAt u → RowAt u A rr.length (Px.rowF rr) → z ≤ c → Calls Tryd.prog 17 #[.slice A k c] u fun e w' => (∃ v, e = .returned (.tuple #[v, .int .i64 0, .int .i64 90]) ∧ PrsIs w' v []) ∧ Bw u w') := fun u A c hku h hc => by
    have hlt : (rr.take k).length = k := by rw [List.length_take, hrl.out]; omega
    have hfr : RowAt u A (rr.take k).length (Px.rowF (rr.take k)) := RowAt.front (b := rr.drop k) (by rw [List.take_append_drop]; exact h)
    have := pget_any A c (rr.take k) (by rw [hlt]; omega) (by rw [hlt]; omega) u hku hfr
    unfold GetSays at this
    rw [hlt, ← hrr.out, Px.get_cut p hp0 k hk1 (by rw [hz.out]; exact hk2)] at this
    exact this
  clear hp0
  go_enter Tryd.func7, Tryd.ntmps7
  go_wp2_with (go_at_call 22; refine (awake9_any _ HK.out).mono ?_; rintro e x0 ⟨rfl, hx0⟩)
  go_wp2_with (go_at_call 14; refine (HPut.out _ (HK.out.keep (by repeat (first | assumption | (apply Bw.trans; assumption)))) (HPR.out.keep hx0)).mono ?_; rintro e x1 ⟨⟨v, rfl, hv⟩, hx1⟩; rw [HPF.out] at hv ⊢; (try dsimp only at hv); obtain ⟨A1, c1, rfl, hc1, hr1⟩ := hv; rw [hlb.out] at hc1 ⊢)
  go_wp2_with (go_at_call 17; refine (HGetA.out _ A1 c1 (HK.out.keep (by repeat (first | assumption | (apply Bw.trans; assumption)))) hr1 hc1).mono ?_; rintro e x2 ⟨⟨v, rfl, hv⟩, hx2⟩; obtain ⟨A2, c2, rfl, hc2, hr2⟩ := hv; rw [HNL.out] at hc2 ⊢)
  go_wp2_with (go_at_call 19; refine (HPairs.out _ A2 c2 hr2 (HPR.out.keep (hx0.trans (hx1.trans hx2)))).mono ?_; rintro e x3 ⟨rfl, q3, hq3⟩; have hx3 := bw_of_drew hq3; clear hq3)
  go_wp2_with (go_at_call 17; refine (HGetB.out _ (HK.out.keep (by repeat (first | assumption | (apply Bw.trans; assumption)))) (HRB.out.keep (hx0.trans (hx1.trans (hx2.trans hx3))))).mono ?_; rintro e x4 ⟨⟨v, rfl, hv⟩, hx4⟩; rw [hGF.out] at hv ⊢; (try dsimp only at hv); obtain ⟨A4, c4, rfl, hc4, hr4⟩ := hv; obtain ⟨z1, z2⟩ := HC0.out _ (hx0.trans (hx1.trans (hx2.trans (hx3.trans hx4)))))
  go_wp2_with (go_at_call 8; refine (HRec.out _ (HK.out.keep (by repeat (first | assumption | (apply Bw.trans; assumption))))).mono ?_; rintro e x7 ⟨⟨A7, c7, rfl, hc7, hr7⟩, hx7⟩; have k7 : (k : Int) ≤ (c7 : Int) := by omega)
  go_wp2_with (go_at_call 17; refine (HGetC.out _ A7 c7 (HK.out.keep (by repeat (first | assumption | (apply Bw.trans; assumption)))) hr7 hc7).mono ?_; rintro e x8 ⟨⟨v, rfl, hv⟩, hx8⟩; obtain ⟨A8, c8, rfl, hc8, hr8⟩ := hv)
  go_ret
  exact ⟨rfl, (hx0.trans (hx1.trans (hx2.trans (hx3.trans (hx4.trans (hx7.trans hx8))))))⟩
set_option maxRecDepth 100000 in
set_option maxHeartbeats 4000000 in
theorem back_ac_out (a0 : Option Addr) (len0 cap0 : Nat) (L0 : List Px.Pr) (a1 : Option Addr) (len1 cap1 : Nat) (f1 : Nat → Int) (a2 : Int) (w : World) (hkat : KAt w) (w0 : InPrs w a0 len0 cap0 L0) (w1 : InRow w a1 len1 cap1 f1) (w2 : (Lit.int .i64 a2).wf = true) (b : Px.B) (hbl : b.length = len1) (hrow : RowAt w a1 b.length (Px.rowF b)) (hEL : (Px.putF L0).2.2 ≠ 0) (hFB : (Px.getF b 0 []).2.2 ≠ 0) (p : Px.Pr) (hT : L0[0]? = some p) (hp0 : Px.fits p = 0) (hcut : a2 < 1 ∨ (Px.psize p : Int) ≤ a2) :
    Calls Tryd.prog 7 #[.slice a0 len0 cap0, .slice a1 len1 cap1, .int .i64 a2] w fun e w' => e = .returned (.bool true) ∧ Below w.heap.size w w' := by
  obtain ⟨hlen, hprs, hle, hroom, hnil, heach⟩ := w0
  have HK : Hid (KAt w) := hkat
  clear hkat
  have hle1 := w1.le
  have hroom1 := w1.room
  have HPR : Hid (PrsAt w a0 L0) := hprs
  have HNL : Hid (L0.length = len0) := hlen
  have HBL : Hid (b.length = len1) := hbl
  have HRB : Hid (RowAt w a1 b.length (Px.rowF b)) := hrow
  have HE : Hid (∀ p ∈ L0, p.1.length ≤ 140737488355328 ∧ p.2.length ≤ 140737488355328) := fun p hp => by obtain ⟨h1, h2⟩ := heach p hp; exact ⟨by omega, by omega⟩
  clear hprs hlen heach hnil hbl hrow w1 w2
  have HPut : Hid (∀ u, KAt u → PrsAt u a0 L0 → Calls Tryd.prog 14 #[.slice a0 len0 cap0] u fun e w' => PutSays L0 e w' ∧ Bw u w') := fun u hku h => by
    have := pput_any a0 cap0 L0 (by rw [HNL.out]; omega) (by rw [HNL.out]; exact hle) HE.out u hku h
    rw [HNL.out] at this
    exact this
  have HGetB : Hid (∀ u, KAt u → RowAt u a1 b.length (Px.rowF b) → Calls Tryd.prog 17 #[.slice a1 len1 cap1] u fun e w' => GetSays b e w' ∧ Bw u w') := fun u hku h => by
    have := pget_any a1 cap1 b (by rw [HBL.out]; omega) (by rw [HBL.out]; exact hle1) u hku h
    rw [HBL.out] at this
    exact this
  obtain ⟨rL, iL, eL, hPF⟩ : ∃ r i e, Hid (Px.putF L0 = (r, i, e)) := ⟨_, _, _, show Px.putF L0 = _ from rfl⟩
  have heL : eL ≠ 0 := by rw [hPF.out] at hEL; exact hEL
  have e1 : ((eL : Int) == 0) = false := by rw [beq_eq_false_iff_ne]; omega
  have heLb : eL ≤ 100 := by have := Px.put_er L0; rw [hPF.out] at this; exact this
  have hiLb : iL ≤ 64 := by have := (Px.put_place L0).2; rw [hPF.out] at this; exact this
  clear hEL
  obtain ⟨r, i, er, hGF⟩ : ∃ r i er, Hid (Px.getF b 0 [] = (r, i, er)) := ⟨_, _, _, show Px.getF b 0 [] = _ from rfl⟩
  have hgb := Px.get_bad hFB
  rw [hGF.out] at hgb hFB
  dsimp only at hgb hFB
  obtain ⟨rfl, -, hib⟩ := hgb
  rw [HBL.out, Nat.zero_add] at hib
  have herb : er ≤ 100 := by have := Px.get_er _ b 0 [] (Nat.le_refl _); rw [hGF.out] at this; exact this
  have e2 : ((er : Int) != 0) = true := by rw [bne_iff_ne]; omega
  have i0' : (0 : Int) ≤ (i : Int) := Int.natCast_nonneg _
  have i1' : (i : Int) ≤ (len1 : Int) := by omega
  have hz0 : 0 < len0 := by
    have := (List.getElem?_eq_some_iff.1 hT).1
    rw [HNL.out] at this; exact this
  have e5 : ((len0 : Int) == 0) = false := by rw [beq_eq_false_iff_ne]; omega
  have z5 : (0 : Int) < (len0 : Int) := by omega
  have HT : Hid (L0[0]? = some p) := hT
  have hsz := HE.out p (List.mem_of_getElem? hT)
  clear hT
  have hs1 : (Nm.S p.1).size ≤ 140737488355328 := by rw [Nm.size_S]; exact hsz.1
  have hs2 : (Nm.S p.2).size ≤ 140737488355328 := by rw [Nm.size_S]; exact hsz.2
  obtain ⟨b0, o0, ha0, hcell⟩ := HPR.out.at (by rw [HNL.out]; exact hz0)
  subst ha0
  have HC0 : Hid (∀ W, Bw w W → W.cell? ⟨b0, o0, none⟩ = some (.string (Nm.S p.1)) ∧ W.cell? ⟨b0, o0 + 1, none⟩ = some (.string (Nm.S p.2))) := fun W h => by
    obtain ⟨g1, g2⟩ := hcell 0 p HT.out
    rw [Nat.zero_mul, Nat.add_zero] at g1 g2
    have hlt := block_lt_of_cell g1
    rw [h.cell (p := ⟨b0, o0, none⟩) hlt, h.cell (p := ⟨b0, o0 + 1, none⟩) hlt]
    exact ⟨g1, g2⟩
  clear hcell hsz
  obtain ⟨rr, hrr⟩ : ∃ r, Hid (Px.rcd p = r) := ⟨_, rfl⟩
  obtain ⟨z, hz⟩ : ∃ z, Hid (Px.psize p = z) := ⟨_, rfl⟩
  have hrl : Hid (rr.length = z) := by show _ = _; rw [← hrr.out, Px.rcd_len, hz.out]
  have hzb : z ≤ 1064 := by rw [← hz.out]; exact Px.psize_le hp0
  have HRec : Hid (∀ u, KAt u → Calls Tryd.prog 8 #[.agg #[.string (Nm.S p.1), .string (Nm.S p.2)]] u fun e w' => (∃ A c, e = .returned (.tuple #[.slice A z c, .int .i64 0]) ∧ z ≤ c ∧ RowAt w' A rr.length (Px.rowF rr)) ∧ Bw u w') := fun u hku => by
    have := precord_any (Nm.S p.1) (Nm.S p.2) hs1 hs2 u hku
    unfold RecSays at this
    rw [Nm.toList_S, Nm.toList_S, show Px.recF (p.1, p.2) = (rr, 0) by unfold Px.recF; rw [show ((p.1, p.2) : Px.Pr) = p from rfl, if_neg (by rw [hp0]; simp), hrr.out]] at this
    refine this.mono ?_
    rintro e w' ⟨⟨v, he, A, c, hv, hc, hr⟩, hb⟩
    rw [hrl.out] at hv hc
    exact ⟨⟨A, c, by rw [he, hv]; rfl, hc, hr⟩, hb⟩
  rw [hz.out] at hcut
  clear hp0
  go_enter Tryd.func7, Tryd.ntmps7
  go_wp2_with (go_at_call 22; refine (awake9_any _ HK.out).mono ?_; rintro e x0 ⟨rfl, hx0⟩)
  go_wp2_with (go_at_call 14; refine (HPut.out _ (HK.out.keep (by repeat (first | assumption | (apply Bw.trans; assumption)))) (HPR.out.keep hx0)).mono ?_; rintro e x1 ⟨⟨v, rfl, hv⟩, hx1⟩; rw [hPF.out] at hv ⊢; (try dsimp only at hv); obtain ⟨A1, c1, rfl, hc1, hr1⟩ := hv)
  go_wp2_with (go_at_call 17; refine (HGetB.out _ (HK.out.keep (by repeat (first | assumption | (apply Bw.trans; assumption)))) (HRB.out.keep (hx0.trans hx1))).mono ?_; rintro e x4 ⟨⟨v, rfl, hv⟩, hx4⟩; rw [hGF.out] at hv ⊢; (try dsimp only at hv); obtain ⟨A4, c4, rfl, hc4, hr4⟩ := hv; obtain ⟨z1, z2⟩ := HC0.out _ (hx0.trans (hx1.trans hx4)))
  by_cases hc : a2 < 1
  · go_wp2_with (go_at_call 8; refine (HRec.out _ (HK.out.keep (by repeat (first | assumption | (apply Bw.trans; assumption))))).mono ?_; rintro e x7 ⟨⟨A7, c7, rfl, hc7, hr7⟩, hx7⟩)
    go_ret
    exact ⟨rfl, (hx0.trans (hx1.trans (hx4.trans hx7)))⟩
  · have hc2' : (z : Int) ≤ a2 := hcut.resolve_left hc
    have hc3' : (1 : Int) ≤ a2 := by omega
    clear hc hcut
    go_wp2_with (go_at_call 8; refine (HRec.out _ (HK.out.keep (by repeat (first | assumption | (apply Bw.trans; assumption))))).mono ?_; rintro e x7 ⟨⟨A7, c7, rfl, hc7, hr7⟩, hx7⟩)
    go_ret
    exact ⟨rfl, (hx0.trans (hx1.trans (hx4.trans hx7)))⟩
set_option maxRecDepth 100000 in
set_option maxHeartbeats 4000000 in
theorem back_ac_cut (a0 : Option Addr) (len0 cap0 : Nat) (L0 : List Px.Pr) (a1 : Option Addr) (len1 cap1 : Nat) (f1 : Nat → Int) (a2 : Int) (w : World) (hkat : KAt w) (w0 : InPrs w a0 len0 cap0 L0) (w1 : InRow w a1 len1 cap1 f1) (w2 : (Lit.int .i64 a2).wf = true) (b : Px.B) (hbl : b.length = len1) (hrow : RowAt w a1 b.length (Px.rowF b)) (hEL : (Px.putF L0).2.2 ≠ 0) (hFB : (Px.getF b 0 []).2.2 ≠ 0) (p : Px.Pr) (hT : L0[0]? = some p) (hp0 : Px.fits p = 0) (k : Nat) (hk : a2 = (k : Int)) (hk1 : 1 ≤ k) (hk2 : k < Px.psize p) :
    Calls Tryd.prog 7 #[.slice a0 len0 cap0, .slice a1 len1 cap1, .int .i64 a2] w fun e w' => e = .returned (.bool true) ∧ Below w.heap.size w w' := by
  obtain ⟨hlen, hprs, hle, hroom, hnil, heach⟩ := w0
  have HK : Hid (KAt w) := hkat
  clear hkat
  have hle1 := w1.le
  have hroom1 := w1.room
  have HPR : Hid (PrsAt w a0 L0) := hprs
  have HNL : Hid (L0.length = len0) := hlen
  have HBL : Hid (b.length = len1) := hbl
  have HRB : Hid (RowAt w a1 b.length (Px.rowF b)) := hrow
  have HE : Hid (∀ p ∈ L0, p.1.length ≤ 140737488355328 ∧ p.2.length ≤ 140737488355328) := fun p hp => by obtain ⟨h1, h2⟩ := heach p hp; exact ⟨by omega, by omega⟩
  clear hprs hlen heach hnil hbl hrow w1 w2
  have HPut : Hid (∀ u, KAt u → PrsAt u a0 L0 → Calls Tryd.prog 14 #[.slice a0 len0 cap0] u fun e w' => PutSays L0 e w' ∧ Bw u w') := fun u hku h => by
    have := pput_any a0 cap0 L0 (by rw [HNL.out]; omega) (by rw [HNL.out]; exact hle) HE.out u hku h
    rw [HNL.out] at this
    exact this
  have HGetB : Hid (∀ u, KAt u → RowAt u a1 b.length (Px.rowF b) → Calls Tryd.prog 17 #[.slice a1 len1 cap1] u fun e w' => GetSays b e w' ∧ Bw u w') := fun u hku h => by
    have := pget_any a1 cap1 b (by rw [HBL.out]; omega) (by rw [HBL.out]; exact hle1) u hku h
    rw [HBL.out] at this
    exact this
  obtain ⟨rL, iL, eL, hPF⟩ : ∃ r i e, Hid (Px.putF L0 = (r, i, e)) := ⟨_, _, _, show Px.putF L0 = _ from rfl⟩
  have heL : eL ≠ 0 := by rw [hPF.out] at hEL; exact hEL
  have e1 : ((eL : Int) == 0) = false := by rw [beq_eq_false_iff_ne]; omega
  have heLb : eL ≤ 100 := by have := Px.put_er L0; rw [hPF.out] at this; exact this
  have hiLb : iL ≤ 64 := by have := (Px.put_place L0).2; rw [hPF.out] at this; exact this
  clear hEL
  obtain ⟨r, i, er, hGF⟩ : ∃ r i er, Hid (Px.getF b 0 [] = (r, i, er)) := ⟨_, _, _, show Px.getF b 0 [] = _ from rfl⟩
  have hgb := Px.get_bad hFB
  rw [hGF.out] at hgb hFB
  dsimp only at hgb hFB
  obtain ⟨rfl, -, hib⟩ := hgb
  rw [HBL.out, Nat.zero_add] at hib
  have herb : er ≤ 100 := by have := Px.get_er _ b 0 [] (Nat.le_refl _); rw [hGF.out] at this; exact this
  have e2 : ((er : Int) != 0) = true := by rw [bne_iff_ne]; omega
  have i0' : (0 : Int) ≤ (i : Int) := Int.natCast_nonneg _
  have i1' : (i : Int) ≤ (len1 : Int) := by omega
  have hz0 : 0 < len0 := by
    have := (List.getElem?_eq_some_iff.1 hT).1
    rw [HNL.out] at this; exact this
  have e5 : ((len0 : Int) == 0) = false := by rw [beq_eq_false_iff_ne]; omega
  have z5 : (0 : Int) < (len0 : Int) := by omega
  have HT : Hid (L0[0]? = some p) := hT
  have hsz := HE.out p (List.mem_of_getElem? hT)
  clear hT
  have hs1 : (Nm.S p.1).size ≤ 140737488355328 := by rw [Nm.size_S]; exact hsz.1
  have hs2 : (Nm.S p.2).size ≤ 140737488355328 := by rw [Nm.size_S]; exact hsz.2
  obtain ⟨b0, o0, ha0, hcell⟩ := HPR.out.at (by rw [HNL.out]; exact hz0)
  subst ha0
  have HC0 : Hid (∀ W, Bw w W → W.cell? ⟨b0, o0, none⟩ = some (.string (Nm.S p.1)) ∧ W.cell? ⟨b0, o0 + 1, none⟩ = some (.string (Nm.S p.2))) := fun W h => by
    obtain ⟨g1, g2⟩ := hcell 0 p HT.out
    rw [Nat.zero_mul, Nat.add_zero] at g1 g2
    have hlt := block_lt_of_cell g1
    rw [h.cell (p := ⟨b0, o0, none⟩) hlt, h.cell (p := ⟨b0, o0 + 1, none⟩) hlt]
    exact ⟨g1, g2⟩
  clear hcell hsz
  obtain ⟨rr, hrr⟩ : ∃ r, Hid (Px.rcd p = r) := ⟨_, rfl⟩
  obtain ⟨z, hz⟩ : ∃ z, Hid (Px.psize p = z) := ⟨_, rfl⟩
  have hrl : Hid (rr.length = z) := by show _ = _; rw [← hrr.out, Px.rcd_len, hz.out]
  have hzb : z ≤ 1064 := by rw [← hz.out]; exact Px.psize_le hp0
  have HRec : Hid (∀ u, KAt u → Calls Tryd.prog 8 #[.agg #[.string (Nm.S p.1), .string (Nm.S p.2)]] u fun e w' => (∃ A c, e = .returned (.tuple #[.slice A z c, .int .i64 0]) ∧ z ≤ c ∧ RowAt w' A rr.length (Px.rowF rr)) ∧ Bw u w') := fun u hku => by
    have := precord_any (Nm.S p.1) (Nm.S p.2) hs1 hs2 u hku
    unfold RecSays at this
    rw [Nm.toList_S, Nm.toList_S, show Px.recF (p.1, p.2) = (rr, 0) by unfold Px.recF; rw [show ((p.1, p.2) : Px.Pr) = p from rfl, if_neg (by rw [hp0]; simp), hrr.out]] at this
    refine this.mono ?_
    rintro e w' ⟨⟨v, he, A, c, hv, hc, hr⟩, hb⟩
    rw [hrl.out] at hv hc
    exact ⟨⟨A, c, by rw [he, hv]; rfl, hc, hr⟩, hb⟩
  rw [hz.out] at hk2
  subst hk
  have k1 : (1 : Int) ≤ (k : Int) := by omega
  have k2 : (k : Int) < (z : Int) := by omega
  have k0 : (0 : Int) ≤ (k : Int) := by omega
  have HGetC : Hid (∀ u A c, KAt u → RowAt u A rr.length (Px.rowF rr) → z ≤ c → Calls Tryd.prog 17 #[.slice A k c] u fun e w' => (∃ v, e = .returned (.tuple #[v, .int .i64 0, .int .i64 90]) ∧ PrsIs w' v []) ∧ Bw u w') := fun u A c hku h hc => by
    have hlt : (rr.take k).length = k := by rw [List.length_take, hrl.out]; omega
    have hfr : RowAt u A (rr.take k).length (Px.rowF (rr.take k)) := RowAt.front (b := rr.drop k) (by rw [List.take_append_drop]; exact h)
    have := pget_any A c (rr.take k) (by rw [hlt]; omega) (by rw [hlt]; omega) u hku hfr
    unfold GetSays at this
    rw [hlt, ← hrr.out, Px.get_cut p hp0 k hk1 (by rw [hz.out]; exact hk2)] at this
    exact this
  clear hp0
  go_enter Tryd.func7, Tryd.ntmps7
  go_wp2_with (go_at_call 22; refine (awake9_any _ HK.out).mono ?_; rintro e x0 ⟨rfl, hx0⟩)
  go_wp2_with (go_at_call 14; refine (HPut.out _ (HK.out.keep (by repeat (first | assumption | (apply Bw.trans; assumption)))) (HPR.out.keep hx0)).mono ?_; rintro e x1 ⟨⟨v, rfl, hv⟩, hx1⟩; rw [hPF.out] at hv ⊢; (try dsimp only at hv); obtain ⟨A1, c1, rfl, hc1, hr1⟩ := hv)
  go_wp2_with (go_at_call 17; refine (HGetB.out _ (HK.out.keep (by repeat (first | assumption | (apply Bw.trans; assumption)))) (HRB.out.keep (hx0.trans hx1))).mono ?_; rintro e x4 ⟨⟨v, rfl, hv⟩, hx4⟩; rw [hGF.out] at hv ⊢; (try dsimp only at hv); obtain ⟨A4, c4, rfl, hc4, hr4⟩ := hv; obtain ⟨z1, z2⟩ := HC0.out _ (hx0.trans (hx1.trans hx4)))
  go_wp2_with (go_at_call 8; refine (HRec.out _ (HK.out.keep (by repeat (first | assumption | (apply Bw.trans; assumption))))).mono ?_; rintro e x7 ⟨⟨A7, c7, rfl, hc7, hr7⟩, hx7⟩; have k7 : (k : Int) ≤ (c7 : Int) := by omega)
  go_wp2_with (go_at_call 17; refine (HGetC.out _ A7 c7 (HK.out.keep (by repeat (first | assumption | (apply Bw.trans; assumption)))) hr7 hc7).mono ?_; rintro e x8 ⟨⟨v, rfl, hv⟩, hx8⟩; obtain ⟨A8, c8, rfl, hc8, hr8⟩ := hv)
  go_ret
  exact ⟨rfl, (hx0.trans (hx1.trans (hx4.trans (hx7.trans hx8))))⟩
set_option maxRecDepth 100000 in
set_option maxHeartbeats 4000000 in
theorem walk (a0 : Option Addr) (len0 cap0 : Nat) (L0 : List Px.Pr) (a1 : Option Addr) (len1 cap1 : Nat) (f1 : Nat → Int) (a2 : Int) (w : World) (hk : KAt w) (w0 : InPrs w a0 len0 cap0 L0) (w1 : InRow w a1 len1 cap1 f1) (w2 : (Lit.int .i64 a2).wf = true) :
    Calls Tryd.prog 7 #[.slice a0 len0 cap0, .slice a1 len1 cap1, .int .i64 a2] w fun e w' => e = .returned (.bool true) ∧ Below w.heap.size w w' := by
  obtain ⟨b, hbl, hrow⟩ := rowat_list w1.row
  by_cases hFB : (Px.getF b 0 []).2.2 = 0
  · cases hL : L0[0]? with
    | none =>
      have hT : L0 = [] := by
        cases L0 with
        | nil => rfl
        | cons x l => simp at hL
      exact back_bd_nil a0 len0 cap0 L0 a1 len1 cap1 f1 a2 w hk w0 w1 w2 b hbl hrow (by rw [hT]; rfl) hFB hT
    | some p =>
      by_cases hp0 : Px.fits p = 0
      · by_cases hin : 1 ≤ a2 ∧ a2 < (Px.psize p : Int)
        · obtain ⟨k, hk9⟩ := Int.eq_ofNat_of_zero_le (show 0 ≤ a2 by omega)
          by_cases hEL : (Px.putF L0).2.2 = 0
          · exact back_bd_cut a0 len0 cap0 L0 a1 len1 cap1 f1 a2 w hk w0 w1 w2 b hbl hrow hEL hFB p hL hp0 k hk9 (by omega) (by omega)
          · exact back_ad_cut a0 len0 cap0 L0 a1 len1 cap1 f1 a2 w hk w0 w1 w2 b hbl hrow hEL hFB p hL hp0 k hk9 (by omega) (by omega)
        · by_cases hEL : (Px.putF L0).2.2 = 0
          · exact back_bd_out a0 len0 cap0 L0 a1 len1 cap1 f1 a2 w hk w0 w1 w2 b hbl hrow hEL hFB p hL hp0 (by omega)
          · exact back_ad_out a0 len0 cap0 L0 a1 len1 cap1 f1 a2 w hk w0 w1 w2 b hbl hrow hEL hFB p hL hp0 (by omega)
      · refine back_ad_rec a0 len0 cap0 L0 a1 len1 cap1 f1 a2 w hk w0 w1 w2 b hbl hrow (fun h => hp0 (((Px.put_ok L0).1 h).2.1 p (List.mem_of_getElem? hL))) hFB p hL hp0
  · cases hL : L0[0]? with
    | none =>
      have hT : L0 = [] := by
        cases L0 with
        | nil => rfl
        | cons x l => simp at hL
      exact back_bc_nil a0 len0 cap0 L0 a1 len1 cap1 f1 a2 w hk w0 w1 w2 b hbl hrow (by rw [hT]; rfl) hFB hT
    | some p =>
      by_cases hp0 : Px.fits p = 0
      · by_cases hin : 1 ≤ a2 ∧ a2 < (Px.psize p : Int)
        · obtain ⟨k, hk9⟩ := Int.eq_ofNat_of_zero_le (show 0 ≤ a2 by omega)
          by_cases hEL : (Px.putF L0).2.2 = 0
          · exact back_bc_cut a0 len0 cap0 L0 a1 len1 cap1 f1 a2 w hk w0 w1 w2 b hbl hrow hEL hFB p hL hp0 k hk9 (by omega) (by omega)
          · exact back_ac_cut a0 len0 cap0 L0 a1 len1 cap1 f1 a2 w hk w0 w1 w2 b hbl hrow hEL hFB p hL hp0 k hk9 (by omega) (by omega)
        · by_cases hEL : (Px.putF L0).2.2 = 0
          · exact back_bc_out a0 len0 cap0 L0 a1 len1 cap1 f1 a2 w hk w0 w1 w2 b hbl hrow hEL hFB p hL hp0 (by omega)
          · exact back_ac_out a0 len0 cap0 L0 a1 len1 cap1 f1 a2 w hk w0 w1 w2 b hbl hrow hEL hFB p hL hp0 (by omega)
      · refine back_ac_rec a0 len0 cap0 L0 a1 len1 cap1 f1 a2 w hk w0 w1 w2 b hbl hrow (fun h => hp0 (((Px.put_ok L0).1 h).2.1 p (List.mem_of_getElem? hL))) hFB p hL hp0

set_option maxRecDepth 100000 in
theorem lifted (os : Os) (started : os.Started) (H : Type) (enc : TypeId × Value → H) :
    ReturnsInHanded {} Tryd.checked os 7 .any (fun w args => (Rows.paxBackSpec.pre enc Tryd.prog Tryd.f7 [] false w args ∧ laidMetH Tryd.prog laidK w) ∧ sizedMet enc Tryd.prog Tryd.f7 (OpenSpec.ofChange Rows.paxBackSpec) false w args)
      (Rows.paxBackSpec.post enc Tryd.prog Tryd.f7 false true false false) := by
  refine returnsInHanded_of_change_and (C := Tryd.checked) (X := fun w _ => laidMetH Tryd.prog laidK w) (fun _ _ _ hh h => h.of_heap hh) own started (by kernel_rfl) Tryd.func7
    (ChangeSpec.witness_shaped (enc := enc) (C := Tryd.checked) (os := os) (X := fun w _ => laidMetH Tryd.prog laidK w) false (World.doorLaid Tryd.prog 400 os) #[.slice none 0 0, .slice none 0 0, .int .i64 0] 8 rfl (World.shaped_of_RefB (by kernel_rfl) (by kernel_rfl)) (by kernel_rfl) (by kernel_rfl) (by kernel_rfl) (door_met os _)) ?_
  intro W base args ds gs before hval0 hW hcnd hsz0 hL _
  have hval : ∀ (j : Nat) t v, Tryd.f7.params[j]? = some t → args[j]? = some v → Value.okWide Tryd.prog W .any base t v := hval0
  have hW' := hW
  obtain ⟨p, q, hA0, hV, rfl, hfz, hnd⟩ := hW
  have hA : DataW.TrodAll enc Tryd.prog W 0 (fun _ => true) true Tryd.f7.params.toList args.toList ds p := hA0
  have hsz : (DataW.weightsEach Tryd.prog (Tryd.f7.params.toList ++ Rows.paxBackSpec.plain.varTypes Tryd.prog) (ds ++ gs)).all (· ≤ reachBytes) = true := hsz0
  have hkat := kat_of_laid hL
  rw [Tryd.params7] at hA hval hsz
  obtain ⟨v0, vs0, d0, ds0, p0, q0, hargs, rfl, rfl, h0, r0⟩ := trodAll_cons hA
  obtain ⟨v1, vs1, d1, ds1, p1, q1, rfl, rfl, rfl, h1, r1⟩ := trodAll_cons r0
  obtain ⟨v2, vs2, d2, ds2, p2, q2, rfl, rfl, rfl, h2, r2⟩ := trodAll_cons r1
  obtain ⟨rfl, rfl, rfl⟩ := trodAll_nil r2
  obtain rfl : args = #[v0, v1, v2] := by cases args; simp_all
  obtain ⟨rfl, rfl⟩ := trodVars_none hV
  obtain ⟨a0, len0, cap0, rfl⟩ := okWide_slice Tryd.underlying33 (hval 0 33 v0 rfl rfl)
  have k0 := h0
  have lt0 : ∀ x ∈ p0, x.block < W.heap.size := by obtain ⟨m, hm⟩ := k0; exact DataW.trod_lt m _ _ _ hm
  obtain ⟨L0, w0⟩ := open_prs h0 (fun x hx => by simpa using List.all_eq_true.1 hsz x (DataW.weights_mem_each (j := 0) (t := 33) rfl rfl x hx))
  obtain ⟨a1, len1, cap1, rfl⟩ := okWide_slice Tryd.underlying24 (hval 1 24 v1 rfl rfl)
  have k1 := h1
  have lt1 : ∀ x ∈ p1, x.block < W.heap.size := by obtain ⟨m, hm⟩ := k1; exact DataW.trod_lt m _ _ _ hm
  obtain ⟨f1, w1⟩ := open_bytes h1 (fun x hx => by simpa using List.all_eq_true.1 hsz x (DataW.weights_mem_each (j := 1) (t := 24) rfl rfl x hx))
  obtain ⟨a2, rfl, rfl, rfl, w2⟩ := open_int Tryd.underlying3 (hval 2 3 v2 rfl rfl) h2
  clear hA0 hval0
  refine (walk a0 len0 cap0 L0 a1 len1 cap1 f1 a2 W hkat w0 w1 w2).mono fun e W' ⟨he, bel⟩ => ?_
  subst he
  exact ⟨_, rfl, _, _, _, [], _, [], hW', trodAll_mk1 (shut_bool Tryd.underlying4 _), (trodAll_cons_mk (Below.trod laidOut (by kernel_rfl) (of_decide_eq_true (by kernel_rfl)) k0 bel lt0) (trodAll_cons_mk (Below.trod laidOut (by kernel_rfl) (of_decide_eq_true (by kernel_rfl)) k1 bel lt1) (trodAll_cons_mk (shut_int Tryd.underlying3 w2) trodAll_mk0))), rfl, bel.frame _, fun h => by cases h⟩

theorem over : Rows.paxBackRow.holds Tryd.pinned (OpenSpec.ofChange Rows.paxBackSpec) :=
  OpenClaim.holds_of_wide 7 Tryd.f7 rfl rfl rfl rfl rfl rfl rfl ⟨rfl, rfl, rfl, rfl, rfl⟩ rfl rfl rfl rfl rfl (by kernel_rfl) Tryd.func7 (by kernel_rfl)
    (of_decide_eq_true (by kernel_rfl)) (by unfold Func.isWrapper; first | (rw [if_pos (by decide +kernel)]; kernel_rfl) | (rw [if_neg (by decide +kernel)]; exact ⟨rfl, rfl⟩))
    (fun os started H enc _ => lifted os started H enc)

theorem proved : Rows.PaxBackCardSaid :=
  Claim7.holds_tied_plain_at .later [] [.data, .data, .data] true (true, "8d609f7f5d6121d0bdfa4a950c82c9eb40796584ba27f9101fab04311bde18cd") true
    over (fun _ h => by cases h) (by kernel_rfl) (fun _ h => by cases h) paxBack_row_tie rfl ⟨rfl, rfl⟩ (by kernel_rfl) rfl
    (fun f fn hf hfn => by
      obtain rfl : f = 7 := Option.some.inj ((show Tryd.prog.funcNamed "tabulary/tabularylaw09.PaxBack" = some 7 by kernel_rfl).symm.trans hf) |>.symm
      obtain rfl : fn = Tryd.f7 := (Option.some.inj (Tryd.func7.symm.trans hfn)).symm
      exact ⟨by kernel_rfl, fun j t ht => by
        rw [Tryd.params7] at ht
        have hm : t ∈ [33, 24, 3] := by simpa using Array.mem_of_getElem? ht
        have hall : ([33, 24, 3].all fun u => !Tryd.prog.wantsStandIn u) = true := by kernel_rfl
        exact (show Tryd.prog.wantsStandIn t = false by simpa using List.all_eq_true.1 hall t hm)⟩)
    (by kernel_rfl)
#print axioms proved
end Go.Proofs.YtmbabfelnieagaaDoor.paxBack
