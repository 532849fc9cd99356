/- Layer 14: the document's own Restart. -/
import Derived.Test.YtppknadflmjefaaCE
namespace Go.Proofs.Ytppknadflmjefaa
open Go.RowKit Go.Deep Go.Maps
set_option linter.unusedVariables false
set_option linter.unusedSimpArgs false

namespace Dsk
/-- the sectors below q are told by their fates -/
def ups (S : Dsk) (K : Nat → Int) (m q : Nat) : Dsk := { S with last := fun p => if p / 64 < q ∧ S.is (p / 64) = true ∧ p % 64 < kept K m (cnt S.is (p / 64)) then S.wait p else S.last p, is := fun s => if s < q then false else S.is s }
theorem ups_l (S : Dsk) (K : Nat → Int) (m q s c : Nat) (hc : c < 64) : (S.ups K m q).last (64 * s + c) = if s < q ∧ S.is s = true ∧ c < kept K m (cnt S.is s) then S.wait (64 * s + c) else S.last (64 * s + c) := by
  show (if (64 * s + c) / 64 < q ∧ S.is ((64 * s + c) / 64) = true ∧ (64 * s + c) % 64 < kept K m (cnt S.is ((64 * s + c) / 64)) then S.wait (64 * s + c) else S.last (64 * s + c)) = _
  rw [show (64 * s + c) / 64 = s by omega, show (64 * s + c) % 64 = c by omega]
theorem ups_i (S : Dsk) (K : Nat → Int) (m q s : Nat) : (S.ups K m q).is s = if s < q then false else S.is s := rfl
theorem ups_lb {S : Dsk} (h : S.Ok) (K : Nat → Int) (m q p : Nat) : 0 ≤ (S.ups K m q).last p ∧ (S.ups K m q).last p < 256 := by
  by_cases e : p / 64 < q ∧ S.is (p / 64) = true ∧ p % 64 < kept K m (cnt S.is (p / 64))
  · rw [show (S.ups K m q).last p = S.wait p from if_pos e]; exact h.wb p
  · rw [show (S.ups K m q).last p = S.last p from if_neg e]; exact h.lb p
end Dsk
set_option maxRecDepth 100000 in
set_option maxHeartbeats 4000000 in
theorem rrestart_any {w : World} {g cb cap : Nat} {LV WV : Nat → Value} {S : Dsk} (h : RefAt w g cb cap LV WV S) (F : Option Addr) (m c : Nat) (K : Nat → Int) (hm' : m ≤ 140737488355328) (hF : IntsAt w F m K) (hA : ∀ b o, F = some ⟨b, o, none⟩ → 0 < m → ¬ rIn g cb b) :
    Calls Try.prog 14 #[.pointer (some ⟨g, 0, none⟩), .slice F m c] w fun e w' => e = .returned (.tuple #[]) ∧ (∃ LV' WV', RefAt w' g cb cap LV' WV' (S.again K m)) ∧ Bx (rIn g cb) w w' := by
  have hok := h.ok
  have hn := hok.n1
  have HF : Hid (IntsAt w F m K) := hF
  have HA : Hid (∀ b o, F = some ⟨b, o, none⟩ → 0 < m → ¬ rIn g cb b) := hA
  have H : Hid (RefAt w g cb cap LV WV S) := h
  clear hF hA h
  go_enter Try.func14, Try.ntmps14
  go_wp2
  go_loopw [4, 5] (fun kk i wr => ∃ (q : Nat) (LV' WV' : Nat → Value), q ≤ S.n ∧ kk = .int .i64 ((Dsk.cnt S.is q : Nat) : Int) ∧ i = .int .i64 (q : Int) ∧ RefAt wr g cb cap LV' WV' (S.ups K m q) ∧ Bx (rIn g cb) w wr) (fun _ i _ => S.n - (intOf i).toNat)
  case atStart => exact ⟨0, LV, WV, Nat.zero_le _, rfl, rfl, H.out.congr rfl rfl rfl (fun s _ => by rw [Dsk.ups_i, if_neg (Nat.not_lt_zero _)]) (fun s c _ hc => by rw [Dsk.ups_l S K m 0 s c hc, if_neg (fun e => Nat.not_lt_zero _ e.1)]) (fun _ _ _ _ _ => rfl) (Dsk.ups_lb hok K m 0) hok.wb, Bx.refl _ _⟩
  case round =>
    obtain ⟨q, LV', WV', hq, rfl, rfl, hdq, hbq⟩ := hrel
    have q0 : (0 : Int) ≤ (q : Int) := Int.natCast_nonneg _
    have s0 : wr.cell? ⟨g, 0, none⟩ = some (.slice (some ⟨cb, 0, none⟩) S.n cap) := hdq.t0
    have hcq := Dsk.cnt_le S.is q
    obtain ⟨n, hn'⟩ : ∃ n, Hid (Dsk.cnt S.is q = n) := ⟨_, rfl⟩
    rw [hn'.out] at hcq ⊢
    have n0 : (0 : Int) ≤ (n : Int) := Int.natCast_nonneg _
    have n1 : (n : Int) ≤ 65536 := by omega
    by_cases hlt : q < S.n
    · have q1 : (q : Int) < (S.n : Int) := by omega
      have d2 := hdq.c2 q hlt
      have hqq : (S.ups K m q).is q = S.is q := if_neg (Nat.lt_irrefl _)
      rw [hqq] at d2
      have hsame : ∀ s c, s ≠ q → c < 64 → (S.ups K m (q + 1)).last (64 * s + c) = (S.ups K m q).last (64 * s + c) := fun s c hs hc => by
        rw [Dsk.ups_l S K m (q + 1) s c hc, Dsk.ups_l S K m q s c hc]
        by_cases e : s < q ∧ S.is s = true ∧ c < Dsk.kept K m (Dsk.cnt S.is s)
        · rw [if_pos e, if_pos ⟨by omega, e.2⟩]
        · rw [if_neg e, if_neg (fun e' => e ⟨by omega, e'.2⟩)]
      have hsami : ∀ t, t ≠ q → (S.ups K m (q + 1)).is t = (S.ups K m q).is t := fun t ht => by
        rw [Dsk.ups_i, Dsk.ups_i]
        by_cases e : t < q
        · rw [if_pos e, if_pos (by omega)]
        · rw [if_neg e, if_neg (by omega)]
      cases hi : S.is q
      · rw [hi] at d2
        have hd2 : RefAt wr g cb cap LV' WV' (S.ups K m (q + 1)) := hdq.congr rfl rfl rfl (fun s hs => by
            by_cases e : s = q
            · subst e; rw [hqq, hi, Dsk.ups_i, if_pos (Nat.lt_succ_self _)]
            · exact hsami s e) (fun s c hs hc => by
            by_cases e : s = q
            · subst e
              rw [Dsk.ups_l S K m (s + 1) s c hc, Dsk.ups_l S K m s s c hc, if_neg (fun e => by rw [hi] at e; cases e.2.1), if_neg (fun e => by rw [hi] at e; cases e.2.1)]
            · exact hsame s c e hc) (fun _ _ _ _ _ => rfl) (Dsk.ups_lb hok K m (q + 1)) hok.wb
        have hfin : Hid ((∃ (q' : Nat) (LV' WV' : Nat → Value), q' ≤ S.n ∧ Value.int .i64 (n : Int) = .int .i64 ((Dsk.cnt S.is q' : Nat) : Int) ∧ Value.int .i64 ((q : Int) + 1) = .int .i64 (q' : Int) ∧ RefAt wr g cb cap LV' WV' (S.ups K m q') ∧ Bx (rIn g cb) w wr) ∧ S.n - (intOf (.int .i64 ((q : Int) + 1))).toNat < S.n - (intOf (.int .i64 (q : Int))).toNat) := ⟨⟨q + 1, LV', WV', hlt, by rw [Dsk.cnt, hi, hn'.out]; rfl, rfl, hd2, hbq⟩, by simp only [intOf]; omega⟩
        clear hsame hsami hd2
        go_wp2
        exact hfin.out
      · rw [hi] at d2
        have d0 := hdq.c0 q hlt
        have d1 := hdq.c1 q hlt
        obtain ⟨bl, cl, eL, hcl, hclm, hrl⟩ := (hdq.last q hlt).row (fun i => hdq.ok.lb _)
        obtain ⟨bw, cw, eW, hcw, hcwm, hrw⟩ := (hdq.wait q hlt (hqq.trans hi)).row (fun i => hdq.ok.wb _)
        rw [eL] at d0
        rw [eW] at d1
        obtain ⟨kp, hkp⟩ : ∃ k, Hid (Dsk.kept K m n = k) := ⟨_, rfl⟩
        have hk64 : kp ≤ 64 := by rw [← hkp.out]; exact Dsk.kept_le _ _ _
        have kp0 : (0 : Int) ≤ (kp : Int) := Int.natCast_nonneg _
        have kp1 : (kp : Int) ≤ 64 := by omega
        have cw1 : (64 : Int) ≤ (cw : Int) := by omega
        have kpc : (kp : Int) ≤ (cw : Int) := by omega
        have cwm : (cw : Int) ≤ 9223372036854775807 := by unfold maxLen at hcwm; omega
        obtain ⟨ad, had⟩ : ∃ ad, (if cl = kp then some (⟨bl, 0, none⟩ : Addr) else some ⟨bl, kp, none⟩) = some ad := by split; exact ⟨_, rfl⟩; exact ⟨_, rfl⟩
        have HrL : Hid (∀ W, Bw wr W → RowAt W (some ad) (64 - kp) (fun i => S.last (64 * q + (kp + i)))) := fun W kW => by
          have hrl' := hrl.keep kW
          refine ⟨?_, fun i => hok.lb _⟩
          by_cases e : kp = 64
          · left; omega
          · right
            rw [if_neg (by omega)] at had
            cases had
            refine ⟨bl, kp, rfl, fun i hi' => ?_⟩
            obtain ⟨b', o', e', hc'⟩ := hrl'.at (k := kp + i) (by omega)
            cases e'
            have h1 := hc' (kp + i) (by omega)
            rw [Nat.zero_add] at h1
            rw [h1, Dsk.ups_l S K m q q (kp + i) (by omega), if_neg (fun e => Nat.lt_irrefl _ e.1)]
        have HrW : Hid (∀ W, Bw wr W → RowAt W (some ⟨bw, 0, none⟩) kp (fun i => S.wait (64 * q + i))) := fun W kW => by
          have hrw' := hrw.keep kW
          refine ⟨?_, fun i => hok.wb _⟩
          by_cases e : kp = 0
          · left; exact e
          · right
            refine ⟨bw, 0, rfl, fun i hi' => ?_⟩
            obtain ⟨b', o', e', hc'⟩ := hrw'.at (k := i) (by omega)
            cases e'
            exact hc' i (by omega)
        have T0 : Hid (∀ W, Bw wr W → W.cell? ⟨g, 0, none⟩ = some (.slice (some ⟨cb, 0, none⟩) S.n cap)) := fun W kW => (hdq.keep kW).t0
        have hbwr : Bw wr wr := Bw.refl _
        go_upto_if 31 with fail
        go_cut [6] from 31 to 38 (fun v wx => v = .int .i64 (kp : Int) ∧ wx = wr)
        case first =>
          by_cases hnm : n < m
          · have n2 : (n : Int) < (m : Int) := by omega
            have hFr := HF.out.keepx hbq (fun b o e h0 => HA.out b o e h0)
            obtain ⟨b, off, rfl, hc⟩ := hFr.at hnm
            have hb := hFr.2 n
            have hr : -64 ≤ (K n).tmod 65 ∧ (K n).tmod 65 ≤ 64 := by
              have h1 := Int.tmod_lt_of_pos (K n) (show (0 : Int) < 65 by decide)
              have h2 := Int.lt_tmod_of_pos (K n) (show (0 : Int) < 65 by decide)
              omega
            have hkpv : Hid (((K n).tmod 65 + 65) % 65 = (kp : Int)) := by
              show _ = _
              rw [← hkp.out, tmod65]
              unfold Dsk.kept
              rw [if_pos hnm]; omega
            go_wp2
            go_meet
            case rel => exact ⟨by rw [hkpv.out], rfl⟩
          · have n2 : ¬ (n : Int) < (m : Int) := by omega
            have hk0 : kp = 0 := by rw [← hkp.out]; unfold Dsk.kept; rw [if_neg hnm]
            go_wp2
            go_meet
            case rel => exact ⟨by rw [hk0]; rfl, rfl⟩
        case rest =>
          obtain ⟨rfl, hwc⟩ := hcut
          obtain rfl := hwc.symm
          clear hbwr
          have ba : Bw wr (wr.alloc (.cells #[] 5)) := Below.alloc (Bw.refl _) (Nat.le_refl _) _
          have aa0 := T0.out _ ba
          have aa1 := (hdq.keep ba).c1 q hlt
          rw [eW] at aa1
          clear ba
          go_upto_region 11 with (at_builtin; refine wpList_more (w := wr.alloc (.cells #[] 5)) (by rfl) _ _ (by rfl) wr.heap.size _ 0 (fun i => S.wait (64 * q + i)) (by rfl) (own_empty wr wr.heap.size 5 (Nat.le_refl _)) ⟨bw, 0, none⟩ kp cw (fun i => S.wait (64 * q + i)) (by rfl) (HrW.out _ (Below.alloc (Bw.refl _) (Nat.le_refl _) _)) (by omega) (by rw [size_alloc]; omega) ?_; intro v2 w2 hrow2 hg2)
          have hb2 : Bw wr w2 := bw_fresh hg2
          have hb2d : Bw wr w2.drew := hb2.trans ((Bw.refl _).drew)
          have hrow2d : w2.drew.ownsRow wr.heap.size 5 1 v2 kp (cellsU (fun i => S.wait (64 * q + i)) kp) := by
            have h1 : cellsU (fun c => if c < 0 then S.wait (64 * q + c) else S.wait (64 * q + (c - 0))) (0 + kp) = cellsU (fun i => S.wait (64 * q + i)) kp := by
              rw [Nat.zero_add]; unfold cellsU
              exact List.map_congr_left (fun i _ => by dsimp only; rw [if_neg (Nat.not_lt_zero _), Nat.sub_zero])
            rw [h1, Nat.zero_add] at hrow2
            exact own_keep hrow2 ((Bw.refl _).drew)
          have hlastd := HrL.out _ hb2d
          have dd0 := (hdq.keep hb2d).c0 q hlt
          rw [eL] at dd0
          have cl1 : (64 : Int) ≤ (cl : Int) := by omega
          have clm : (cl : Int) ≤ 9223372036854775807 := by unfold maxLen at hclm; omega
          have T0b : Hid (∀ W x y z, Bw wr W → (((W.setCell ⟨cb, q * 3, none⟩ x).setCell ⟨cb, q * 3 + 1, none⟩ y).setCell ⟨cb, q * 3 + 2, none⟩ z).cell? ⟨g, 0, none⟩ = some (.slice (some ⟨cb, 0, none⟩) S.n cap)) := fun W x y z kW => by
            have hne := hdq.ne
            rw [World.cell?_setCell_other _ _ _ _ (fun e => hne (by injection e with e; exact e.symm)), World.cell?_setCell_other _ _ _ _ (fun e => hne (by injection e with e; exact e.symm)), World.cell?_setCell_other _ _ _ _ (fun e => hne (by injection e with e; exact e.symm))]
            exact T0.out W kW
          clear hrow2 hg2 aa0 aa1
          refine wp_region_held_drew (S := fun w' => w'.cell? ⟨g, 0, none⟩ = some (.slice (some ⟨cb, 0, none⟩) S.n cap)) (by kernel_rfl) (T0.out _ hb2d) (fun hHeld => ?_)
          refine wpAnyH_take (i := 0) (v := ?_) rfl (by kernel_rfl) (by kernel_rfl) (by kernel_rfl) (fun _ _ _ h => h) (Or.inl ⟨by rfl, ?_⟩) (by assumption) ?_
          rotate_left
          · intro w hSw; (try dsimp only at hSw); go_simp; all_goals (with_reducible rfl)
          try simp only [Act.put, List.setIfInBounds_toArray, List.set_cons_zero, List.set_cons_succ, List.getElem_toArray, List.getElem_cons_succ, List.getElem_cons_zero]
          refine wpAnyH_take (i := 1) (v := ?_) rfl (by kernel_rfl) (by kernel_rfl) (by kernel_rfl) (fun _ _ _ h => h) (Or.inl ⟨by rfl, ?_⟩) (by assumption) ?_
          rotate_left
          · intro w hSw; (try dsimp only at hSw); go_simp; all_goals (with_reducible rfl)
          try simp only [Act.put, List.setIfInBounds_toArray, List.set_cons_zero, List.set_cons_succ, List.getElem_toArray, List.getElem_cons_succ, List.getElem_cons_zero]
          refine wpAnyH_take (i := 2) (v := ?_) rfl (by kernel_rfl) (by kernel_rfl) (by kernel_rfl) (fun _ _ _ h => h) (Or.inl ⟨by rfl, ?_⟩) (by assumption) ?_
          rotate_left
          · intro w hSw; (try dsimp only at hSw); go_simp; all_goals (with_reducible rfl)
          try simp only [Act.put, List.setIfInBounds_toArray, List.set_cons_zero, List.set_cons_succ, List.getElem_toArray, List.getElem_cons_succ, List.getElem_cons_zero]
          refine wpAnyH_take (i := 3) (v := ?_) rfl (by kernel_rfl) (by kernel_rfl) (by kernel_rfl) (fun _ _ _ h => h) (Or.inl ⟨by rfl, ?_⟩) (by assumption) ?_
          rotate_left
          · intro w hSw; (try dsimp only at hSw); go_simp; all_goals (with_reducible rfl)
          try simp only [Act.put, List.setIfInBounds_toArray, List.set_cons_zero, List.set_cons_succ, List.getElem_toArray, List.getElem_cons_succ, List.getElem_cons_zero]
          refine wpAnyH_take (i := 4) (v := ?_) rfl (by kernel_rfl) (by kernel_rfl) (by kernel_rfl) (fun _ _ _ h => h) (Or.inl ⟨by rfl, ?_⟩) (by assumption) ?_
          rotate_left
          · intro w hSw; (try dsimp only at hSw); go_simp; all_goals (with_reducible rfl)
          try simp only [Act.put, List.setIfInBounds_toArray, List.set_cons_zero, List.set_cons_succ, List.getElem_toArray, List.getElem_cons_succ, List.getElem_cons_zero]
          refine wpAnyH_take (i := 5) (v := ?_) rfl (by kernel_rfl) (by kernel_rfl) (by kernel_rfl) (fun _ _ _ h => h) (Or.inl ⟨by rfl, ?_⟩) (by assumption) ?_
          rotate_left
          · intro w hSw; (try dsimp only at hSw); go_simp; all_goals (with_reducible rfl)
          try simp only [Act.put, List.setIfInBounds_toArray, List.set_cons_zero, List.set_cons_succ, List.getElem_toArray, List.getElem_cons_succ, List.getElem_cons_zero]
          refine wpAnyH_take (i := 6) (v := ?_) rfl (by kernel_rfl) (by kernel_rfl) (by kernel_rfl) (fun _ _ _ h => h) (Or.inl ⟨by rfl, ?_⟩) (by assumption) ?_
          rotate_left
          · intro w hSw; (try dsimp only at hSw); go_simp; all_goals (with_reducible rfl)
          try simp only [Act.put, List.setIfInBounds_toArray, List.set_cons_zero, List.set_cons_succ, List.getElem_toArray, List.getElem_cons_succ, List.getElem_cons_zero]
          refine wpAnyH_take (i := 7) (v := ?_) rfl (by kernel_rfl) (by kernel_rfl) (by kernel_rfl) (fun _ _ _ h => h) (Or.inl ⟨by rfl, ?_⟩) (by assumption) ?_
          rotate_left
          · intro w hSw; (try dsimp only at hSw); go_simp; all_goals (with_reducible rfl)
          try simp only [Act.put, List.setIfInBounds_toArray, List.set_cons_zero, List.set_cons_succ, List.getElem_toArray, List.getElem_cons_succ, List.getElem_cons_zero]
          refine wpAnyH_take (i := 8) (v := ?_) rfl (by kernel_rfl) (by kernel_rfl) (by kernel_rfl) (fun _ _ _ h => h) (Or.inl ⟨by rfl, ?_⟩) (by assumption) ?_
          rotate_left
          · intro w hSw; (try dsimp only at hSw); go_simp; all_goals (with_reducible rfl)
          try simp only [Act.put, List.setIfInBounds_toArray, List.set_cons_zero, List.set_cons_succ, List.getElem_toArray, List.getElem_cons_succ, List.getElem_cons_zero]
          refine wpAnyH_take (i := 9) (v := ?_) rfl (by kernel_rfl) (by kernel_rfl) (by kernel_rfl) (fun _ _ _ h => h) (Or.inl ⟨by rfl, ?_⟩) (by assumption) ?_
          rotate_left
          · intro w hSw; (try dsimp only at hSw); go_simp; all_goals (with_reducible rfl)
          try simp only [Act.put, List.setIfInBounds_toArray, List.set_cons_zero, List.set_cons_succ, List.getElem_toArray, List.getElem_cons_succ, List.getElem_cons_zero]
          refine wpAnyH_take (i := 10) (v := ?_) rfl (by kernel_rfl) (by kernel_rfl) (by kernel_rfl) (fun _ _ _ h => h) (Or.inl ⟨by rfl, ?_⟩) (by assumption) ?_
          rotate_left
          · intro w hSw; (try dsimp only at hSw); go_simp; all_goals (with_reducible rfl)
          try simp only [Act.put, List.setIfInBounds_toArray, List.set_cons_zero, List.set_cons_succ, List.getElem_toArray, List.getElem_cons_succ, List.getElem_cons_zero]
          refine wpAnyH_take (i := 11) (v := ?_) rfl (by kernel_rfl) (by kernel_rfl) (by kernel_rfl) (fun _ _ _ h => h) (Or.inl ⟨by rfl, ?_⟩) (by assumption) ?_
          rotate_left
          · intro w hSw; (try dsimp only at hSw); go_simp; all_goals (with_reducible rfl)
          try simp only [Act.put, List.setIfInBounds_toArray, List.set_cons_zero, List.set_cons_succ, List.getElem_toArray, List.getElem_cons_succ, List.getElem_cons_zero]
          refine wpAnyH_take (i := 12) (v := ?_) rfl (by kernel_rfl) (by kernel_rfl) (by kernel_rfl) (fun _ _ _ h => h) (Or.inl ⟨by rfl, ?_⟩) (by assumption) ?_
          rotate_left
          · intro w hSw; (try dsimp only at hSw); go_simp; all_goals (with_reducible rfl)
          try simp only [Act.put, List.setIfInBounds_toArray, List.set_cons_zero, List.set_cons_succ, List.getElem_toArray, List.getElem_cons_succ, List.getElem_cons_zero]
          refine wpAnyH_take (i := 14) (v := ?_) rfl (by kernel_rfl) (by kernel_rfl) (by kernel_rfl) (fun _ _ _ h => h) (Or.inl ⟨by rfl, ?_⟩) (by assumption) ?_
          rotate_left
          · intro w hSw; (try dsimp only at hSw); go_simp; all_goals (with_reducible rfl)
          try simp only [Act.put, List.setIfInBounds_toArray, List.set_cons_zero, List.set_cons_succ, List.getElem_toArray, List.getElem_cons_succ, List.getElem_cons_zero]
          refine wpAnyH_ready (rs := [13]) (by kernel_rfl) (by simp) ?_
          refine AllReadyH.cons rfl (fun K hK => ?_) AllReadyH.nil
          go_simp
          refine hK.out _ _ (T0.out _ hb2d) (fun hHeld => ?_)
          clear hK K
          try simp only [Act.put, List.setIfInBounds_toArray, List.set_cons_zero, List.set_cons_succ, List.getElem_toArray, List.getElem_cons_succ, List.getElem_cons_zero]
          refine wpAnyH_take (i := 15) (v := ?_) rfl (by kernel_rfl) (by kernel_rfl) (by kernel_rfl) (fun _ _ _ h => h) (Or.inl ⟨by rfl, ?_⟩) (by assumption) ?_
          rotate_left
          · intro w hSw; (try dsimp only at hSw); go_simp; all_goals (with_reducible rfl)
          try simp only [Act.put, List.setIfInBounds_toArray, List.set_cons_zero, List.set_cons_succ, List.getElem_toArray, List.getElem_cons_succ, List.getElem_cons_zero]
          refine wpAnyH_ready (rs := [16]) (by kernel_rfl) (by simp) ?_
          refine AllReadyH.cons rfl (fun K hK => ?_) AllReadyH.nil
          refine step_more (by rfl) _ _ (by rfl) wr.heap.size _ kp (fun i => S.wait (64 * q + i)) (by rfl) hrow2d ad (64 - kp) (cl - kp) (fun i => S.last (64 * q + (kp + i))) (by rfl) hlastd (by omega) hb2d.size ?_
          intro v3 w3 hown3 hg3
          have hb3 : Bw wr w3 := bw_grow hg3 hb2d hb2d.size hrow2d
          have hn64 : kp + (64 - kp) = 64 := (by omega)
          rw [hn64] at hown3
          obtain ⟨b3, c3, hv3, hb3b, h64c, hcm3, hO3⟩ := Own.of hown3 (by omega)
          subst hv3
          have hd3 := hdq.keep hb3
          have e0 := hd3.c0 q hlt
          have e1 := hd3.c1 q hlt
          have e2 := hd3.c2 q hlt
          have ef := hd3.fc
          refine hK.out _ _ (T0.out _ hb3) (fun hHeld => ?_)
          clear hK K
          try simp only [Act.put, List.setIfInBounds_toArray, List.set_cons_zero, List.set_cons_succ, List.getElem_toArray, List.getElem_cons_succ, List.getElem_cons_zero]
          refine wpAnyH_take (i := 17) (v := ?_) rfl (by kernel_rfl) (by kernel_rfl) (by kernel_rfl) (fun _ _ _ h => h) (Or.inl ⟨by rfl, ?_⟩) (by assumption) ?_
          rotate_left
          · intro w hSw; (try dsimp only at hSw); go_simp; all_goals (with_reducible rfl)
          try simp only [Act.put, List.setIfInBounds_toArray, List.set_cons_zero, List.set_cons_succ, List.getElem_toArray, List.getElem_cons_succ, List.getElem_cons_zero]
          refine wpAnyH_take (i := 18) (v := ?_) rfl (by kernel_rfl) (by kernel_rfl) (by kernel_rfl) (fun _ _ _ h => h) (Or.inl ⟨by rfl, ?_⟩) (by assumption) ?_
          rotate_left
          · intro w hSw; (try dsimp only at hSw); go_simp; all_goals (with_reducible rfl)
          try simp only [Act.put, List.setIfInBounds_toArray, List.set_cons_zero, List.set_cons_succ, List.getElem_toArray, List.getElem_cons_succ, List.getElem_cons_zero]
          refine wpAnyH_ready (rs := [19]) (by kernel_rfl) (by simp) ?_
          refine AllReadyH.cons rfl (fun K hK => ?_) AllReadyH.nil
          go_simp
          refine hK.out _ _ (T0b.out _ _ _ _ hb3) (fun hHeld => ?_)
          clear hK K
          try simp only [Act.put, List.setIfInBounds_toArray, List.set_cons_zero, List.set_cons_succ, List.getElem_toArray, List.getElem_cons_succ, List.getElem_cons_zero]
          refine wpAnyH_done (by kernel_rfl) ?_ _
          have hb3r : Bw wr w3 := hb3
          have hlast3 : RowU w3 (.slice (some ⟨b3, 0, none⟩) 64 c3) (fun c => (S.ups K m (q + 1)).last (64 * q + c)) := ⟨b3, c3, rfl, h64c, hcm3, hO3.congr (fun i hi' => by
            rw [Dsk.ups_l S K m (q + 1) q i hi', hn'.out, hkp.out]
            by_cases e : i < kp
            · rw [if_pos ⟨Nat.lt_succ_self _, hi, e⟩, if_pos e]
            · rw [if_neg (fun e' => e e'.2.2), if_neg e, show kp + (i - kp) = i by omega])⟩
          have hd4 := hd3.set3 q hlt (.slice (some ⟨b3, 0, none⟩) 64 c3) (.slice none 0 0) (S.ups K m (q + 1)) rfl rfl rfl hlast3 (fun e => by rw [Dsk.ups_i, if_pos (Nat.lt_succ_self _)] at e; cases e) ⟨_, _, _, rfl⟩ hsami (fun t c ht hc => hsame t c ht hc) (fun _ _ _ _ => rfl) (Dsk.ups_lb hok K m (q + 1)) hok.wb
          rw [Dsk.ups_i, if_pos (Nat.lt_succ_self _)] at hd4
          have hb4 := bx_cb (hbq.trans (.of_bw hb3r)) (set3_bx w3 cb q (.slice (some ⟨b3, 0, none⟩) 64 c3) (.slice none 0 0) false)
          obtain ⟨V, hV⟩ : ∃ V, Hid (Go.Proofs.Ytppknadflmjefaa.set3 w3 cb q (.slice (some ⟨b3, 0, none⟩) 64 c3) (.slice none 0 0) false = V) := ⟨_, rfl⟩
          have hV' : ((w3.setCell ⟨cb, q * 3, none⟩ (.slice (some ⟨b3, 0, none⟩) 64 c3)).setCell ⟨cb, q * 3 + 1, none⟩ (.slice none 0 0)).setCell ⟨cb, q * 3 + 2, none⟩ (.bool false) = V := hV.out
          rw [hV']
          rw [hV.out] at hd4 hb4
          have hfin : Hid ((∃ (q' : Nat) (LV' WV' : Nat → Value), q' ≤ S.n ∧ Value.int .i64 ((n : Int) + 1) = .int .i64 ((Dsk.cnt S.is q' : Nat) : Int) ∧ Value.int .i64 ((q : Int) + 1) = .int .i64 (q' : Int) ∧ RefAt V g cb cap LV' WV' (S.ups K m q') ∧ Bx (rIn g cb) w V) ∧ S.n - (intOf (.int .i64 ((q : Int) + 1))).toNat < S.n - (intOf (.int .i64 (q : Int))).toNat) := ⟨⟨q + 1, _, _, hlt, by rw [Dsk.cnt, hi, hn'.out]; rfl, rfl, hd4, hb4⟩, by simp only [intOf]; omega⟩
          clear hV' hd4 hb4 hd3 hlast3 e0 e1 e2 ef hHeld
          go_wp2
          exact hfin.out
    · obtain rfl : q = S.n := by omega
      have t1 := hdq.t1
      have f1 := hdq.f1
      have t2 := hdq.t2
      have f2 := hdq.f2
      have hd4 := (hdq.setDead false).setFuse (x := -1) (by decide) (by decide)
      go_wp2
      go_end0
      refine ⟨rfl, ⟨LV', WV', hd4.congr rfl rfl rfl (fun s hs => ?_) (fun s d hs hd => ?_) (fun _ _ _ _ _ => rfl) (Dsk.again_lb hok K m) hok.wb⟩, (hbq.put (.inl rfl)).put (.inl rfl)⟩
      · have hs' : s < S.n := hs
        show false = (S.ups K m S.n).is s
        rw [Dsk.ups_i, if_pos hs']
      · have hs' : s < S.n := hs
        show (S.again K m).last (64 * s + d) = (S.ups K m S.n).last (64 * s + d)
        rw [Dsk.ups_l S K m S.n s d hd]
        show (if S.is ((64 * s + d) / 64) = true ∧ (64 * s + d) % 64 < Dsk.kept K m (Dsk.cnt S.is ((64 * s + d) / 64)) then _ else _) = _
        rw [show (64 * s + d) / 64 = s by omega, show (64 * s + d) % 64 = d by omega]
        by_cases e : S.is s = true ∧ d < Dsk.kept K m (Dsk.cnt S.is s)
        · rw [if_pos e, if_pos ⟨hs', e⟩]
        · rw [if_neg e, if_neg (fun e' => e e'.2)]
end Go.Proofs.Ytppknadflmjefaa
