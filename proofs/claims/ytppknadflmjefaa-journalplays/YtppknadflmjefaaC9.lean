/- Layer 14: the program's Restart. -/
import Derived.Test.YtppknadflmjefaaC8
namespace Go.Proofs.Ytppknadflmjefaa
open Go.RowKit Go.Deep Go.Maps
set_option linter.unusedVariables false
set_option linter.unusedSimpArgs false

namespace Dsk
/-- the first i of those that wait are told by their fates -/
def res (S : Dsk) (K : Nat → Int) (m i : Nat) : Dsk := { S with last := fun p => if S.is (p / 64) = true ∧ cnt S.is (p / 64) < i ∧ p % 64 < kept K m (cnt S.is (p / 64)) then S.wait p else S.last p }
/-- the disk behind a restart -/
def again (S : Dsk) (K : Nat → Int) (m : Nat) : Dsk := { S with last := fun p => if S.is (p / 64) = true ∧ p % 64 < kept K m (cnt S.is (p / 64)) then S.wait p else S.last p, is := fun _ => false, dead := false, fuse := -1 }
theorem res_lb {S : Dsk} (h : S.Ok) (K : Nat → Int) (m i p : Nat) : 0 ≤ (S.res K m i).last p ∧ (S.res K m i).last p < 256 := by
  show 0 ≤ (if S.is (p / 64) = true ∧ cnt S.is (p / 64) < i ∧ p % 64 < kept K m (cnt S.is (p / 64)) then S.wait p else S.last p) ∧ (if S.is (p / 64) = true ∧ cnt S.is (p / 64) < i ∧ p % 64 < kept K m (cnt S.is (p / 64)) then S.wait p else S.last p) < 256
  by_cases e : S.is (p / 64) = true ∧ cnt S.is (p / 64) < i ∧ p % 64 < kept K m (cnt S.is (p / 64))
  · rw [if_pos e]; exact h.wb p
  · rw [if_neg e]; exact h.lb p
theorem again_lb {S : Dsk} (h : S.Ok) (K : Nat → Int) (m p : Nat) : 0 ≤ (S.again K m).last p ∧ (S.again K m).last p < 256 := by
  show 0 ≤ (if S.is (p / 64) = true ∧ p % 64 < kept K m (cnt S.is (p / 64)) then S.wait p else S.last p) ∧ (if S.is (p / 64) = true ∧ p % 64 < kept K m (cnt S.is (p / 64)) then S.wait p else S.last p) < 256
  by_cases e : S.is (p / 64) = true ∧ p % 64 < kept K m (cnt S.is (p / 64))
  · rw [if_pos e]; exact h.wb p
  · rw [if_neg e]; exact h.lb p
theorem res_step {S : Dsk} {K : Nat → Int} {m s q : Nat} (hi : S.is s = true) (hc : cnt S.is s = q) (p : Nat) : (S.res K m (q + 1)).last p = cpyF (S.res K m q).last (s * 64) (kept K m q) (fun i => S.wait (64 * s + i)) p := by
  have hk := kept_le K m q
  unfold cpyF
  show (if S.is (p / 64) = true ∧ cnt S.is (p / 64) < q + 1 ∧ p % 64 < kept K m (cnt S.is (p / 64)) then S.wait p else S.last p) = _
  by_cases e0 : p / 64 = s
  · rw [e0, hc]
    by_cases e : p % 64 < kept K m q
    · rw [if_pos ⟨hi, Nat.lt_succ_self _, e⟩, if_pos (by omega)]
      show S.wait p = S.wait (64 * s + (p - s * 64))
      rw [show 64 * s + (p - s * 64) = p by omega]
    · rw [if_neg (fun e' => e e'.2.2), if_neg (by omega)]
      show _ = if S.is (p / 64) = true ∧ cnt S.is (p / 64) < q ∧ p % 64 < kept K m (cnt S.is (p / 64)) then S.wait p else S.last p
      rw [if_neg (fun e' => by rw [e0, hc] at e'; omega)]
  · rw [if_neg (c := s * 64 ≤ p ∧ p < s * 64 + kept K m q) (by omega)]
    show _ = if S.is (p / 64) = true ∧ cnt S.is (p / 64) < q ∧ p % 64 < kept K m (cnt S.is (p / 64)) then S.wait p else S.last p
    by_cases e : S.is (p / 64) = true ∧ cnt S.is (p / 64) < q ∧ p % 64 < kept K m (cnt S.is (p / 64))
    · rw [if_pos e, if_pos ⟨e.1, by omega, e.2.2⟩]
    · rw [if_neg e, if_neg (fun e' => e ⟨e'.1, by
        have : cnt S.is (p / 64) ≠ q := fun h => e0 (cnt_inj e'.1 hi (by rw [h, hc]))
        omega, e'.2.2⟩)]
end Dsk
theorem restart_nil (w : World) (A : Option Addr) (m c : Nat) : Calls Try.prog 13 #[.pointer none, .slice A m c] w fun e w' => e = .returned (.tuple #[]) ∧ w' = w := by
  go_enter Try.func13, Try.ntmps13
  go_wp2
  refine bodyPost_ret (results_none rfl _ _ _) rfl ?_
  exact ⟨rfl, rfl⟩
set_option maxRecDepth 100000 in
theorem restart_any {w : World} {g lb gm : Nat} {S : Dsk} (h : DiskAt w g lb gm S) (F : Option Addr) (m c : Nat) (K : Nat → Int) (hm' : m ≤ 140737488355328) (hF : IntsAt w F m K) (hA : ∀ b o, F = some ⟨b, o, none⟩ → 0 < m → ¬ dIn g lb gm b) :
    Calls Try.prog 13 #[.pointer (some ⟨g, 0, none⟩), .slice F m c] w fun e w' => e = .returned (.tuple #[]) ∧ DiskAt w' g lb gm (S.again K m) ∧ Bx (dIn g lb gm) w w' := by
  obtain ⟨n, hn⟩ : ∃ n, Hid ((Dsk.ris S.is S.n).length = n) := ⟨_, rfl⟩
  have HRi := rising_any h
  rw [hn.out] at HRi
  have H : Hid (DiskAt w g lb gm S) := h
  have HF : Hid (IntsAt w F m K) := hF
  have HA : Hid (∀ b o, F = some ⟨b, o, none⟩ → 0 < m → ¬ dIn g lb gm b) := hA
  clear hF hA h
  go_enter Try.func13, Try.ntmps13
  go_wp2_with (go_at_call 38; refine HRi.mono ?_; rintro e w2 ⟨A, cap, rfl, hri, hb2⟩)
  have hd2 := H.out.keep hb2
  have hok := hd2.ok
  have hns : n ≤ S.n := by rw [← hn.out, Dsk.ris_len]; exact Dsk.cnt_le _ _
  have hmn := hok.n1
  have hlow1 : Hid (∀ b, dIn g lb gm b → b < w.heap.size) := H.out.low
  have hbw2 : Bx (dIn g lb gm) w w2 := .of_bw hb2
  clear HRi
  go_loopw [12] (fun i wr => ∃ q : Nat, q ≤ n ∧ i = .int .i64 (q : Int) ∧ DiskAt wr g lb gm (S.res K m q) ∧ RisAt wr w.heap.size A (Dsk.ris S.is S.n) ∧ Bx (dIn g lb gm) w wr) (fun i _ => n - (intOf i).toNat)
  case atStart =>
    refine ⟨0, Nat.zero_le _, rfl, hd2.congr rfl (fun p _ => ?_) (fun s _ => rfl) (fun _ _ _ _ _ => rfl) rfl rfl (Dsk.res_lb hok K m 0) hok.wb, hri, hbw2⟩
    exact if_neg (fun e => absurd e.2.1 (Nat.not_lt_zero _))
  case round =>
    obtain ⟨q, hq, rfl, hdq, hriq, hbq⟩ := hrel
    have q0 : (0 : Int) ≤ (q : Int) := Int.natCast_nonneg _
    by_cases hlt : q < n
    · have q1 : (q : Int) < (n : Int) := by omega
      obtain ⟨s, hs⟩ : ∃ s, (Dsk.ris S.is S.n)[q]? = some s := ⟨_, List.getElem?_eq_getElem (by rw [hn.out]; exact hlt)⟩
      obtain ⟨hsn, hsi, hsc⟩ := Dsk.ris_get S.is S.n q s hs
      obtain ⟨b, rfl, hbb, hcell⟩ := hriq.load hs
      have s0 : (0 : Int) ≤ (s : Int) := Int.natCast_nonneg _
      have s1 : (s : Int) < (S.n : Int) := by omega
      have HS : Hid (S.is s = true ∧ Dsk.cnt S.is s = q) := ⟨hsi, hsc⟩
      have hlk := hdq.map.look hok.wb hmn hsn hsi
      have c1 := hdq.c1
      clear hsi hsc hs
      have tok1 : Hid (g = g) := rfl
      go_wp2_with (first
        | (clear tok1; refine wpList_allocS (by rfl) (by rfl) ?_; intro W1 z1 hz1 hb1 hs1; have tok2 : Hid (g = g) := rfl)
        | (clear tok2; refine wpList_storeS (by rfl) _ _ (by rfl) z1 S.wait (fun _ => 0) s 0 (by rfl) (by rfl) hs1 ?_; intro W2 hx2 hs2))
      have bw2 : Bw wr W2 := bw_bx hb1 hx2 hz1
      have bw2d : Bw wr W2.drew := bw2.trans ((Bw.refl W2).drew)
      have hdd := hdq.keep bw2d
      have c0 := hdd.c0
      obtain ⟨kp, hkp⟩ : ∃ k, Hid (Dsk.kept K m q = k) := ⟨_, rfl⟩
      have hk64 : kp ≤ 64 := by rw [← hkp.out]; exact Dsk.kept_le _ _ _
      have hFd : IntsAt W2.drew F m K := HF.out.keepx (hbq.trans (.of_bw bw2d)) (fun b o e h0 => HA.out b o e h0)
      have HKp := kept_any F m c q K W2.drew hFd (by omega) hm'
      rw [hkp.out] at HKp
      have hrd : RowAt W2.drew (some ⟨z1, 0, none⟩) kp (fun i => S.wait (64 * s + i)) := by
        have := (hs2.blk.keep ((Bw.refl W2).drew)).row (o := 0) (n := kp) (fun i => hok.wb _) (by omega)
        simpa using this
      obtain ⟨W3, hcp, hbl3, hx3⟩ := copyT (w := W2.drew) (s * 64) 64 64 kp 64 kp 3 hdd.rows (show s * 64 + kp ≤ 64 * S.n by omega) (by omega) hrd
      have k0 : (0 : Int) ≤ (kp : Int) := Int.natCast_nonneg _
      have k1 : (kp : Int) ≤ 64 := by omega
      have t64 : (64 : Int).toNat = 64 := rfl
      have hd3 : DiskAt W3 g lb gm (S.res K m (q + 1)) := by
        have h3 := hdd.setLast hx3 hbl3 (fun i => cpyF_bd (Dsk.res_lb hok K m q) (fun i => hok.wb _) i)
        refine h3.congr rfl (fun p hp => ?_) (fun _ _ => rfl) (fun _ _ _ _ _ => rfl) rfl rfl (Dsk.res_lb hok K m (q + 1)) hok.wb
        rw [Dsk.res_step HS.out.1 HS.out.2 p, hkp.out]
      have hd3c := hd3.c0
      have hbx : Bx (dIn g lb gm) wr W3 := (Bx.of_bw bw2d).trans (hx3.more (fun b e => dIn_l e))
      have hri3 := hriq.keepd hbx hlow1.out
      have hbx' := hbq.trans hbx
      clear hbl3 hrd hFd
      go_frame
      go_region_held3 (fun w' => w'.cell? ⟨g, 0, none⟩ = some (.slice (some ⟨lb, 0, none⟩) S.n S.n)) (first | exact c0 | exact hd3c | assumption) (first | (go_at_call 39; refine HKp.mono ?_; rintro e w9 ⟨rfl, hw⟩; obtain rfl := hw.symm))
      clear HKp hcp hd3c c0
      go_wp2
      go_roundw
      case rel => exact ⟨q + 1, hlt, rfl, hd3, hri3, hbx'⟩
      case measure => simp only [intOf]; omega
    · obtain rfl : q = n := by omega
      have c1 := hdq.c1
      obtain ⟨W2, hcl, hm2, hx2⟩ := hdq.map.clear 0 S.wait
      have hd2' : DiskAt W2 g lb gm { S.res K m q with is := fun _ => false } := ⟨(hx2.block g hdq.lt hdq.ne2).trans hdq.cells, hdq.rows.keepx hx2 hdq.ne3, hm2, ⟨hdq.ok.n0, hdq.ok.n1, hdq.ok.lb, hdq.ok.wb, hdq.ok.f0, hdq.ok.f1⟩⟩
      have c3 := hd2'.c3
      have f3 := hd2'.f3
      have c2 := hd2'.c2
      have f2 := hd2'.f2
      have hd4 := (hd2'.setDead false).setFuse (x := -1) (by decide) (by decide)
      have hbx : Bx (dIn g lb gm) w W2 := hbq.trans (hx2.more (fun b e => dIn_m e))
      clear hd2' hdq hm2 hx2
      go_wp2
      go_end0
      refine ⟨rfl, hd4.congr rfl (fun p hp => ?_) (fun _ _ => rfl) (fun _ _ _ _ _ => rfl) rfl rfl (Dsk.again_lb hok K m) hok.wb, (hbx.put (dIn_g rfl)).put (dIn_g rfl)⟩
      have hp' : p / 64 < S.n := by
        have : p < 64 * S.n := hp
        omega
      show (if S.is (p / 64) = true ∧ p % 64 < Dsk.kept K m (Dsk.cnt S.is (p / 64)) then S.wait p else S.last p) = (if S.is (p / 64) = true ∧ Dsk.cnt S.is (p / 64) < q ∧ p % 64 < Dsk.kept K m (Dsk.cnt S.is (p / 64)) then S.wait p else S.last p)
      by_cases e : S.is (p / 64) = true ∧ p % 64 < Dsk.kept K m (Dsk.cnt S.is (p / 64))
      · have h1 := Dsk.cnt_lt S.is hp' e.1
        rw [if_pos e, if_pos ⟨e.1, by rw [← hn.out, Dsk.ris_len]; exact h1, e.2⟩]
      · rw [if_neg e, if_neg (fun e' => e ⟨e'.1, e'.2.2⟩)]
end Go.Proofs.Ytppknadflmjefaa
