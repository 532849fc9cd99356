/- Proved: for every number and every list of acts the statement DiskPlays answers true (the document's P14.1 to P14.7: a disk of the program and the document's own, given the same acts, answer alike at every act, are alike dead or alive, wait for as many sectors, and hold the same bytes at the end), with no condition but the reach. -/
import Derived.Test.YtmmpignjihbbpaaCX
import Derived.Test.YtmmpignjihbbpaaCM
import Derived.Test.YtmmpignjihbbpaaFa
import Derived.ShutString
import Derived.ChangeOld
namespace Go.Proofs.Ytmmpignjihbbpaa.diskPlays
open Go.ChangeShapes Go.WideShapes Go.ChangeAt Go.RowKit
set_option linter.unusedVariables false

set_option linter.unusedSimpArgs false
open Go.Deep
theorem ints_lt {w : World} {b o m : Nat} {K : Nat → Int} (h : IntsAt w (some ⟨b, o, none⟩) m K) (h0 : 0 < m) : b < w.heap.size := by
  obtain ⟨b', o', e, hc⟩ := h.at h0
  cases e
  exact block_lt_of_cell hc
theorem row_lt {w : World} {b o L : Nat} {f : Nat → Int} (h : RowAt w (some ⟨b, o, none⟩) L f) (h0 : 0 < L) : b < w.heap.size := h.lt (k := 0) h0
/-- the act that reads the whole disk -/
def allOf (n : Nat) : Ac := ⟨2, 0, (n : Int), none, 0, 0, fun _ => 0, none, 0, 0, fun _ => 0, 0⟩
theorem allOf_in (w : World) (n : Nat) (h : n ≤ 300) : AcIn w (allOf n) :=
  ⟨⟨row_none w, Nat.le_refl _, Nat.zero_le _, fun _ => rfl⟩, ⟨⟨Or.inl rfl, fun _ => ⟨show (-9223372036854775808 : Int) ≤ 0 by decide, show (0 : Int) ≤ 9223372036854775807 by decide⟩⟩, Nat.le_refl _, Nat.zero_le _⟩, ⟨show (-9223372036854775808 : Int) ≤ 2 by decide, show (2 : Int) ≤ 9223372036854775807 by decide⟩, ⟨show (-9223372036854775808 : Int) ≤ 0 by decide, show (0 : Int) ≤ 9223372036854775807 by decide⟩, ⟨show (-9223372036854775808 : Int) ≤ (n : Int) by omega, show (n : Int) ≤ 9223372036854775807 by omega⟩, ⟨show (0 : Int) ≤ 0 by decide, show (0 : Int) < 256 by decide⟩⟩
set_option maxRecDepth 100000 in
set_option maxHeartbeats 8000000 in
theorem walk (a0 : Int) (a1 : Option Addr) (len1 cap1 : Nat) (X1 : Nat → Ac) (w : World) (w0 : (Lit.int .i64 a0).wf = true) (w1 : InActs w a1 len1 cap1 X1) :
    Calls Try.prog 3 #[.int .i64 a0, .slice a1 len1 cap1] w fun e w' => e = .returned (.bool true) ∧ Below w.heap.size w w' := by
  have hab := bounds_i64 w0
  have HA : Hid (InActs w a1 len1 cap1 X1) := w1
  have l1 := w1.le
  have r1 := w1.room
  have HG := great14_any w1
  clear w0 w1
  by_cases hin : 1 ≤ a0 ∧ a0 ≤ 65536
  case neg =>
    have HN := new_no a0 hin (by omega) (by omega) w
    have HM := rnew_no a0 hin w
    obtain ⟨E, hE⟩ : ∃ E : Int, Hid ((if a0 < 1 then 1 else 2) = E) := ⟨_, rfl⟩
    rw [hE.out] at HN HM
    have eE : (E == E) = true := beq_self_eq_true E
    by_cases g : 300 < a0
    · have g2 : ¬ a0 ≤ 65536 := by omega
      clear hin
      go_enter Try.func3, Try.ntmps3
      go_wp2_with (first
        | (go_at_call 8; refine HG.mono ?_; rintro e w1 ⟨⟨B0, rfl⟩, hw⟩; obtain rfl := hw.symm; clear HG)
        | (go_at_call 10; refine HN.mono ?_; rintro e w1 ⟨rfl, hw⟩; obtain rfl := hw.symm; clear HN)
        | (go_at_call 11; refine HM.mono ?_; rintro e w1 ⟨rfl, hw⟩; obtain rfl := hw.symm; clear HM)
        | (go_at_call 9; refine (wakes14_any _).mono ?_; rintro e w6 ⟨rfl, hw6⟩))
      · go_ret
        exact ⟨rfl, hw6⟩
      · go_ret
        exact ⟨rfl, hw6⟩
    · clear hin
      go_enter Try.func3, Try.ntmps3
      go_wp2_with (first
        | (go_at_call 8; refine HG.mono ?_; rintro e w1 ⟨⟨B0, rfl⟩, hw⟩; obtain rfl := hw.symm; clear HG)
        | (go_at_call 10; refine HN.mono ?_; rintro e w1 ⟨rfl, hw⟩; obtain rfl := hw.symm; clear HN)
        | (go_at_call 11; refine HM.mono ?_; rintro e w1 ⟨rfl, hw⟩; obtain rfl := hw.symm; clear HM)
        | (go_at_call 9; refine (wakes14_any _).mono ?_; rintro e w6 ⟨rfl, hw6⟩))
      · go_ret
        exact ⟨rfl, hw6⟩
      · go_ret
        exact ⟨rfl, hw6⟩
  case pos =>
    by_cases g : 300 < a0
    · obtain ⟨hin1, hin2⟩ := hin
      have HN := new_ok 300 (by omega) (by omega) w
      have HM := rnew_ok 300 (by omega) (by omega)
      go_enter Try.func3, Try.ntmps3
      go_wp2_with (first
        | (go_at_call 8; refine HG.mono ?_; rintro e w1 ⟨⟨B0, rfl⟩, hw⟩; obtain rfl := hw.symm; clear HG)
        | (go_at_call 10; refine HN.mono ?_; rintro e w1 ⟨g, lb, gm, rfl, hd1, hge1, hbw1⟩; clear HN)
        | (go_at_call 11; refine (HM w1).mono ?_; rintro e w2 ⟨g', cb, cap, LV, WV, rfl, hr2, hge2, hbw2⟩; clear HM)
        | (go_at_call 9; refine (wakes14_any _).mono ?_; rintro e w6 ⟨rfl, hw6⟩))
      · go_ret
        exact ⟨rfl, hw6⟩
      have hd2 := hd1.keep hbw2
      have hb2 : Bw w w2 := hbw1.trans hbw2
      have hge : Hid (∀ b, dIn g lb gm b ∨ rIn g' cb b → w.heap.size ≤ b) := fun b hb => hb.elim (hge1 b) (fun h => Nat.le_trans hbw1.size (hge2 b h))
      clear hd1 hbw1 hbw2 hge1 hge2
      go_loopw [9] (fun i wr => ∃ (q : Nat) (S : Dsk), q ≤ len1 ∧ i = .int .i64 (q : Int) ∧ DiskAt wr g lb gm S ∧ (∃ LV WV, RefAt wr g' cb cap LV WV S) ∧ S.n = 300 ∧ Bw w wr) (fun i _ => len1 - (intOf i).toNat)
      case atStart => exact ⟨0, _, Nat.zero_le _, rfl, hd2, ⟨LV, WV, hr2⟩, rfl, hb2⟩
      case round =>
        obtain ⟨q, S, hq, rfl, hdq, ⟨LVq, WVq, hrq⟩, hn, hb⟩ := hrel
        have q0 : (0 : Int) ≤ (q : Int) := Int.natCast_nonneg _
        clear hd2 hr2 hb2
        by_cases hlt : q < len1
        · have q1 : (q : Int) < (len1 : Int) := by omega
          have p4 : IntKind.i64.wrap ((q : Int) + 1) = (q : Int) + 1 := by rw [IntKind.wrap_i64]; omega
          obtain ⟨b, off, rfl, hcw⟩ := (HA.out.keep hb).cell hlt
          have Hx := HA.out.acts q hlt
          obtain ⟨x, hx⟩ : ∃ x, Hid (X1 q = x) := ⟨_, rfl⟩
          rw [hx.out] at hcw Hx
          have c0 := hcw 0 _ rfl
          have c1 := hcw 1 _ rfl
          have c2 := hcw 2 _ rfl
          have c3 := hcw 3 _ rfl
          have c4 := hcw 4 _ rfl
          have c5 := hcw 5 _ rfl
          rw [Nat.add_zero] at c0
          have HB := both_any hdq hrq hge.out hb.size x (Hx.keep hb) (fun b o e h0 => by have h2 := Hx.row.row; rw [e] at h2; exact row_lt h2 h0) (fun b o e h0 => by have h2 := Hx.ints.row; rw [e] at h2; exact ints_lt h2 h0)
          rw [hn] at HB
          have hfin : Hid (∀ W' S', DiskAt W' g lb gm S' → (∃ LV WV, RefAt W' g' cb cap LV WV S') → S'.n = 300 → Bw w W' → (∃ (q' : Nat) (S : Dsk), q' ≤ len1 ∧ Value.int .i64 ((q : Int) + 1) = .int .i64 (q' : Int) ∧ DiskAt W' g lb gm S ∧ (∃ LV WV, RefAt W' g' cb cap LV WV S) ∧ S.n = 300 ∧ Bw w W') ∧ len1 - (intOf (.int .i64 ((q : Int) + 1))).toNat < len1 - (intOf (.int .i64 (q : Int))).toNat) := fun W' S' h1 h2 h3 h4 => ⟨⟨q + 1, S', hlt, rfl, h1, h2, h3, h4⟩, by simp only [intOf]; omega⟩
          clear hcw Hx hdq hrq
          go_wp2_with (go_at_call 12; refine HB.mono ?_; rintro e w3 ⟨S3, rfl, hd3, ⟨LV3, WV3, hr3⟩, hbw3, hn3⟩; clear HB; have hb3 : Bw w w3 := Below.trans hb hbw3)
          have kd : Bw w3 w3.drew := (Bw.refl _).drew
          have hdD := hd3.keep kd
          have hrD := hr3.keep kd
          have t1 := hrD.t1
          have HDd := dead_any hdD
          have HWt := waiting_any hdD
          have HRw := rwaiting_any hrD
          have HSz := size_any hdD
          have hb4 : Bw w w3.drew := hb3.trans kd
          have hfin' := hfin.out _ _ hdD ⟨_, _, hrD⟩ hn3 hb4
          replace hfin' := (show Hid _ from hfin')
          rw [hn3] at HSz
          obtain ⟨C, hC⟩ : ∃ C : Int, Hid (((Dsk.cnt S3.is S3.n : Nat) : Int) = C) := ⟨_, rfl⟩
          rw [hC.out] at HWt HRw
          obtain ⟨dd, hdd⟩ : ∃ d, Hid (S3.dead = d) := ⟨_, rfl⟩
          rw [hdd.out] at HDd t1
          clear hd3 hr3 hdD hrD hfin
          cases dd
          · go_region_held3 (fun w' => w'.cell? ⟨g', 1, none⟩ = some (.bool false)) (exact t1) (first
                | (go_at_call 13; refine HDd.mono ?_; rintro e w4 ⟨rfl, hw⟩; obtain rfl := hw.symm)
                | (go_at_call 14; refine HWt.mono ?_; rintro e w4 ⟨rfl, hw⟩; obtain rfl := hw.symm)
                | (go_at_call 15; refine HRw.mono ?_; rintro e w4 ⟨rfl, hw⟩; obtain rfl := hw.symm)
                | (go_at_call 16; refine HSz.mono ?_; rintro e w4 ⟨rfl, hw⟩; obtain rfl := hw.symm))
            go_wp2
            exact hfin'.out
          · go_region_held3 (fun w' => w'.cell? ⟨g', 1, none⟩ = some (.bool true)) (exact t1) (first
                | (go_at_call 13; refine HDd.mono ?_; rintro e w4 ⟨rfl, hw⟩; obtain rfl := hw.symm)
                | (go_at_call 14; refine HWt.mono ?_; rintro e w4 ⟨rfl, hw⟩; obtain rfl := hw.symm)
                | (go_at_call 15; refine HRw.mono ?_; rintro e w4 ⟨rfl, hw⟩; obtain rfl := hw.symm)
                | (go_at_call 16; refine HSz.mono ?_; rintro e w4 ⟨rfl, hw⟩; obtain rfl := hw.symm))
            go_wp2
            exact hfin'.out
        · have q1 : ¬ (q : Int) < (len1 : Int) := by omega
          have hI : ∀ W, IntsAt W none 0 (fun _ => 0) := fun W => ⟨Or.inl rfl, fun _ => ⟨show (-9223372036854775808 : Int) ≤ 0 by decide, show (0 : Int) ≤ 9223372036854775807 by decide⟩⟩
          have HRs := restart_any hdq none 0 0 (fun _ => 0) (by decide) (hI _) (fun b o e h => by cases e)
          obtain ⟨S2, hS2⟩ : ∃ S2, Hid (S.again (fun _ => 0) 0 = S2) := ⟨_, rfl⟩
          have hn2 : Hid (S2.n = 300) := by rw [← hS2.out]; exact hn
          have HRr : Hid (∀ W LV WV, RefAt W g' cb cap LV WV S → Calls Try.prog 18 #[.pointer (some ⟨g', 0, none⟩), .slice none 0 0] W fun e w' => e = .returned (.tuple #[]) ∧ (∃ LV' WV', RefAt w' g' cb cap LV' WV' S2) ∧ Bx (rIn g' cb) W w') := fun W LV WV hr => by
            rw [← hS2.out]
            exact rrestart_any hr none 0 0 (fun _ => 0) (by decide) (hI _) (fun b o e h => by cases e)
          have HB : Hid (∀ W LV WV, DiskAt W g lb gm S2 → RefAt W g' cb cap LV WV S2 → Bw w W → Calls Try.prog 12 #[.pointer (some ⟨g, 0, none⟩), .pointer (some ⟨g', 0, none⟩), .agg #[.int .i64 2, .int .i64 0, .int .i64 300, .slice none 0 0, .slice none 0 0, .int .u8 0]] W fun e w' => BothEnds w.heap.size g lb gm g' cb cap S2.n W e w') := fun W LV WV h1 h2 h3 => both_any h1 h2 hge.out h3.size (allOf 300) (allOf_in W 300 (by omega)) (fun b o e h => by cases e) (fun b o e h => by cases e)
          rw [hS2.out] at HRs
          have hm : Hid (∀ W, Bx (dIn g lb gm) wr W → RefAt W g' cb cap LVq WVq S ∧ Bw w W) := fun W k => ⟨hrq.keepd hdq k, Below.trans hb (k.below hb.size (fun b h => hge.out b (.inl h)))⟩
          have hm2 : Hid (∀ W W' LV WV, DiskAt W g lb gm S2 → RefAt W g' cb cap LV WV S → Bw w W → Bx (rIn g' cb) W W' → DiskAt W' g lb gm S2 ∧ Bw w W') := fun W W' LV WV h1 h2 h3 k => ⟨h1.keepr h2 k, Below.trans h3 (k.below h3.size (fun b h => hge.out b (.inr h)))⟩
          clear hI hn
          go_wp2_with (first
            | (go_at_call 17; refine HRs.mono ?_; rintro e w3 ⟨rfl, hd3, hx3⟩; clear HRs; obtain ⟨hr3, hb3⟩ := hm.out _ hx3)
            | (go_at_call 18; refine (HRr.out _ _ _ hr3).mono ?_; rintro e w4 ⟨rfl, ⟨LV4, WV4, hr4⟩, hx4⟩; obtain ⟨hd4, hb4⟩ := hm2.out _ _ _ _ hd3 hr3 hb3 hx4)
            | (go_at_call 12; refine (HB.out _ _ _ hd4 hr4 hb4).mono ?_; rintro e w5 ⟨S5, rfl, hd5, hr5, hbw5, hn5⟩; have hb5 : Bw w w5 := Below.trans hb4 hbw5)
            | (go_at_call 9; refine (wakes14_any _).mono ?_; rintro e w6 ⟨rfl, hw6⟩))
          go_ret
          exact ⟨rfl, hb5.trans hw6⟩
    · obtain ⟨n, rfl⟩ : ∃ n : Nat, a0 = (n : Int) := ⟨a0.toNat, by omega⟩
      have n1 : 1 ≤ n := by omega
      have n2 : n ≤ 300 := by omega
      have HN := new_ok n (by omega) (by omega) w
      have HM := rnew_ok n (by omega) (by omega)
      clear hin
      go_enter Try.func3, Try.ntmps3
      go_wp2_with (first
        | (go_at_call 8; refine HG.mono ?_; rintro e w1 ⟨⟨B0, rfl⟩, hw⟩; obtain rfl := hw.symm; clear HG)
        | (go_at_call 10; refine HN.mono ?_; rintro e w1 ⟨g, lb, gm, rfl, hd1, hge1, hbw1⟩; clear HN)
        | (go_at_call 11; refine (HM w1).mono ?_; rintro e w2 ⟨g', cb, cap, LV, WV, rfl, hr2, hge2, hbw2⟩; clear HM)
        | (go_at_call 9; refine (wakes14_any _).mono ?_; rintro e w6 ⟨rfl, hw6⟩))
      · go_ret
        exact ⟨rfl, hw6⟩
      have hd2 := hd1.keep hbw2
      have hb2 : Bw w w2 := hbw1.trans hbw2
      have hge : Hid (∀ b, dIn g lb gm b ∨ rIn g' cb b → w.heap.size ≤ b) := fun b hb => hb.elim (hge1 b) (fun h => Nat.le_trans hbw1.size (hge2 b h))
      clear hd1 hbw1 hbw2 hge1 hge2
      go_loopw [9] (fun i wr => ∃ (q : Nat) (S : Dsk), q ≤ len1 ∧ i = .int .i64 (q : Int) ∧ DiskAt wr g lb gm S ∧ (∃ LV WV, RefAt wr g' cb cap LV WV S) ∧ S.n = n ∧ Bw w wr) (fun i _ => len1 - (intOf i).toNat)
      case atStart => exact ⟨0, _, Nat.zero_le _, rfl, hd2, ⟨LV, WV, hr2⟩, rfl, hb2⟩
      case round =>
        obtain ⟨q, S, hq, rfl, hdq, ⟨LVq, WVq, hrq⟩, hn, hb⟩ := hrel
        have q0 : (0 : Int) ≤ (q : Int) := Int.natCast_nonneg _
        clear hd2 hr2 hb2
        by_cases hlt : q < len1
        · have q1 : (q : Int) < (len1 : Int) := by omega
          have p4 : IntKind.i64.wrap ((q : Int) + 1) = (q : Int) + 1 := by rw [IntKind.wrap_i64]; omega
          obtain ⟨b, off, rfl, hcw⟩ := (HA.out.keep hb).cell hlt
          have Hx := HA.out.acts q hlt
          obtain ⟨x, hx⟩ : ∃ x, Hid (X1 q = x) := ⟨_, rfl⟩
          rw [hx.out] at hcw Hx
          have c0 := hcw 0 _ rfl
          have c1 := hcw 1 _ rfl
          have c2 := hcw 2 _ rfl
          have c3 := hcw 3 _ rfl
          have c4 := hcw 4 _ rfl
          have c5 := hcw 5 _ rfl
          rw [Nat.add_zero] at c0
          have HB := both_any hdq hrq hge.out hb.size x (Hx.keep hb) (fun b o e h0 => by have h2 := Hx.row.row; rw [e] at h2; exact row_lt h2 h0) (fun b o e h0 => by have h2 := Hx.ints.row; rw [e] at h2; exact ints_lt h2 h0)
          rw [hn] at HB
          have hfin : Hid (∀ W' S', DiskAt W' g lb gm S' → (∃ LV WV, RefAt W' g' cb cap LV WV S') → S'.n = n → Bw w W' → (∃ (q' : Nat) (S : Dsk), q' ≤ len1 ∧ Value.int .i64 ((q : Int) + 1) = .int .i64 (q' : Int) ∧ DiskAt W' g lb gm S ∧ (∃ LV WV, RefAt W' g' cb cap LV WV S) ∧ S.n = n ∧ Bw w W') ∧ len1 - (intOf (.int .i64 ((q : Int) + 1))).toNat < len1 - (intOf (.int .i64 (q : Int))).toNat) := fun W' S' h1 h2 h3 h4 => ⟨⟨q + 1, S', hlt, rfl, h1, h2, h3, h4⟩, by simp only [intOf]; omega⟩
          clear hcw Hx hdq hrq
          go_wp2_with (go_at_call 12; refine HB.mono ?_; rintro e w3 ⟨S3, rfl, hd3, ⟨LV3, WV3, hr3⟩, hbw3, hn3⟩; clear HB; have hb3 : Bw w w3 := Below.trans hb hbw3)
          have kd : Bw w3 w3.drew := (Bw.refl _).drew
          have hdD := hd3.keep kd
          have hrD := hr3.keep kd
          have t1 := hrD.t1
          have HDd := dead_any hdD
          have HWt := waiting_any hdD
          have HRw := rwaiting_any hrD
          have HSz := size_any hdD
          have hb4 : Bw w w3.drew := hb3.trans kd
          have hfin' := hfin.out _ _ hdD ⟨_, _, hrD⟩ hn3 hb4
          replace hfin' := (show Hid _ from hfin')
          rw [hn3] at HSz
          obtain ⟨C, hC⟩ : ∃ C : Int, Hid (((Dsk.cnt S3.is S3.n : Nat) : Int) = C) := ⟨_, rfl⟩
          rw [hC.out] at HWt HRw
          obtain ⟨dd, hdd⟩ : ∃ d, Hid (S3.dead = d) := ⟨_, rfl⟩
          rw [hdd.out] at HDd t1
          clear hd3 hr3 hdD hrD hfin
          cases dd
          · go_region_held3 (fun w' => w'.cell? ⟨g', 1, none⟩ = some (.bool false)) (exact t1) (first
                | (go_at_call 13; refine HDd.mono ?_; rintro e w4 ⟨rfl, hw⟩; obtain rfl := hw.symm)
                | (go_at_call 14; refine HWt.mono ?_; rintro e w4 ⟨rfl, hw⟩; obtain rfl := hw.symm)
                | (go_at_call 15; refine HRw.mono ?_; rintro e w4 ⟨rfl, hw⟩; obtain rfl := hw.symm)
                | (go_at_call 16; refine HSz.mono ?_; rintro e w4 ⟨rfl, hw⟩; obtain rfl := hw.symm))
            go_wp2
            exact hfin'.out
          · go_region_held3 (fun w' => w'.cell? ⟨g', 1, none⟩ = some (.bool true)) (exact t1) (first
                | (go_at_call 13; refine HDd.mono ?_; rintro e w4 ⟨rfl, hw⟩; obtain rfl := hw.symm)
                | (go_at_call 14; refine HWt.mono ?_; rintro e w4 ⟨rfl, hw⟩; obtain rfl := hw.symm)
                | (go_at_call 15; refine HRw.mono ?_; rintro e w4 ⟨rfl, hw⟩; obtain rfl := hw.symm)
                | (go_at_call 16; refine HSz.mono ?_; rintro e w4 ⟨rfl, hw⟩; obtain rfl := hw.symm))
            go_wp2
            exact hfin'.out
        · have q1 : ¬ (q : Int) < (len1 : Int) := by omega
          have hI : ∀ W, IntsAt W none 0 (fun _ => 0) := fun W => ⟨Or.inl rfl, fun _ => ⟨show (-9223372036854775808 : Int) ≤ 0 by decide, show (0 : Int) ≤ 9223372036854775807 by decide⟩⟩
          have HRs := restart_any hdq none 0 0 (fun _ => 0) (by decide) (hI _) (fun b o e h => by cases e)
          obtain ⟨S2, hS2⟩ : ∃ S2, Hid (S.again (fun _ => 0) 0 = S2) := ⟨_, rfl⟩
          have hn2 : Hid (S2.n = n) := by rw [← hS2.out]; exact hn
          have HRr : Hid (∀ W LV WV, RefAt W g' cb cap LV WV S → Calls Try.prog 18 #[.pointer (some ⟨g', 0, none⟩), .slice none 0 0] W fun e w' => e = .returned (.tuple #[]) ∧ (∃ LV' WV', RefAt w' g' cb cap LV' WV' S2) ∧ Bx (rIn g' cb) W w') := fun W LV WV hr => by
            rw [← hS2.out]
            exact rrestart_any hr none 0 0 (fun _ => 0) (by decide) (hI _) (fun b o e h => by cases e)
          have HB : Hid (∀ W LV WV, DiskAt W g lb gm S2 → RefAt W g' cb cap LV WV S2 → Bw w W → Calls Try.prog 12 #[.pointer (some ⟨g, 0, none⟩), .pointer (some ⟨g', 0, none⟩), .agg #[.int .i64 2, .int .i64 0, .int .i64 n, .slice none 0 0, .slice none 0 0, .int .u8 0]] W fun e w' => BothEnds w.heap.size g lb gm g' cb cap S2.n W e w') := fun W LV WV h1 h2 h3 => both_any h1 h2 hge.out h3.size (allOf n) (allOf_in W n (by omega)) (fun b o e h => by cases e) (fun b o e h => by cases e)
          rw [hS2.out] at HRs
          have hm : Hid (∀ W, Bx (dIn g lb gm) wr W → RefAt W g' cb cap LVq WVq S ∧ Bw w W) := fun W k => ⟨hrq.keepd hdq k, Below.trans hb (k.below hb.size (fun b h => hge.out b (.inl h)))⟩
          have hm2 : Hid (∀ W W' LV WV, DiskAt W g lb gm S2 → RefAt W g' cb cap LV WV S → Bw w W → Bx (rIn g' cb) W W' → DiskAt W' g lb gm S2 ∧ Bw w W') := fun W W' LV WV h1 h2 h3 k => ⟨h1.keepr h2 k, Below.trans h3 (k.below h3.size (fun b h => hge.out b (.inr h)))⟩
          clear hI hn
          go_wp2_with (first
            | (go_at_call 17; refine HRs.mono ?_; rintro e w3 ⟨rfl, hd3, hx3⟩; clear HRs; obtain ⟨hr3, hb3⟩ := hm.out _ hx3)
            | (go_at_call 18; refine (HRr.out _ _ _ hr3).mono ?_; rintro e w4 ⟨rfl, ⟨LV4, WV4, hr4⟩, hx4⟩; obtain ⟨hd4, hb4⟩ := hm2.out _ _ _ _ hd3 hr3 hb3 hx4)
            | (go_at_call 12; refine (HB.out _ _ _ hd4 hr4 hb4).mono ?_; rintro e w5 ⟨S5, rfl, hd5, hr5, hbw5, hn5⟩; have hb5 : Bw w w5 := Below.trans hb4 hbw5)
            | (go_at_call 9; refine (wakes14_any _).mono ?_; rintro e w6 ⟨rfl, hw6⟩))
          go_ret
          exact ⟨rfl, hb5.trans hw6⟩

set_option maxRecDepth 100000 in
theorem lifted (os : Os) (started : os.Started) (H : Type) (enc : TypeId × Value → H) :
    ReturnsInHanded {} Try.checked os 3 .any (Rows.diskPlaysSpec.pre6 enc Try.prog Try.f3 Rows.diskPlaysRow.domain false) (Rows.diskPlaysSpec.post enc Try.prog Try.f3 false true false false) := by
  refine returnsInHanded_of_change_sized (C := Try.checked) own started (by kernel_rfl) Try.func3
    (ChangeSpec.witness6 (enc := enc) (C := Try.checked) false ⟨#[], #[.int .i64 0, .slice none 0 0], []⟩ 8 (by kernel_rfl) (by kernel_rfl) (by kernel_rfl) (by kernel_rfl)) ?_
  intro W base args ds gs before hval0 hW hcnd hsz0 _
  have hval : ∀ (j : Nat) t v, Try.f3.params[j]? = some t → args[j]? = some v → Value.okWide Try.prog W .any base t v := hval0
  have hW' := hW
  obtain ⟨p, q, hA0, hV, rfl, hfz, hnd⟩ := hW
  have hA : DataW.TrodAll enc Try.prog W 0 (fun _ => true) true Try.f3.params.toList args.toList ds p := hA0
  have hsz : (DataW.weightsEach Try.prog (Try.f3.params.toList ++ Rows.diskPlaysSpec.plain.varTypes Try.prog) (ds ++ gs)).all (· ≤ reachBytes) = true := hsz0
  rw [Try.params3] at hA hval hsz
  obtain ⟨v0, vs0, d0, ds0, p0, q0, hargs, rfl, rfl, h0, r0⟩ := trodAll_cons hA
  obtain ⟨v1, vs1, d1, ds1, p1, q1, rfl, rfl, rfl, h1, r1⟩ := trodAll_cons r0
  obtain ⟨rfl, rfl, rfl⟩ := trodAll_nil r1
  obtain rfl : args = #[v0, v1] := by cases args; simp_all
  obtain ⟨rfl, rfl⟩ := trodVars_none hV
  obtain ⟨a0, rfl, rfl, rfl, w0⟩ := open_int Try.underlying3 (hval 0 3 v0 rfl rfl) h0
  obtain ⟨a1, len1, cap1, rfl⟩ := okWide_slice Try.underlying22 (hval 1 22 v1 rfl rfl)
  have k1 := h1
  have lt1 : ∀ x ∈ p1, x.block < W.heap.size := by obtain ⟨m, hm⟩ := k1; exact DataW.trod_lt m _ _ _ hm
  obtain ⟨X1, w1⟩ := open_acts h1 (fun x hx => by simpa using List.all_eq_true.1 hsz x (DataW.weights_mem_each (j := 1) (t := 22) rfl rfl x hx))
  clear hA0 hval0
  refine (walk a0 a1 len1 cap1 X1 W w0 w1).mono fun e W' ⟨he, bel⟩ => ?_
  subst he
  exact ⟨_, rfl, _, _, _, [], _, [], hW', trodAll_mk1 (shut_bool Try.underlying4 _), (trodAll_cons_mk (shut_int Try.underlying3 w0) (trodAll_cons_mk (Below.trod laidOut (by kernel_rfl) (of_decide_eq_true (by kernel_rfl)) k1 bel lt1) trodAll_mk0)), rfl, bel.frame _, fun h => by cases h⟩

theorem over : Rows.diskPlaysRow.holds Try.pinned (OpenSpec.ofChange Rows.diskPlaysSpec) :=
  OpenClaim.holds_of_wide 3 Try.f3 rfl rfl rfl rfl rfl rfl rfl ⟨rfl, rfl, rfl, rfl, rfl⟩ rfl rfl rfl rfl rfl (by kernel_rfl) Try.func3 (by kernel_rfl)
    (of_decide_eq_true (by kernel_rfl)) (by unfold Func.isWrapper; first | (rw [if_pos (by decide +kernel)]; kernel_rfl) | (rw [if_neg (by decide +kernel)]; exact ⟨rfl, rfl⟩))
    (fun os started H enc _ => lifted os started H enc)

theorem proved : Rows.DiskPlaysSaid := over
#print axioms proved
end Go.Proofs.Ytmmpignjihbbpaa.diskPlays
