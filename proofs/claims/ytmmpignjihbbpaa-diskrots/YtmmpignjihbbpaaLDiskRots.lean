/- Proved: for every row of bytes, every place, every change, synced or not, the statement DiskRots answers true (the document's P14.7: a byte that rots is changed, and no other one; what rots twice by the same is as it was), with no condition but the reach. -/
import Derived.Test.YtmmpignjihbbpaaFa
import Derived.Test.YtmmpignjihbbpaaFa
import Derived.ShutString
import Derived.ChangeOld
namespace Go.Proofs.Ytmmpignjihbbpaa.diskRots
open Go.ChangeShapes Go.WideShapes Go.ChangeAt Go.RowKit
set_option linter.unusedVariables false

set_option linter.unusedSimpArgs false
open Go.Deep
/-- a disk of five sectors that reads so -/
structure Rd (S : Dsk) (F : Nat → Int) : Prop where
  n : S.n = 5
  dead : S.dead = false
  fuse : S.fuse = -1
  read : ∀ p, p < 320 → S.read p = F p
theorem rd_put {F : Nat → Int} : Rd ((Dsk.new 5).burnt.put 0 5 F) F := ⟨rfl, rfl, show max ((-1 : Int) - 1) (-1) = -1 by decide, fun p hp => by
  unfold Dsk.read
  have h1 : ((Dsk.new 5).burnt.put 0 5 F).is (p / 64) = true := if_pos ⟨Nat.zero_le _, by omega⟩
  rw [if_pos h1]
  have h2 : ((Dsk.new 5).burnt.put 0 5 F).wait p = F (p - 64 * 0) := if_pos ⟨by omega, by omega⟩
  rw [h2]; rfl⟩
theorem rd_sync {S : Dsk} {F : Nat → Int} (h : Rd S F) : Rd S.burnt.synced F := ⟨h.n, h.dead, by show max (S.fuse - 1) (-1) = -1; rw [h.fuse]; decide, fun p hp => by
  rw [← h.read p hp]
  rfl⟩
theorem rd_rot {S : Dsk} {F : Nat → Int} (h : Rd S F) (s c : Nat) (y : Int) : Rd (S.rot s c y) (rotF F (64 * s + c) y) := ⟨h.n, h.dead, h.fuse, fun p hp => by
  have h1 := h.read p hp
  unfold rotF
  rw [← h1]
  unfold Dsk.read
  show (if S.is (p / 64) = true then rotF S.wait (64 * s + c) y p else rotF S.last (64 * s + c) y p) = _
  unfold rotF
  by_cases e : p = 64 * s + c
  · simp only [if_pos e]; split <;> rfl
  · simp only [if_neg e]⟩
theorem rd_read {w : World} {g lb gm : Nat} {S : Dsk} {G : Nat → Int} (h : DiskAt w g lb gm S) (hr : Rd S G) :
    Calls Try.prog 21 #[.pointer (some ⟨g, 0, none⟩), .int .i64 0, .int .i64 5] w fun e w' => ∃ b, e = .returned (.tuple #[.slice (some ⟨b, 0, none⟩) 320 320, .int .i64 0]) ∧ w.heap.size ≤ b ∧ BlockIs w' b 320 G ∧ Bw w w' := by
  refine (read_ok h 0 5 hr.dead (by rw [hr.n]; omega)).mono ?_
  rintro e w' ⟨b, he, hb, hB, hw⟩
  refine ⟨b, he, hb, BlockIs.congr hB (fun c hc => ?_), hw⟩
  rw [← hr.read c hc]
  show S.read c = S.read (64 * 0 + c)
  rw [Nat.mul_zero, Nat.zero_add]
theorem x8_twice {a y : Int} (ha : 0 ≤ a ∧ a < 256) (hy : 0 ≤ y ∧ y < 256) : x8 (x8 a y) y = a := by
  unfold x8
  rw [Int.toNat_natCast, Nat.xor_assoc, Nat.xor_self, Nat.xor_zero]
  omega
theorem str_congr14 {f g : Nat → Int} {L : Nat} (h : ∀ i, i < L → f i = g i) : str f L = str g L := by
  unfold str
  rw [List.map_congr_left (fun i hi => h i (List.mem_range.1 hi))]
/-- the bytes, noughts behind them -/
def fillF (f : Nat → Int) (n i : Nat) : Int := if i < n then f i else 0
theorem fillF_bd {f : Nat → Int} (hf : ∀ i, 0 ≤ f i ∧ f i < 256) (n i : Nat) : 0 ≤ fillF f n i ∧ fillF f n i < 256 := by
  unfold fillF; split
  · exact hf i
  · decide
theorem rot_twice {F : Nat → Int} {j : Nat} {y : Int} (hF : ∀ i, 0 ≤ F i ∧ F i < 256) (hy : 0 ≤ y ∧ y < 256) (i : Nat) : rotF (rotF F j y) j y i = F i := by
  unfold rotF
  by_cases e : i = j
  · simp only [if_pos e]; exact x8_twice (hF i) hy
  · simp only [if_neg e]
set_option maxRecDepth 100000 in
set_option maxHeartbeats 8000000 in
theorem walk (a0 : Option Addr) (len0 cap0 : Nat) (f0 : Nat → Int) (a1 : Int) (a2 : Int) (a3 : Int) (a4 : Bool) (w : World) (w0 : InRow w a0 len0 cap0 f0) (w1 : (Lit.int .i64 a1).wf = true) (w2 : (Lit.int .i64 a2).wf = true) (w3 : (Lit.int .u8 a3).wf = true) :
    Calls Try.prog 7 #[.slice a0 len0 cap0, .int .i64 a1, .int .i64 a2, .int .u8 a3, .bool a4] w fun e w' => e = .returned (.bool true) ∧ Below w.heap.size w w' := by
  obtain ⟨hrow, hle, hroom, hnil⟩ := w0
  have hb1 := bounds_i64 w1
  have hb2 := bounds_i64 w2
  have hb3 := bounds_u8 w3
  have hy : 0 ≤ a3 ∧ a3 < 256 := by omega
  obtain ⟨M, hM, hM0, hmk⟩ := made_bytes 320 (by omega)
  replace hmk : ∀ w, (Instr.makeSlice 33 (.int .i64 320) (.int .i64 320)).run Try.prog w = .ok (.slice (some ⟨w.heap.size, 0, none⟩) 320 320) (w.alloc (.cells M 5)) := hmk
  have HM : Hid (∀ i, i < 320 → M[i]? = some (.int .u8 0)) := hM0
  have HR : Hid (RowAt w a0 len0 f0) := hrow
  have HN := new_ok 5 (by omega) (by omega) w
  have HF : Hid (∀ i, 0 ≤ fillF f0 len0 i ∧ fillF f0 len0 i < 256) := fillF_bd hrow.2 len0
  clear hrow hM0 w1 w2 w3 hb3
  go_enter Try.func7, Try.ntmps7
  go_wp2_with (go_at_call 10; refine HN.mono ?_; rintro e w1 ⟨g, lb, gm, rfl, hd1, hge, hbw1⟩; clear HN)
  obtain ⟨z, hz⟩ : ∃ z, Hid (w1.heap.size = z) := ⟨_, rfl⟩
  obtain ⟨W0, hW0⟩ : ∃ W, Hid (w1.alloc (.cells M 5) = W) := ⟨_, rfl⟩
  have hB0 : BlockIs W0 z 320 (fun _ => 0) := by rw [← hW0.out, ← hz.out]; exact ⟨M, (Go.MapKept.heap_alloc _ _).1, hM, HM.out⟩
  have hwz : Bw w1 W0 := by rw [← hW0.out]; exact Below.alloc (Bw.refl _) (Nat.le_refl _) _
  have hzd : ¬ dIn g lb gm z := fun h => by have := hd1.low _ h; have := hz.out; omega
  have hzw : w.heap.size ≤ z := by rw [← hz.out]; exact hbw1.size
  have hdW := hd1.keep hwz
  have hbW := hbw1.trans hwz
  rw [hW0.out, hz.out]
  clear hd1 hmk hM
  go_loopw [14] (fun i wr => ∃ q : Nat, q ≤ len0 ∧ q ≤ 320 ∧ i = .int .i64 (q : Int) ∧ BlockIs wr z 320 (fun i => if i < q then fillF f0 len0 i else 0) ∧ DiskAt wr g lb gm (Dsk.new 5) ∧ Bw w wr) (fun i _ => 320 - (intOf i).toNat)
  case atStart => exact ⟨0, Nat.zero_le _, by omega, rfl, hB0.congr (fun c _ => by rw [if_neg (by omega)]), hdW, hbW⟩
  case round =>
    obtain ⟨q, hq, hq2, rfl, hB, hdq, hb⟩ := hrel
    have q0 : (0 : Int) ≤ (q : Int) := Int.natCast_nonneg _
    clear hB0 hdW hbW
    by_cases hlt : q < len0 ∧ q < 320
    · have q1 : (q : Int) < (len0 : Int) := by omega
      have q2 : (q : Int) < 320 := by omega
      obtain ⟨b, off, rfl, hcw⟩ := (HR.out.keep hb).at hlt.1
      have hcell := hcw q hlt.1
      have hc := hB.cell (c := q) hlt.2
      have hc1 := hc.1
      have hc2 := hc.2
      have hB' := hB.set (f' := fun i => if i < q + 1 then fillF f0 len0 i else 0) (j := q) (x := f0 q) hlt.2 (by rw [if_pos (Nat.lt_succ_self _)]; unfold fillF; rw [if_pos hlt.1]) (fun c _ hne => by
        by_cases e : c < q
        · rw [if_pos e, if_pos (by omega)]
        · rw [if_neg e, if_neg (by omega)])
      have hx1 : Bx (· = z) wr (wr.setCell ⟨z, q, none⟩ (.int .u8 (f0 q))) := (Bx.refl _ wr).put rfl
      have hd' := hdq.keepx hx1 (fun e => hzd (.inl e.symm)) (fun e => hzd (.inr (.inl e.symm))) (fun e => hzd (.inr (.inr e.symm)))
      have hb' : Bw w (wr.setCell ⟨z, q, none⟩ (.int .u8 (f0 q))) := bw_bx hb hx1 hzw
      have hfin : Hid (∀ W', W' = wr.setCell ⟨z, q, none⟩ (.int .u8 (f0 q)) → (∃ q' : Nat, q' ≤ len0 ∧ q' ≤ 320 ∧ Value.int .i64 ((q : Int) + 1) = .int .i64 (q' : Int) ∧ BlockIs W' z 320 (fun i => if i < q' then fillF f0 len0 i else 0) ∧ DiskAt W' g lb gm (Dsk.new 5) ∧ Bw w W') ∧ 320 - (intOf (.int .i64 ((q : Int) + 1))).toNat < 320 - (intOf (.int .i64 (q : Int))).toNat) := fun W' e => ⟨⟨q + 1, hlt.1, hlt.2, rfl, e ▸ hB', e ▸ hd', e ▸ hb'⟩, by simp only [intOf]; omega⟩
      clear hB' hx1 hd' hb' hc hB hdq hcw
      go_wp2
      exact hfin.out _ rfl
    · have hB1 : BlockIs wr z 320 (fillF f0 len0) := hB.congr (fun c hc => by
        by_cases e : c < q
        · rw [if_pos e]
        · rw [if_neg e]; unfold fillF; rw [if_neg (by omega)])
      obtain ⟨F, hF⟩ : ∃ F, Hid (fillF f0 len0 = F) := ⟨_, rfl⟩
      rw [hF.out] at hB1 HF
      have hLow := hdq.low
      have HWr := write_ok hdq 0 320 (some ⟨z, 0, none⟩) 320 F 5 rfl (by decide) rfl (by decide) (hB1.row HF.out) (fun b o e _ hin => by cases e; exact hzd hin) (Nat.le_refl _)
      have HRows : Hid (∀ W', Bx (dIn g lb gm) wr W' → BlockIs W' z 320 F) := fun W' k => BlkT.keepx (t := 5) hB1 k hzd
      have Hin : Hid (0 ≤ a1 ∧ a1 < 5 ∧ 0 ≤ a2 ∧ a2 < 64 ↔ 0 ≤ a1 ∧ a1 < 5 ∧ 0 ≤ a2 ∧ a2 < 64) := Iff.rfl
      clear hB hB1
      by_cases hins : 0 ≤ a1 ∧ a1 < 5 ∧ 0 ≤ a2 ∧ a2 < 64
      · obtain ⟨s, rfl⟩ : ∃ s : Nat, a1 = (s : Int) := ⟨a1.toNat, by omega⟩
        obtain ⟨c, rfl⟩ : ∃ c : Nat, a2 = (c : Int) := ⟨a2.toNat, by omega⟩
        have i1 := hins.1
        have i2 := hins.2.1
        have i3 := hins.2.2.1
        have i4 := hins.2.2.2
        have hc : c < 64 := by omega
        clear hins
        cases a4
        · by_cases hl : q < len0
          · have q1 : (q : Int) < (len0 : Int) := by omega
            have q2 : ¬ (q : Int) < 320 := by omega
            go_upto_region 13 with (first
              | (go_at_call 22; refine HWr.mono ?_; rintro e w2 ⟨rfl, hd2, hz2⟩; obtain ⟨S2, hS2⟩ : ∃ S, Hid ((Dsk.new 5).burnt.put 0 5 F = S) := ⟨_, rfl⟩; have hr2 := rd_put (F := F); rw [hS2.out] at hd2 hr2; have hb2 : Bw w w2 := Below.trans hb (hz2.below hb.size hge); clear HWr; have tokr : Hid (g = g) := rfl)
              | (clear tokr; go_at_call 24; refine (rot_ok hd2 s c a3 hy (by rw [hr2.n]; omega) hc).mono ?_; rintro e w5 ⟨rfl, hd5, hx5⟩; have hr5 := rd_rot hr2 s c a3; have hb5 : Bw w w5 := Below.trans hb2 (hx5.below hb2.size hge); have hz5 := hz2.trans hx5; clear hx5 hd2 hb2 hz2)
              | (go_at_call 21; refine (rd_read hd5 hr5).mono ?_; rintro e w6 ⟨b6, rfl, hb6, hB6, hbw6⟩; have hd6 := hd5.keep hbw6; have hb6' := hb5.trans hbw6; have hz6 := hz5.trans (.of_bw hbw6); have hBz := HRows.out _ hz6; clear hd5 hb5 hz5))
            clear hbw6
            go_cut [18] from 71 to 84 (fun v wx => v = .bool true ∧ wx = w6)
            case first =>
              go_wp2
              go_meet
              case rel => exact ⟨rfl, rfl⟩
            case rest =>
            obtain ⟨rfl, hwc⟩ := hcut
            obtain rfl := hwc.symm
            go_wp2
            go_loopw [19] (fun i wx => ∃ k : Nat, k ≤ 320 ∧ i = .int .i64 (k : Int) ∧ wx = w6) (fun i _ => 320 - (intOf i).toNat)
            case atStart => exact ⟨0, Nat.zero_le _, rfl, rfl⟩
            case round =>
              obtain ⟨k, hk, rfl, hwx⟩ := hrel
              obtain rfl := hwx.symm
              have k0 : (0 : Int) ≤ (k : Int) := Int.natCast_nonneg _
              by_cases hk3 : k < 320
              · have k1 : (k : Int) < 320 := by omega
                have cz := (hBz.cell hk3).1
                have cx := (hB6.cell hk3).1
                have hfin : Hid ((∃ k' : Nat, k' ≤ 320 ∧ Value.int .i64 ((k : Int) + 1) = .int .i64 (k' : Int) ∧ True) ∧ 320 - (intOf (.int .i64 ((k : Int) + 1))).toNat < 320 - (intOf (.int .i64 (k : Int))).toNat) := ⟨⟨k + 1, hk3, rfl, trivial⟩, by simp only [intOf]; omega⟩
                by_cases hj : k = 64 * s + c
                · have e1 : Hid (((k : Int) == (s : Int) * 64 + (c : Int)) = true) := by show _ = _; rw [beq_iff_eq]; omega
                  have r1 : bits .xor .u8 (F k) a3 = x8 (F k) a3 := x8_bits (HF.out k) hy
                  have e2 : rotF F (64 * s + c) a3 k = x8 (F k) a3 := if_pos hj
                  rw [e2] at cx
                  have hj' : Hid (k = 64 * s + c ∨ True) := .inr trivial
                  clear hj' hj
                  go_upto_region 20 with fail
                  go_cut [126] from 118 to 126 (fun v wx => v = .bool true ∧ wx = w6)
                  case first =>
                    have e1' := e1.out
                    go_wp2
                    go_meet
                    case rel => exact ⟨rfl, rfl⟩
                  case rest =>
                  obtain ⟨rfl, hwc⟩ := hcut
                  obtain rfl := hwc.symm
                  go_wp2
                  first | exact hfin.out | simpa using hfin.out
                · have e1 : Hid (((k : Int) == (s : Int) * 64 + (c : Int)) = false) := by show _ = _; rw [beq_eq_false_iff_ne]; omega
                  have e2 : rotF F (64 * s + c) a3 k = F k := if_neg hj
                  rw [e2] at cx
                  have hj' : Hid (k = 64 * s + c ∨ True) := .inr trivial
                  clear hj' hj
                  go_upto_region 20 with fail
                  go_cut [126] from 118 to 126 (fun v wx => v = .bool false ∧ wx = w6)
                  case first =>
                    have e1' := e1.out
                    go_wp2
                    go_meet
                    case rel => exact ⟨rfl, rfl⟩
                  case rest =>
                  obtain ⟨rfl, hwc⟩ := hcut
                  obtain rfl := hwc.symm
                  go_wp2
                  first | exact hfin.out | simpa using hfin.out
              · obtain rfl : k = 320 := by omega
                go_wp2_with (first
                  | (go_at_call 24; refine (rot_ok hd6 s c a3 hy (by rw [hr5.n]; omega) hc).mono ?_; rintro e w7 ⟨rfl, hd7, hx7⟩; have hr7 := rd_rot hr5 s c a3; have hb7 : Bw w w7 := Below.trans hb6' (hx7.below hb6'.size hge); have hz7 := hz6.trans hx7; clear hx7 hd6)
                  | (go_at_call 21; refine (rd_read hd7 hr7).mono ?_; rintro e w8 ⟨b8, rfl, hb8, hB8, hbw8⟩; have hb8' := hb7.trans hbw8; have cz := conv_row (C := 320) ((HRows.out _ (hz7.trans (.of_bw hbw8))).row HF.out); have cy := conv_row (C := 320) (BlockIs.row hB8 (fun i => rotF_bd (fun i => rotF_bd HF.out hy i) hy i)); rw [str_congr14 (g := F) (fun i _ => rot_twice HF.out hy i)] at cy; clear hd7 hb7 hz7)
                  | (go_at_call 9; refine (wakes14_any _).mono ?_; rintro e w9 ⟨rfl, hw9⟩))
                go_ret
                exact ⟨rfl, hb8'.trans hw9⟩
          · have q1 : ¬ (q : Int) < (len0 : Int) := by omega
            go_upto_region 13 with (first
              | (go_at_call 22; refine HWr.mono ?_; rintro e w2 ⟨rfl, hd2, hz2⟩; obtain ⟨S2, hS2⟩ : ∃ S, Hid ((Dsk.new 5).burnt.put 0 5 F = S) := ⟨_, rfl⟩; have hr2 := rd_put (F := F); rw [hS2.out] at hd2 hr2; have hb2 : Bw w w2 := Below.trans hb (hz2.below hb.size hge); clear HWr; have tokr : Hid (g = g) := rfl)
              | (clear tokr; go_at_call 24; refine (rot_ok hd2 s c a3 hy (by rw [hr2.n]; omega) hc).mono ?_; rintro e w5 ⟨rfl, hd5, hx5⟩; have hr5 := rd_rot hr2 s c a3; have hb5 : Bw w w5 := Below.trans hb2 (hx5.below hb2.size hge); have hz5 := hz2.trans hx5; clear hx5 hd2 hb2 hz2)
              | (go_at_call 21; refine (rd_read hd5 hr5).mono ?_; rintro e w6 ⟨b6, rfl, hb6, hB6, hbw6⟩; have hd6 := hd5.keep hbw6; have hb6' := hb5.trans hbw6; have hz6 := hz5.trans (.of_bw hbw6); have hBz := HRows.out _ hz6; clear hd5 hb5 hz5))
            clear hbw6
            go_cut [18] from 71 to 84 (fun v wx => v = .bool true ∧ wx = w6)
            case first =>
              go_wp2
              go_meet
              case rel => exact ⟨rfl, rfl⟩
            case rest =>
            obtain ⟨rfl, hwc⟩ := hcut
            obtain rfl := hwc.symm
            go_wp2
            go_loopw [19] (fun i wx => ∃ k : Nat, k ≤ 320 ∧ i = .int .i64 (k : Int) ∧ wx = w6) (fun i _ => 320 - (intOf i).toNat)
            case atStart => exact ⟨0, Nat.zero_le _, rfl, rfl⟩
            case round =>
              obtain ⟨k, hk, rfl, hwx⟩ := hrel
              obtain rfl := hwx.symm
              have k0 : (0 : Int) ≤ (k : Int) := Int.natCast_nonneg _
              by_cases hk3 : k < 320
              · have k1 : (k : Int) < 320 := by omega
                have cz := (hBz.cell hk3).1
                have cx := (hB6.cell hk3).1
                have hfin : Hid ((∃ k' : Nat, k' ≤ 320 ∧ Value.int .i64 ((k : Int) + 1) = .int .i64 (k' : Int) ∧ True) ∧ 320 - (intOf (.int .i64 ((k : Int) + 1))).toNat < 320 - (intOf (.int .i64 (k : Int))).toNat) := ⟨⟨k + 1, hk3, rfl, trivial⟩, by simp only [intOf]; omega⟩
                by_cases hj : k = 64 * s + c
                · have e1 : Hid (((k : Int) == (s : Int) * 64 + (c : Int)) = true) := by show _ = _; rw [beq_iff_eq]; omega
                  have r1 : bits .xor .u8 (F k) a3 = x8 (F k) a3 := x8_bits (HF.out k) hy
                  have e2 : rotF F (64 * s + c) a3 k = x8 (F k) a3 := if_pos hj
                  rw [e2] at cx
                  have hj' : Hid (k = 64 * s + c ∨ True) := .inr trivial
                  clear hj' hj
                  go_upto_region 20 with fail
                  go_cut [126] from 118 to 126 (fun v wx => v = .bool true ∧ wx = w6)
                  case first =>
                    have e1' := e1.out
                    go_wp2
                    go_meet
                    case rel => exact ⟨rfl, rfl⟩
                  case rest =>
                  obtain ⟨rfl, hwc⟩ := hcut
                  obtain rfl := hwc.symm
                  go_wp2
                  first | exact hfin.out | simpa using hfin.out
                · have e1 : Hid (((k : Int) == (s : Int) * 64 + (c : Int)) = false) := by show _ = _; rw [beq_eq_false_iff_ne]; omega
                  have e2 : rotF F (64 * s + c) a3 k = F k := if_neg hj
                  rw [e2] at cx
                  have hj' : Hid (k = 64 * s + c ∨ True) := .inr trivial
                  clear hj' hj
                  go_upto_region 20 with fail
                  go_cut [126] from 118 to 126 (fun v wx => v = .bool false ∧ wx = w6)
                  case first =>
                    have e1' := e1.out
                    go_wp2
                    go_meet
                    case rel => exact ⟨rfl, rfl⟩
                  case rest =>
                  obtain ⟨rfl, hwc⟩ := hcut
                  obtain rfl := hwc.symm
                  go_wp2
                  first | exact hfin.out | simpa using hfin.out
              · obtain rfl : k = 320 := by omega
                go_wp2_with (first
                  | (go_at_call 24; refine (rot_ok hd6 s c a3 hy (by rw [hr5.n]; omega) hc).mono ?_; rintro e w7 ⟨rfl, hd7, hx7⟩; have hr7 := rd_rot hr5 s c a3; have hb7 : Bw w w7 := Below.trans hb6' (hx7.below hb6'.size hge); have hz7 := hz6.trans hx7; clear hx7 hd6)
                  | (go_at_call 21; refine (rd_read hd7 hr7).mono ?_; rintro e w8 ⟨b8, rfl, hb8, hB8, hbw8⟩; have hb8' := hb7.trans hbw8; have cz := conv_row (C := 320) ((HRows.out _ (hz7.trans (.of_bw hbw8))).row HF.out); have cy := conv_row (C := 320) (BlockIs.row hB8 (fun i => rotF_bd (fun i => rotF_bd HF.out hy i) hy i)); rw [str_congr14 (g := F) (fun i _ => rot_twice HF.out hy i)] at cy; clear hd7 hb7 hz7)
                  | (go_at_call 9; refine (wakes14_any _).mono ?_; rintro e w9 ⟨rfl, hw9⟩))
                go_ret
                exact ⟨rfl, hb8'.trans hw9⟩
        · by_cases hl : q < len0
          · have q1 : (q : Int) < (len0 : Int) := by omega
            have q2 : ¬ (q : Int) < 320 := by omega
            go_upto_region 13 with (first
              | (go_at_call 22; refine HWr.mono ?_; rintro e w2 ⟨rfl, hd2, hz2⟩; obtain ⟨S2, hS2⟩ : ∃ S, Hid ((Dsk.new 5).burnt.put 0 5 F = S) := ⟨_, rfl⟩; have hr2 := rd_put (F := F); rw [hS2.out] at hd2 hr2; have hb2 : Bw w w2 := Below.trans hb (hz2.below hb.size hge); clear HWr; have tokr : Hid (g = g) := rfl)
              | (go_at_call 23; refine (sync_ok hd2 hr2.dead (by rw [hr2.fuse]; decide)).mono ?_; rintro e w3 ⟨rfl, hd3, hx3⟩; replace hr2 := rd_sync hr2; obtain ⟨S3, hS3⟩ : ∃ S, Hid (S2.burnt.synced = S) := ⟨_, rfl⟩; rw [hS3.out] at hd3 hr2; have hb3 : Bw w w3 := Below.trans hb2 (hx3.below hb2.size hge); have hz3 := hz2.trans hx3; clear hx3 hd2 hb2 hz2)
              | (clear tokr; go_at_call 24; refine (rot_ok hd3 s c a3 hy (by rw [hr2.n]; omega) hc).mono ?_; rintro e w5 ⟨rfl, hd5, hx5⟩; have hr5 := rd_rot hr2 s c a3; have hb5 : Bw w w5 := Below.trans hb3 (hx5.below hb3.size hge); have hz5 := hz3.trans hx5; clear hx5 hd3 hb3 hz3)
              | (go_at_call 21; refine (rd_read hd5 hr5).mono ?_; rintro e w6 ⟨b6, rfl, hb6, hB6, hbw6⟩; have hd6 := hd5.keep hbw6; have hb6' := hb5.trans hbw6; have hz6 := hz5.trans (.of_bw hbw6); have hBz := HRows.out _ hz6; clear hd5 hb5 hz5))
            clear hbw6
            go_cut [18] from 71 to 84 (fun v wx => v = .bool true ∧ wx = w6)
            case first =>
              go_wp2
              go_meet
              case rel => exact ⟨rfl, rfl⟩
            case rest =>
            obtain ⟨rfl, hwc⟩ := hcut
            obtain rfl := hwc.symm
            go_wp2
            go_loopw [19] (fun i wx => ∃ k : Nat, k ≤ 320 ∧ i = .int .i64 (k : Int) ∧ wx = w6) (fun i _ => 320 - (intOf i).toNat)
            case atStart => exact ⟨0, Nat.zero_le _, rfl, rfl⟩
            case round =>
              obtain ⟨k, hk, rfl, hwx⟩ := hrel
              obtain rfl := hwx.symm
              have k0 : (0 : Int) ≤ (k : Int) := Int.natCast_nonneg _
              by_cases hk3 : k < 320
              · have k1 : (k : Int) < 320 := by omega
                have cz := (hBz.cell hk3).1
                have cx := (hB6.cell hk3).1
                have hfin : Hid ((∃ k' : Nat, k' ≤ 320 ∧ Value.int .i64 ((k : Int) + 1) = .int .i64 (k' : Int) ∧ True) ∧ 320 - (intOf (.int .i64 ((k : Int) + 1))).toNat < 320 - (intOf (.int .i64 (k : Int))).toNat) := ⟨⟨k + 1, hk3, rfl, trivial⟩, by simp only [intOf]; omega⟩
                by_cases hj : k = 64 * s + c
                · have e1 : Hid (((k : Int) == (s : Int) * 64 + (c : Int)) = true) := by show _ = _; rw [beq_iff_eq]; omega
                  have r1 : bits .xor .u8 (F k) a3 = x8 (F k) a3 := x8_bits (HF.out k) hy
                  have e2 : rotF F (64 * s + c) a3 k = x8 (F k) a3 := if_pos hj
                  rw [e2] at cx
                  have hj' : Hid (k = 64 * s + c ∨ True) := .inr trivial
                  clear hj' hj
                  go_upto_region 20 with fail
                  go_cut [126] from 118 to 126 (fun v wx => v = .bool true ∧ wx = w6)
                  case first =>
                    have e1' := e1.out
                    go_wp2
                    go_meet
                    case rel => exact ⟨rfl, rfl⟩
                  case rest =>
                  obtain ⟨rfl, hwc⟩ := hcut
                  obtain rfl := hwc.symm
                  go_wp2
                  first | exact hfin.out | simpa using hfin.out
                · have e1 : Hid (((k : Int) == (s : Int) * 64 + (c : Int)) = false) := by show _ = _; rw [beq_eq_false_iff_ne]; omega
                  have e2 : rotF F (64 * s + c) a3 k = F k := if_neg hj
                  rw [e2] at cx
                  have hj' : Hid (k = 64 * s + c ∨ True) := .inr trivial
                  clear hj' hj
                  go_upto_region 20 with fail
                  go_cut [126] from 118 to 126 (fun v wx => v = .bool false ∧ wx = w6)
                  case first =>
                    have e1' := e1.out
                    go_wp2
                    go_meet
                    case rel => exact ⟨rfl, rfl⟩
                  case rest =>
                  obtain ⟨rfl, hwc⟩ := hcut
                  obtain rfl := hwc.symm
                  go_wp2
                  first | exact hfin.out | simpa using hfin.out
              · obtain rfl : k = 320 := by omega
                go_wp2_with (first
                  | (go_at_call 24; refine (rot_ok hd6 s c a3 hy (by rw [hr5.n]; omega) hc).mono ?_; rintro e w7 ⟨rfl, hd7, hx7⟩; have hr7 := rd_rot hr5 s c a3; have hb7 : Bw w w7 := Below.trans hb6' (hx7.below hb6'.size hge); have hz7 := hz6.trans hx7; clear hx7 hd6)
                  | (go_at_call 21; refine (rd_read hd7 hr7).mono ?_; rintro e w8 ⟨b8, rfl, hb8, hB8, hbw8⟩; have hb8' := hb7.trans hbw8; have cz := conv_row (C := 320) ((HRows.out _ (hz7.trans (.of_bw hbw8))).row HF.out); have cy := conv_row (C := 320) (BlockIs.row hB8 (fun i => rotF_bd (fun i => rotF_bd HF.out hy i) hy i)); rw [str_congr14 (g := F) (fun i _ => rot_twice HF.out hy i)] at cy; clear hd7 hb7 hz7)
                  | (go_at_call 9; refine (wakes14_any _).mono ?_; rintro e w9 ⟨rfl, hw9⟩))
                go_ret
                exact ⟨rfl, hb8'.trans hw9⟩
          · have q1 : ¬ (q : Int) < (len0 : Int) := by omega
            go_upto_region 13 with (first
              | (go_at_call 22; refine HWr.mono ?_; rintro e w2 ⟨rfl, hd2, hz2⟩; obtain ⟨S2, hS2⟩ : ∃ S, Hid ((Dsk.new 5).burnt.put 0 5 F = S) := ⟨_, rfl⟩; have hr2 := rd_put (F := F); rw [hS2.out] at hd2 hr2; have hb2 : Bw w w2 := Below.trans hb (hz2.below hb.size hge); clear HWr; have tokr : Hid (g = g) := rfl)
              | (go_at_call 23; refine (sync_ok hd2 hr2.dead (by rw [hr2.fuse]; decide)).mono ?_; rintro e w3 ⟨rfl, hd3, hx3⟩; replace hr2 := rd_sync hr2; obtain ⟨S3, hS3⟩ : ∃ S, Hid (S2.burnt.synced = S) := ⟨_, rfl⟩; rw [hS3.out] at hd3 hr2; have hb3 : Bw w w3 := Below.trans hb2 (hx3.below hb2.size hge); have hz3 := hz2.trans hx3; clear hx3 hd2 hb2 hz2)
              | (clear tokr; go_at_call 24; refine (rot_ok hd3 s c a3 hy (by rw [hr2.n]; omega) hc).mono ?_; rintro e w5 ⟨rfl, hd5, hx5⟩; have hr5 := rd_rot hr2 s c a3; have hb5 : Bw w w5 := Below.trans hb3 (hx5.below hb3.size hge); have hz5 := hz3.trans hx5; clear hx5 hd3 hb3 hz3)
              | (go_at_call 21; refine (rd_read hd5 hr5).mono ?_; rintro e w6 ⟨b6, rfl, hb6, hB6, hbw6⟩; have hd6 := hd5.keep hbw6; have hb6' := hb5.trans hbw6; have hz6 := hz5.trans (.of_bw hbw6); have hBz := HRows.out _ hz6; clear hd5 hb5 hz5))
            clear hbw6
            go_cut [18] from 71 to 84 (fun v wx => v = .bool true ∧ wx = w6)
            case first =>
              go_wp2
              go_meet
              case rel => exact ⟨rfl, rfl⟩
            case rest =>
            obtain ⟨rfl, hwc⟩ := hcut
            obtain rfl := hwc.symm
            go_wp2
            go_loopw [19] (fun i wx => ∃ k : Nat, k ≤ 320 ∧ i = .int .i64 (k : Int) ∧ wx = w6) (fun i _ => 320 - (intOf i).toNat)
            case atStart => exact ⟨0, Nat.zero_le _, rfl, rfl⟩
            case round =>
              obtain ⟨k, hk, rfl, hwx⟩ := hrel
              obtain rfl := hwx.symm
              have k0 : (0 : Int) ≤ (k : Int) := Int.natCast_nonneg _
              by_cases hk3 : k < 320
              · have k1 : (k : Int) < 320 := by omega
                have cz := (hBz.cell hk3).1
                have cx := (hB6.cell hk3).1
                have hfin : Hid ((∃ k' : Nat, k' ≤ 320 ∧ Value.int .i64 ((k : Int) + 1) = .int .i64 (k' : Int) ∧ True) ∧ 320 - (intOf (.int .i64 ((k : Int) + 1))).toNat < 320 - (intOf (.int .i64 (k : Int))).toNat) := ⟨⟨k + 1, hk3, rfl, trivial⟩, by simp only [intOf]; omega⟩
                by_cases hj : k = 64 * s + c
                · have e1 : Hid (((k : Int) == (s : Int) * 64 + (c : Int)) = true) := by show _ = _; rw [beq_iff_eq]; omega
                  have r1 : bits .xor .u8 (F k) a3 = x8 (F k) a3 := x8_bits (HF.out k) hy
                  have e2 : rotF F (64 * s + c) a3 k = x8 (F k) a3 := if_pos hj
                  rw [e2] at cx
                  have hj' : Hid (k = 64 * s + c ∨ True) := .inr trivial
                  clear hj' hj
                  go_upto_region 20 with fail
                  go_cut [126] from 118 to 126 (fun v wx => v = .bool true ∧ wx = w6)
                  case first =>
                    have e1' := e1.out
                    go_wp2
                    go_meet
                    case rel => exact ⟨rfl, rfl⟩
                  case rest =>
                  obtain ⟨rfl, hwc⟩ := hcut
                  obtain rfl := hwc.symm
                  go_wp2
                  first | exact hfin.out | simpa using hfin.out
                · have e1 : Hid (((k : Int) == (s : Int) * 64 + (c : Int)) = false) := by show _ = _; rw [beq_eq_false_iff_ne]; omega
                  have e2 : rotF F (64 * s + c) a3 k = F k := if_neg hj
                  rw [e2] at cx
                  have hj' : Hid (k = 64 * s + c ∨ True) := .inr trivial
                  clear hj' hj
                  go_upto_region 20 with fail
                  go_cut [126] from 118 to 126 (fun v wx => v = .bool false ∧ wx = w6)
                  case first =>
                    have e1' := e1.out
                    go_wp2
                    go_meet
                    case rel => exact ⟨rfl, rfl⟩
                  case rest =>
                  obtain ⟨rfl, hwc⟩ := hcut
                  obtain rfl := hwc.symm
                  go_wp2
                  first | exact hfin.out | simpa using hfin.out
              · obtain rfl : k = 320 := by omega
                go_wp2_with (first
                  | (go_at_call 24; refine (rot_ok hd6 s c a3 hy (by rw [hr5.n]; omega) hc).mono ?_; rintro e w7 ⟨rfl, hd7, hx7⟩; have hr7 := rd_rot hr5 s c a3; have hb7 : Bw w w7 := Below.trans hb6' (hx7.below hb6'.size hge); have hz7 := hz6.trans hx7; clear hx7 hd6)
                  | (go_at_call 21; refine (rd_read hd7 hr7).mono ?_; rintro e w8 ⟨b8, rfl, hb8, hB8, hbw8⟩; have hb8' := hb7.trans hbw8; have cz := conv_row (C := 320) ((HRows.out _ (hz7.trans (.of_bw hbw8))).row HF.out); have cy := conv_row (C := 320) (BlockIs.row hB8 (fun i => rotF_bd (fun i => rotF_bd HF.out hy i) hy i)); rw [str_congr14 (g := F) (fun i _ => rot_twice HF.out hy i)] at cy; clear hd7 hb7 hz7)
                  | (go_at_call 9; refine (wakes14_any _).mono ?_; rintro e w9 ⟨rfl, hw9⟩))
                go_ret
                exact ⟨rfl, hb8'.trans hw9⟩
      · replace hins := (show Hid (¬ (0 ≤ a1 ∧ a1 < 5 ∧ 0 ≤ a2 ∧ a2 < 64)) from hins)
        cases a4
        · by_cases hl : q < len0
          · have q1 : (q : Int) < (len0 : Int) := by omega
            have q2 : ¬ (q : Int) < 320 := by omega
            go_upto_region 13 with (first
              | (go_at_call 22; refine HWr.mono ?_; rintro e w2 ⟨rfl, hd2, hz2⟩; obtain ⟨S2, hS2⟩ : ∃ S, Hid ((Dsk.new 5).burnt.put 0 5 F = S) := ⟨_, rfl⟩; have hr2 := rd_put (F := F); rw [hS2.out] at hd2 hr2; have hb2 : Bw w w2 := Below.trans hb (hz2.below hb.size hge); clear HWr; have tokr : Hid (g = g) := rfl)
              | (clear tokr; go_at_call 24; refine (rot_no hd2 a1 a2 a3 (by omega) (by rw [hr2.n]; exact hins.out)).mono ?_; rintro e w5 ⟨rfl, hw5⟩; obtain rfl := hw5.symm; have hd5 := hd2; have hr5 := hr2; have hb5 := hb2; have hz5 := hz2; clear hd2 hb2 hz2)
              | (go_at_call 21; refine (rd_read hd5 hr5).mono ?_; rintro e w6 ⟨b6, rfl, hb6, hB6, hbw6⟩; have hd6 := hd5.keep hbw6; have hb6' := hb5.trans hbw6; have hz6 := hz5.trans (.of_bw hbw6); have hBz := HRows.out _ hz6; clear hd5 hb5 hz5))
            clear hbw6
            go_cut [18] from 71 to 84 (fun v wx => v = .bool false ∧ wx = w6)
            case first =>
              have hns := hins.out
              by_cases c1 : 0 ≤ a1
              · by_cases c2 : a1 < 5
                · by_cases c3 : 0 ≤ a2
                  · have c4 : ¬ a2 < 64 := by omega
                    clear hns
                    go_wp2
                    go_meet
                    case rel => exact ⟨rfl, rfl⟩
                  · clear hns
                    go_wp2
                    go_meet
                    case rel => exact ⟨rfl, rfl⟩
                · clear hns
                  go_wp2
                  go_meet
                  case rel => exact ⟨rfl, rfl⟩
              · clear hns
                go_wp2
                go_meet
                case rel => exact ⟨rfl, rfl⟩
            case rest =>
            obtain ⟨rfl, hwc⟩ := hcut
            obtain rfl := hwc.symm
            go_wp2
            go_loopw [19] (fun i wx => ∃ k : Nat, k ≤ 320 ∧ i = .int .i64 (k : Int) ∧ wx = w6) (fun i _ => 320 - (intOf i).toNat)
            case atStart => exact ⟨0, Nat.zero_le _, rfl, rfl⟩
            case round =>
              obtain ⟨k, hk, rfl, hwx⟩ := hrel
              obtain rfl := hwx.symm
              have k0 : (0 : Int) ≤ (k : Int) := Int.natCast_nonneg _
              by_cases hk3 : k < 320
              · have k1 : (k : Int) < 320 := by omega
                have cz := (hBz.cell hk3).1
                have cx := (hB6.cell hk3).1
                have hfin : Hid ((∃ k' : Nat, k' ≤ 320 ∧ Value.int .i64 ((k : Int) + 1) = .int .i64 (k' : Int) ∧ True) ∧ 320 - (intOf (.int .i64 ((k : Int) + 1))).toNat < 320 - (intOf (.int .i64 (k : Int))).toNat) := ⟨⟨k + 1, hk3, rfl, trivial⟩, by simp only [intOf]; omega⟩
                go_wp2
                first | exact hfin.out | simpa using hfin.out
              · obtain rfl : k = 320 := by omega
                go_wp2_with (first
                  | (go_at_call 24; refine (rot_no hd6 a1 a2 a3 (by omega) (by rw [hr5.n]; exact hins.out)).mono ?_; rintro e w7 ⟨rfl, hw7⟩; obtain rfl := hw7.symm; have hd7 := hd6; have hr7 := hr5; have hb7 := hb6'; have hz7 := hz6; clear hd6)
                  | (go_at_call 21; refine (rd_read hd7 hr7).mono ?_; rintro e w8 ⟨b8, rfl, hb8, hB8, hbw8⟩; have hb8' := hb7.trans hbw8; have cz := conv_row (C := 320) ((HRows.out _ (hz7.trans (.of_bw hbw8))).row HF.out); have cy := conv_row (C := 320) (BlockIs.row hB8 HF.out); clear hd7 hb7 hz7)
                  | (go_at_call 9; refine (wakes14_any _).mono ?_; rintro e w9 ⟨rfl, hw9⟩))
                go_ret
                exact ⟨rfl, hb8'.trans hw9⟩
          · have q1 : ¬ (q : Int) < (len0 : Int) := by omega
            go_upto_region 13 with (first
              | (go_at_call 22; refine HWr.mono ?_; rintro e w2 ⟨rfl, hd2, hz2⟩; obtain ⟨S2, hS2⟩ : ∃ S, Hid ((Dsk.new 5).burnt.put 0 5 F = S) := ⟨_, rfl⟩; have hr2 := rd_put (F := F); rw [hS2.out] at hd2 hr2; have hb2 : Bw w w2 := Below.trans hb (hz2.below hb.size hge); clear HWr; have tokr : Hid (g = g) := rfl)
              | (clear tokr; go_at_call 24; refine (rot_no hd2 a1 a2 a3 (by omega) (by rw [hr2.n]; exact hins.out)).mono ?_; rintro e w5 ⟨rfl, hw5⟩; obtain rfl := hw5.symm; have hd5 := hd2; have hr5 := hr2; have hb5 := hb2; have hz5 := hz2; clear hd2 hb2 hz2)
              | (go_at_call 21; refine (rd_read hd5 hr5).mono ?_; rintro e w6 ⟨b6, rfl, hb6, hB6, hbw6⟩; have hd6 := hd5.keep hbw6; have hb6' := hb5.trans hbw6; have hz6 := hz5.trans (.of_bw hbw6); have hBz := HRows.out _ hz6; clear hd5 hb5 hz5))
            clear hbw6
            go_cut [18] from 71 to 84 (fun v wx => v = .bool false ∧ wx = w6)
            case first =>
              have hns := hins.out
              by_cases c1 : 0 ≤ a1
              · by_cases c2 : a1 < 5
                · by_cases c3 : 0 ≤ a2
                  · have c4 : ¬ a2 < 64 := by omega
                    clear hns
                    go_wp2
                    go_meet
                    case rel => exact ⟨rfl, rfl⟩
                  · clear hns
                    go_wp2
                    go_meet
                    case rel => exact ⟨rfl, rfl⟩
                · clear hns
                  go_wp2
                  go_meet
                  case rel => exact ⟨rfl, rfl⟩
              · clear hns
                go_wp2
                go_meet
                case rel => exact ⟨rfl, rfl⟩
            case rest =>
            obtain ⟨rfl, hwc⟩ := hcut
            obtain rfl := hwc.symm
            go_wp2
            go_loopw [19] (fun i wx => ∃ k : Nat, k ≤ 320 ∧ i = .int .i64 (k : Int) ∧ wx = w6) (fun i _ => 320 - (intOf i).toNat)
            case atStart => exact ⟨0, Nat.zero_le _, rfl, rfl⟩
            case round =>
              obtain ⟨k, hk, rfl, hwx⟩ := hrel
              obtain rfl := hwx.symm
              have k0 : (0 : Int) ≤ (k : Int) := Int.natCast_nonneg _
              by_cases hk3 : k < 320
              · have k1 : (k : Int) < 320 := by omega
                have cz := (hBz.cell hk3).1
                have cx := (hB6.cell hk3).1
                have hfin : Hid ((∃ k' : Nat, k' ≤ 320 ∧ Value.int .i64 ((k : Int) + 1) = .int .i64 (k' : Int) ∧ True) ∧ 320 - (intOf (.int .i64 ((k : Int) + 1))).toNat < 320 - (intOf (.int .i64 (k : Int))).toNat) := ⟨⟨k + 1, hk3, rfl, trivial⟩, by simp only [intOf]; omega⟩
                go_wp2
                first | exact hfin.out | simpa using hfin.out
              · obtain rfl : k = 320 := by omega
                go_wp2_with (first
                  | (go_at_call 24; refine (rot_no hd6 a1 a2 a3 (by omega) (by rw [hr5.n]; exact hins.out)).mono ?_; rintro e w7 ⟨rfl, hw7⟩; obtain rfl := hw7.symm; have hd7 := hd6; have hr7 := hr5; have hb7 := hb6'; have hz7 := hz6; clear hd6)
                  | (go_at_call 21; refine (rd_read hd7 hr7).mono ?_; rintro e w8 ⟨b8, rfl, hb8, hB8, hbw8⟩; have hb8' := hb7.trans hbw8; have cz := conv_row (C := 320) ((HRows.out _ (hz7.trans (.of_bw hbw8))).row HF.out); have cy := conv_row (C := 320) (BlockIs.row hB8 HF.out); clear hd7 hb7 hz7)
                  | (go_at_call 9; refine (wakes14_any _).mono ?_; rintro e w9 ⟨rfl, hw9⟩))
                go_ret
                exact ⟨rfl, hb8'.trans hw9⟩
        · by_cases hl : q < len0
          · have q1 : (q : Int) < (len0 : Int) := by omega
            have q2 : ¬ (q : Int) < 320 := by omega
            go_upto_region 13 with (first
              | (go_at_call 22; refine HWr.mono ?_; rintro e w2 ⟨rfl, hd2, hz2⟩; obtain ⟨S2, hS2⟩ : ∃ S, Hid ((Dsk.new 5).burnt.put 0 5 F = S) := ⟨_, rfl⟩; have hr2 := rd_put (F := F); rw [hS2.out] at hd2 hr2; have hb2 : Bw w w2 := Below.trans hb (hz2.below hb.size hge); clear HWr; have tokr : Hid (g = g) := rfl)
              | (go_at_call 23; refine (sync_ok hd2 hr2.dead (by rw [hr2.fuse]; decide)).mono ?_; rintro e w3 ⟨rfl, hd3, hx3⟩; replace hr2 := rd_sync hr2; obtain ⟨S3, hS3⟩ : ∃ S, Hid (S2.burnt.synced = S) := ⟨_, rfl⟩; rw [hS3.out] at hd3 hr2; have hb3 : Bw w w3 := Below.trans hb2 (hx3.below hb2.size hge); have hz3 := hz2.trans hx3; clear hx3 hd2 hb2 hz2)
              | (clear tokr; go_at_call 24; refine (rot_no hd3 a1 a2 a3 (by omega) (by rw [hr2.n]; exact hins.out)).mono ?_; rintro e w5 ⟨rfl, hw5⟩; obtain rfl := hw5.symm; have hd5 := hd3; have hr5 := hr2; have hb5 := hb3; have hz5 := hz3; clear hd3 hb3 hz3)
              | (go_at_call 21; refine (rd_read hd5 hr5).mono ?_; rintro e w6 ⟨b6, rfl, hb6, hB6, hbw6⟩; have hd6 := hd5.keep hbw6; have hb6' := hb5.trans hbw6; have hz6 := hz5.trans (.of_bw hbw6); have hBz := HRows.out _ hz6; clear hd5 hb5 hz5))
            clear hbw6
            go_cut [18] from 71 to 84 (fun v wx => v = .bool false ∧ wx = w6)
            case first =>
              have hns := hins.out
              by_cases c1 : 0 ≤ a1
              · by_cases c2 : a1 < 5
                · by_cases c3 : 0 ≤ a2
                  · have c4 : ¬ a2 < 64 := by omega
                    clear hns
                    go_wp2
                    go_meet
                    case rel => exact ⟨rfl, rfl⟩
                  · clear hns
                    go_wp2
                    go_meet
                    case rel => exact ⟨rfl, rfl⟩
                · clear hns
                  go_wp2
                  go_meet
                  case rel => exact ⟨rfl, rfl⟩
              · clear hns
                go_wp2
                go_meet
                case rel => exact ⟨rfl, rfl⟩
            case rest =>
            obtain ⟨rfl, hwc⟩ := hcut
            obtain rfl := hwc.symm
            go_wp2
            go_loopw [19] (fun i wx => ∃ k : Nat, k ≤ 320 ∧ i = .int .i64 (k : Int) ∧ wx = w6) (fun i _ => 320 - (intOf i).toNat)
            case atStart => exact ⟨0, Nat.zero_le _, rfl, rfl⟩
            case round =>
              obtain ⟨k, hk, rfl, hwx⟩ := hrel
              obtain rfl := hwx.symm
              have k0 : (0 : Int) ≤ (k : Int) := Int.natCast_nonneg _
              by_cases hk3 : k < 320
              · have k1 : (k : Int) < 320 := by omega
                have cz := (hBz.cell hk3).1
                have cx := (hB6.cell hk3).1
                have hfin : Hid ((∃ k' : Nat, k' ≤ 320 ∧ Value.int .i64 ((k : Int) + 1) = .int .i64 (k' : Int) ∧ True) ∧ 320 - (intOf (.int .i64 ((k : Int) + 1))).toNat < 320 - (intOf (.int .i64 (k : Int))).toNat) := ⟨⟨k + 1, hk3, rfl, trivial⟩, by simp only [intOf]; omega⟩
                go_wp2
                first | exact hfin.out | simpa using hfin.out
              · obtain rfl : k = 320 := by omega
                go_wp2_with (first
                  | (go_at_call 24; refine (rot_no hd6 a1 a2 a3 (by omega) (by rw [hr5.n]; exact hins.out)).mono ?_; rintro e w7 ⟨rfl, hw7⟩; obtain rfl := hw7.symm; have hd7 := hd6; have hr7 := hr5; have hb7 := hb6'; have hz7 := hz6; clear hd6)
                  | (go_at_call 21; refine (rd_read hd7 hr7).mono ?_; rintro e w8 ⟨b8, rfl, hb8, hB8, hbw8⟩; have hb8' := hb7.trans hbw8; have cz := conv_row (C := 320) ((HRows.out _ (hz7.trans (.of_bw hbw8))).row HF.out); have cy := conv_row (C := 320) (BlockIs.row hB8 HF.out); clear hd7 hb7 hz7)
                  | (go_at_call 9; refine (wakes14_any _).mono ?_; rintro e w9 ⟨rfl, hw9⟩))
                go_ret
                exact ⟨rfl, hb8'.trans hw9⟩
          · have q1 : ¬ (q : Int) < (len0 : Int) := by omega
            go_upto_region 13 with (first
              | (go_at_call 22; refine HWr.mono ?_; rintro e w2 ⟨rfl, hd2, hz2⟩; obtain ⟨S2, hS2⟩ : ∃ S, Hid ((Dsk.new 5).burnt.put 0 5 F = S) := ⟨_, rfl⟩; have hr2 := rd_put (F := F); rw [hS2.out] at hd2 hr2; have hb2 : Bw w w2 := Below.trans hb (hz2.below hb.size hge); clear HWr; have tokr : Hid (g = g) := rfl)
              | (go_at_call 23; refine (sync_ok hd2 hr2.dead (by rw [hr2.fuse]; decide)).mono ?_; rintro e w3 ⟨rfl, hd3, hx3⟩; replace hr2 := rd_sync hr2; obtain ⟨S3, hS3⟩ : ∃ S, Hid (S2.burnt.synced = S) := ⟨_, rfl⟩; rw [hS3.out] at hd3 hr2; have hb3 : Bw w w3 := Below.trans hb2 (hx3.below hb2.size hge); have hz3 := hz2.trans hx3; clear hx3 hd2 hb2 hz2)
              | (clear tokr; go_at_call 24; refine (rot_no hd3 a1 a2 a3 (by omega) (by rw [hr2.n]; exact hins.out)).mono ?_; rintro e w5 ⟨rfl, hw5⟩; obtain rfl := hw5.symm; have hd5 := hd3; have hr5 := hr2; have hb5 := hb3; have hz5 := hz3; clear hd3 hb3 hz3)
              | (go_at_call 21; refine (rd_read hd5 hr5).mono ?_; rintro e w6 ⟨b6, rfl, hb6, hB6, hbw6⟩; have hd6 := hd5.keep hbw6; have hb6' := hb5.trans hbw6; have hz6 := hz5.trans (.of_bw hbw6); have hBz := HRows.out _ hz6; clear hd5 hb5 hz5))
            clear hbw6
            go_cut [18] from 71 to 84 (fun v wx => v = .bool false ∧ wx = w6)
            case first =>
              have hns := hins.out
              by_cases c1 : 0 ≤ a1
              · by_cases c2 : a1 < 5
                · by_cases c3 : 0 ≤ a2
                  · have c4 : ¬ a2 < 64 := by omega
                    clear hns
                    go_wp2
                    go_meet
                    case rel => exact ⟨rfl, rfl⟩
                  · clear hns
                    go_wp2
                    go_meet
                    case rel => exact ⟨rfl, rfl⟩
                · clear hns
                  go_wp2
                  go_meet
                  case rel => exact ⟨rfl, rfl⟩
              · clear hns
                go_wp2
                go_meet
                case rel => exact ⟨rfl, rfl⟩
            case rest =>
            obtain ⟨rfl, hwc⟩ := hcut
            obtain rfl := hwc.symm
            go_wp2
            go_loopw [19] (fun i wx => ∃ k : Nat, k ≤ 320 ∧ i = .int .i64 (k : Int) ∧ wx = w6) (fun i _ => 320 - (intOf i).toNat)
            case atStart => exact ⟨0, Nat.zero_le _, rfl, rfl⟩
            case round =>
              obtain ⟨k, hk, rfl, hwx⟩ := hrel
              obtain rfl := hwx.symm
              have k0 : (0 : Int) ≤ (k : Int) := Int.natCast_nonneg _
              by_cases hk3 : k < 320
              · have k1 : (k : Int) < 320 := by omega
                have cz := (hBz.cell hk3).1
                have cx := (hB6.cell hk3).1
                have hfin : Hid ((∃ k' : Nat, k' ≤ 320 ∧ Value.int .i64 ((k : Int) + 1) = .int .i64 (k' : Int) ∧ True) ∧ 320 - (intOf (.int .i64 ((k : Int) + 1))).toNat < 320 - (intOf (.int .i64 (k : Int))).toNat) := ⟨⟨k + 1, hk3, rfl, trivial⟩, by simp only [intOf]; omega⟩
                go_wp2
                first | exact hfin.out | simpa using hfin.out
              · obtain rfl : k = 320 := by omega
                go_wp2_with (first
                  | (go_at_call 24; refine (rot_no hd6 a1 a2 a3 (by omega) (by rw [hr5.n]; exact hins.out)).mono ?_; rintro e w7 ⟨rfl, hw7⟩; obtain rfl := hw7.symm; have hd7 := hd6; have hr7 := hr5; have hb7 := hb6'; have hz7 := hz6; clear hd6)
                  | (go_at_call 21; refine (rd_read hd7 hr7).mono ?_; rintro e w8 ⟨b8, rfl, hb8, hB8, hbw8⟩; have hb8' := hb7.trans hbw8; have cz := conv_row (C := 320) ((HRows.out _ (hz7.trans (.of_bw hbw8))).row HF.out); have cy := conv_row (C := 320) (BlockIs.row hB8 HF.out); clear hd7 hb7 hz7)
                  | (go_at_call 9; refine (wakes14_any _).mono ?_; rintro e w9 ⟨rfl, hw9⟩))
                go_ret
                exact ⟨rfl, hb8'.trans hw9⟩

set_option maxRecDepth 100000 in
theorem lifted (os : Os) (started : os.Started) (H : Type) (enc : TypeId × Value → H) :
    ReturnsInHanded {} Try.checked os 7 .any (Rows.diskRotsSpec.pre6 enc Try.prog Try.f7 Rows.diskRotsRow.domain false) (Rows.diskRotsSpec.post enc Try.prog Try.f7 false true false false) := by
  refine returnsInHanded_of_change_sized (C := Try.checked) own started (by kernel_rfl) Try.func7
    (ChangeSpec.witness6 (enc := enc) (C := Try.checked) false ⟨#[], #[.slice none 0 0, .int .i64 0, .int .i64 0, .int .u8 0, .bool false], []⟩ 8 (by kernel_rfl) (by kernel_rfl) (by kernel_rfl) (by kernel_rfl)) ?_
  intro W base args ds gs before hval0 hW hcnd hsz0 _
  have hval : ∀ (j : Nat) t v, Try.f7.params[j]? = some t → args[j]? = some v → Value.okWide Try.prog W .any base t v := hval0
  have hW' := hW
  obtain ⟨p, q, hA0, hV, rfl, hfz, hnd⟩ := hW
  have hA : DataW.TrodAll enc Try.prog W 0 (fun _ => true) true Try.f7.params.toList args.toList ds p := hA0
  have hsz : (DataW.weightsEach Try.prog (Try.f7.params.toList ++ Rows.diskRotsSpec.plain.varTypes Try.prog) (ds ++ gs)).all (· ≤ reachBytes) = true := hsz0
  rw [Try.params7] at hA hval hsz
  obtain ⟨v0, vs0, d0, ds0, p0, q0, hargs, rfl, rfl, h0, r0⟩ := trodAll_cons hA
  obtain ⟨v1, vs1, d1, ds1, p1, q1, rfl, rfl, rfl, h1, r1⟩ := trodAll_cons r0
  obtain ⟨v2, vs2, d2, ds2, p2, q2, rfl, rfl, rfl, h2, r2⟩ := trodAll_cons r1
  obtain ⟨v3, vs3, d3, ds3, p3, q3, rfl, rfl, rfl, h3, r3⟩ := trodAll_cons r2
  obtain ⟨v4, vs4, d4, ds4, p4, q4, rfl, rfl, rfl, h4, r4⟩ := trodAll_cons r3
  obtain ⟨rfl, rfl, rfl⟩ := trodAll_nil r4
  obtain rfl : args = #[v0, v1, v2, v3, v4] := by cases args; simp_all
  obtain ⟨rfl, rfl⟩ := trodVars_none hV
  obtain ⟨a0, len0, cap0, rfl⟩ := okWide_slice Try.underlying33 (hval 0 33 v0 rfl rfl)
  have k0 := h0
  have lt0 : ∀ x ∈ p0, x.block < W.heap.size := by obtain ⟨m, hm⟩ := k0; exact DataW.trod_lt m _ _ _ hm
  obtain ⟨f0, w0⟩ := open_bytes h0 (fun x hx => by simpa using List.all_eq_true.1 hsz x (DataW.weights_mem_each (j := 0) (t := 33) rfl rfl x hx))
  obtain ⟨a1, rfl, rfl, rfl, w1⟩ := open_int Try.underlying3 (hval 1 3 v1 rfl rfl) h1
  obtain ⟨a2, rfl, rfl, rfl, w2⟩ := open_int Try.underlying3 (hval 2 3 v2 rfl rfl) h2
  obtain ⟨a3, rfl, rfl, rfl, w3⟩ := open_int Try.underlying5 (hval 3 5 v3 rfl rfl) h3
  obtain ⟨a4, rfl, rfl, rfl⟩ := open_bool Try.underlying4 (hval 4 4 v4 rfl rfl) h4
  clear hA0 hval0
  refine (walk a0 len0 cap0 f0 a1 a2 a3 a4 W w0 w1 w2 w3).mono fun e W' ⟨he, bel⟩ => ?_
  subst he
  exact ⟨_, rfl, _, _, _, [], _, [], hW', trodAll_mk1 (shut_bool Try.underlying4 _), (trodAll_cons_mk (Below.trod laidOut (by kernel_rfl) (of_decide_eq_true (by kernel_rfl)) k0 bel lt0) (trodAll_cons_mk (shut_int Try.underlying3 w1) (trodAll_cons_mk (shut_int Try.underlying3 w2) (trodAll_cons_mk (shut_int Try.underlying5 w3) (trodAll_cons_mk (shut_bool Try.underlying4 a4) trodAll_mk0))))), rfl, bel.frame _, fun h => by cases h⟩

theorem over : Rows.diskRotsRow.holds Try.pinned (OpenSpec.ofChange Rows.diskRotsSpec) :=
  OpenClaim.holds_of_wide 7 Try.f7 rfl rfl rfl rfl rfl rfl rfl ⟨rfl, rfl, rfl, rfl, rfl⟩ rfl rfl rfl rfl rfl (by kernel_rfl) Try.func7 (by kernel_rfl)
    (of_decide_eq_true (by kernel_rfl)) (by unfold Func.isWrapper; first | (rw [if_pos (by decide +kernel)]; kernel_rfl) | (rw [if_neg (by decide +kernel)]; exact ⟨rfl, rfl⟩))
    (fun os started H enc _ => lifted os started H enc)

theorem proved : Rows.DiskRotsSaid := over
#print axioms proved
end Go.Proofs.Ytmmpignjihbbpaa.diskRots
