/- Proved: for every number and every row of truths the statement DiskFuse answers true (the document's P14.4: with a fuse of n just n writes and syncs are done, and all behind them find the power gone), with no condition but the reach. -/
import Derived.Test.YtmmpignjihbbpaaFa
import Derived.Test.YtmmpignjihbbpaaFa
import Derived.ShutString
import Derived.ChangeOld
namespace Go.Proofs.Ytmmpignjihbbpaa.diskFuse
open Go.ChangeShapes Go.WideShapes Go.ChangeAt Go.RowKit
set_option linter.unusedVariables false

set_option linter.unusedSimpArgs false
open Go.Deep
/-- with a fuse of n, i calls behind -/
def Inv (n i : Nat) (S : Dsk) : Prop := S.n = 3 ∧ (i ≤ n → S.dead = false ∧ S.fuse = ((n - i : Nat) : Int)) ∧ (n < i → S.dead = true)
theorem inv_sync {n i : Nat} {S : Dsk} (h : Inv n i S) : S.syncs.1 = (if i < n then 0 else 140) ∧ Inv n (i + 1) S.syncs.2 := by
  obtain ⟨h1, h2, h3⟩ := h
  unfold Dsk.syncs
  by_cases e : i < n
  · obtain ⟨d, f⟩ := h2 (by omega)
    rw [d, if_neg (by decide), if_neg (by rw [f]; omega), if_pos e]
    refine ⟨rfl, h1, fun _ => ⟨d, ?_⟩, fun h => by omega⟩
    show max (S.fuse - 1) (-1) = _
    rw [f]; omega
  · rw [if_neg e]
    by_cases e2 : i = n
    · obtain ⟨d, f⟩ := h2 (by omega)
      rw [d, if_neg (by decide), if_pos (by rw [f]; omega)]
      exact ⟨rfl, h1, fun h => by omega, fun _ => rfl⟩
    · have d := h3 (by omega)
      rw [d, if_pos rfl]
      exact ⟨rfl, h1, fun h => by omega, fun _ => d⟩
theorem inv_write {n i : Nat} {S : Dsk} (h : Inv n i S) {x : Int} (hx : 0 ≤ x ∧ x < 3) (f : Nat → Int) : (S.wrote x 64 f).1 = (if i < n then 0 else 140) ∧ Inv n (i + 1) (S.wrote x 64 f).2 := by
  obtain ⟨h1, h2, h3⟩ := h
  unfold Dsk.wrote
  by_cases e : i < n
  · obtain ⟨d, f'⟩ := h2 (by omega)
    rw [d, if_neg (by decide), if_neg (by decide), if_neg (by rw [h1]; omega), if_neg (by rw [f']; omega), if_pos e]
    refine ⟨rfl, h1, fun _ => ⟨d, ?_⟩, fun h => by omega⟩
    show max (S.fuse - 1) (-1) = _
    rw [f']; omega
  · rw [if_neg e]
    by_cases e2 : i = n
    · obtain ⟨d, f'⟩ := h2 (by omega)
      rw [d, if_neg (by decide), if_neg (by decide), if_neg (by rw [h1]; omega), if_pos (by rw [f']; omega)]
      exact ⟨rfl, h1, fun h => by omega, fun _ => rfl⟩
    · have d := h3 (by omega)
      rw [d, if_pos rfl]
      exact ⟨rfl, h1, fun h => by omega, fun _ => d⟩
theorem inv_dead {n i : Nat} {S : Dsk} (h : Inv n i S) : S.dead = decide (n < i) := by
  by_cases e : n < i
  · rw [h.2.2 e, decide_eq_true e]
  · rw [(h.2.1 (by omega)).1, decide_eq_false e]
set_option maxRecDepth 100000 in
set_option maxHeartbeats 2000000 in
theorem walk (a0 : Int) (a1 : Option Addr) (len1 cap1 : Nat) (f1 : Nat → Bool) (w : World) (w0 : (Lit.int .i64 a0).wf = true) (w1 : InBools w a1 len1 cap1 f1) :
    Calls Try.prog 6 #[.int .i64 a0, .slice a1 len1 cap1] w fun e w' => e = .returned (.bool true) ∧ Below w.heap.size w w' := by
  obtain ⟨hrow, hle, hroom⟩ := w1
  have hab := bounds_i64 w0
  obtain ⟨n, hn⟩ : ∃ n : Nat, Hid ((a0.tmod 100 + 100) % 100 = (n : Int)) := ⟨((a0.tmod 100 + 100) % 100).toNat, by show _ = _; omega⟩
  have hn100 : n < 100 := by have := hn.out; omega
  have hr : -99 ≤ a0.tmod 100 ∧ a0.tmod 100 ≤ 99 := by
    have h1 := Int.tmod_lt_of_pos a0 (show (0 : Int) < 100 by decide)
    have h2 := Int.lt_tmod_of_pos a0 (show (0 : Int) < 100 by decide)
    omega
  have HN := new_ok 3 (by omega) (by omega) w
  have HR : Hid (len1 = 0 ∨ ∃ b off, a1 = some ⟨b, off, none⟩ ∧ ∀ i, i < len1 → w.cell? ⟨b, off + i, none⟩ = some (.bool (f1 i))) := hrow
  obtain ⟨M, hM, hM0, hmk⟩ := made_bytes 64 (by omega)
  replace hmk : ∀ w, (Instr.makeSlice 33 (.int .i64 64) (.int .i64 64)).run Try.prog w = .ok (.slice (some ⟨w.heap.size, 0, none⟩) 64 64) (w.alloc (.cells M 5)) := hmk
  have HM : Hid (∀ i, i < 64 → M[i]? = some (.int .u8 0)) := hM0
  clear hrow w0 hM0
  go_enter Try.func6, Try.ntmps6
  go_wp2_with (first
    | (go_at_call 10; rw [hn.out]; refine HN.mono ?_; rintro e w1 ⟨g, lb, gm, rfl, hd1, hge, hb1⟩; clear HN)
    | (go_at_call 19; refine (fuse_any hd1 _ (by omega)).mono ?_; rintro e w2 ⟨rfl, hd2, hx2⟩; have hb2 : Bw w w2 := Below.trans hb1 (hx2.below hb1.size (fun b e => hge b (dIn_g e)))))
  clear hr hab
  have hinv : Inv n 0 { Dsk.new 3 with fuse := max (n : Int) (-1) } := ⟨rfl, fun _ => ⟨rfl, by show max (n : Int) (-1) = _; omega⟩, fun h => by omega⟩
  have n0 : (0 : Int) ≤ (n : Int) := Int.natCast_nonneg _
  go_loopw [7] (fun i wr => ∃ (q : Nat) (S : Dsk), q ≤ len1 ∧ q ≤ 200 ∧ i = .int .i64 (q : Int) ∧ DiskAt wr g lb gm S ∧ Inv n q S ∧ Bw w wr) (fun i _ => 200 - (intOf i).toNat)
  case atStart => exact ⟨0, _, Nat.zero_le _, by omega, rfl, hd2, hinv, hb2⟩
  case round =>
    obtain ⟨q, S, hq, hq2, rfl, hdq, hi, hb⟩ := hrel
    have q0 : (0 : Int) ≤ (q : Int) := Int.natCast_nonneg _
    by_cases hlt : q < len1 ∧ q < 200
    · have q1 : (q : Int) < (len1 : Int) := by omega
      have q2 : (q : Int) < 200 := by omega
      obtain ⟨b, off, rfl, hcw⟩ := HR.out.resolve_left (by omega)
      have hcell := hcw q hlt.1
      replace hcell : wr.cell? ⟨b, off + q, none⟩ = some (.bool (f1 q)) := by
        rw [hb.cell (p := ⟨b, off + q, none⟩) (block_lt_of_cell hcell)]; exact hcell
      clear hcw
      have HS : Hid (Calls Try.prog 23 #[.pointer (some ⟨g, 0, none⟩)] wr fun e w' => e = .returned (.int .i64 (if q < n then 0 else 140)) ∧ (∃ S, DiskAt w' g lb gm S ∧ Inv n (q + 1) S) ∧ Bw w w') := by
        refine (sync_any hdq).mono ?_
        rintro e w' ⟨rfl, h1, h2⟩
        exact ⟨by rw [(inv_sync hi).1], ⟨_, h1, (inv_sync hi).2⟩, Below.trans hb (h2.below hb.size hge)⟩
      have HWr : Hid (Calls Try.prog 22 #[.pointer (some ⟨g, 0, none⟩), .int .i64 ((q : Int) % 3), .slice (some ⟨wr.heap.size, 0, none⟩) 64 64] (wr.alloc (.cells M 5)) fun e w' => e = .returned (.int .i64 (if q < n then 0 else 140)) ∧ (∃ S, DiskAt w' g lb gm S ∧ Inv n (q + 1) S) ∧ Bw w w') := by
        have hba : Bw wr (wr.alloc (.cells M 5)) := Below.alloc (Bw.refl _) (Nat.le_refl _) _
        refine (write_any (hdq.keep hba) ((q : Int) % 3) (by omega) (some ⟨wr.heap.size, 0, none⟩) 64 64 (fun _ => 0) (by omega) (row_new wr M 5 64 _ (fun _ => ⟨Int.le_refl 0, show (0 : Int) < 256 by decide⟩) HM.out) (fun b o e _ hin => by cases e; exact absurd (hdq.low _ hin) (Nat.lt_irrefl _)) (Nat.le_refl _)).mono ?_
        rintro e w' ⟨rfl, h1, h2⟩
        have h3 := inv_write hi (x := (q : Int) % 3) (by omega) (fun _ => 0)
        exact ⟨by rw [h3.1], ⟨_, h1, h3.2⟩, Below.trans (hb.trans hba) (h2.below (hb.trans hba).size hge)⟩
      by_cases hin : q < n
      · have i1 : (q : Int) < (n : Int) := by omega
        rw [if_pos hin] at HS HWr
        have hfin : ∀ w3 S3, DiskAt w3 g lb gm S3 → Inv n (q + 1) S3 → Bw w w3 → (∃ (q' : Nat) (S : Dsk), q' ≤ len1 ∧ q' ≤ 200 ∧ Value.int .i64 ((q : Int) + 1) = .int .i64 (q' : Int) ∧ DiskAt w3 g lb gm S ∧ Inv n q' S ∧ Bw w w3) ∧ 200 - (intOf (.int .i64 ((q : Int) + 1))).toNat < 200 - (intOf (.int .i64 (q : Int))).toNat := fun w3 S3 h1 h2 h3 => ⟨⟨q + 1, S3, hlt.1, hlt.2, rfl, h1, h2, h3⟩, by simp only [intOf]; omega⟩
        replace hfin := (show Hid _ from hfin)
        cases hv : f1 q
        · rw [hv] at hcell
          go_wp2_with (first
            | (go_at_call 22; refine HWr.out.mono ?_; rintro e w3 ⟨rfl, ⟨S3, hd3, hi3⟩, hb3⟩)
            | (go_at_call 13; refine (dead_any hd3).mono ?_; rintro e w4 ⟨rfl, hw⟩; obtain rfl := hw.symm; rw [inv_dead hi3, decide_eq_false (show ¬ n < q + 1 by omega)]))
          exact hfin.out _ _ hd3 hi3 hb3
        · rw [hv] at hcell
          go_wp2_with (first
            | (go_at_call 23; refine HS.out.mono ?_; rintro e w3 ⟨rfl, ⟨S3, hd3, hi3⟩, hb3⟩)
            | (go_at_call 13; refine (dead_any hd3).mono ?_; rintro e w4 ⟨rfl, hw⟩; obtain rfl := hw.symm; rw [inv_dead hi3, decide_eq_false (show ¬ n < q + 1 by omega)]))
          exact hfin.out _ _ hd3 hi3 hb3
      · have i1 : ¬ (q : Int) < (n : Int) := by omega
        have i2 : (n : Int) ≤ (q : Int) := by omega
        rw [if_neg hin] at HS HWr
        have hfin : ∀ w3 S3, DiskAt w3 g lb gm S3 → Inv n (q + 1) S3 → Bw w w3 → (∃ (q' : Nat) (S : Dsk), q' ≤ len1 ∧ q' ≤ 200 ∧ Value.int .i64 ((q : Int) + 1) = .int .i64 (q' : Int) ∧ DiskAt w3 g lb gm S ∧ Inv n q' S ∧ Bw w w3) ∧ 200 - (intOf (.int .i64 ((q : Int) + 1))).toNat < 200 - (intOf (.int .i64 (q : Int))).toNat := fun w3 S3 h1 h2 h3 => ⟨⟨q + 1, S3, hlt.1, hlt.2, rfl, h1, h2, h3⟩, by simp only [intOf]; omega⟩
        replace hfin := (show Hid _ from hfin)
        cases hv : f1 q
        · rw [hv] at hcell
          go_wp2_with (first
            | (go_at_call 22; refine HWr.out.mono ?_; rintro e w3 ⟨rfl, ⟨S3, hd3, hi3⟩, hb3⟩)
            | (go_at_call 13; refine (dead_any hd3).mono ?_; rintro e w4 ⟨rfl, hw⟩; obtain rfl := hw.symm; rw [inv_dead hi3, decide_eq_true (show n < q + 1 by omega)]))
          exact hfin.out _ _ hd3 hi3 hb3
        · rw [hv] at hcell
          go_wp2_with (first
            | (go_at_call 23; refine HS.out.mono ?_; rintro e w3 ⟨rfl, ⟨S3, hd3, hi3⟩, hb3⟩)
            | (go_at_call 13; refine (dead_any hd3).mono ?_; rintro e w4 ⟨rfl, hw⟩; obtain rfl := hw.symm; rw [inv_dead hi3, decide_eq_true (show n < q + 1 by omega)]))
          exact hfin.out _ _ hd3 hi3 hb3
    · have HRs := restart_any hdq none 0 0 (fun _ => 0) (by decide) ⟨Or.inl rfl, fun _ => ⟨show (-9223372036854775808 : Int) ≤ 0 by decide, show (0 : Int) ≤ 9223372036854775807 by decide⟩⟩ (fun b o e h => by cases e)
      by_cases hl : q < len1
      · have q1 : (q : Int) < (len1 : Int) := by omega
        have q2 : ¬ (q : Int) < 200 := by omega
        go_wp2_with (first
          | (go_at_call 17; refine HRs.mono ?_; rintro e w3 ⟨rfl, hd3, hx3⟩; have hb3 : Bw w w3 := Below.trans hb (hx3.below hb.size hge); have HS := sync_ok hd3 rfl (show (-1 : Int) ≠ 0 by decide))
          | (go_at_call 23; refine HS.mono ?_; rintro e w4 ⟨rfl, hd4, hx4⟩; have hb4 : Bw w w4 := Below.trans hb3 (hx4.below hb3.size hge))
          | (go_at_call 13; refine (dead_any hd4).mono ?_; rintro e w5 ⟨he, hw⟩; replace he : e = .returned (.bool false) := he; obtain rfl := he; obtain rfl := hw.symm)
          | (go_at_call 9; refine (wakes14_any _).mono ?_; rintro e w6 ⟨rfl, hw6⟩))
        go_ret
        exact ⟨rfl, hb4.trans hw6⟩
      · have q1 : ¬ (q : Int) < (len1 : Int) := by omega
        go_wp2_with (first
          | (go_at_call 17; refine HRs.mono ?_; rintro e w3 ⟨rfl, hd3, hx3⟩; have hb3 : Bw w w3 := Below.trans hb (hx3.below hb.size hge); have HS := sync_ok hd3 rfl (show (-1 : Int) ≠ 0 by decide))
          | (go_at_call 23; refine HS.mono ?_; rintro e w4 ⟨rfl, hd4, hx4⟩; have hb4 : Bw w w4 := Below.trans hb3 (hx4.below hb3.size hge))
          | (go_at_call 13; refine (dead_any hd4).mono ?_; rintro e w5 ⟨he, hw⟩; replace he : e = .returned (.bool false) := he; obtain rfl := he; obtain rfl := hw.symm)
          | (go_at_call 9; refine (wakes14_any _).mono ?_; rintro e w6 ⟨rfl, hw6⟩))
        go_ret
        exact ⟨rfl, hb4.trans hw6⟩

set_option maxRecDepth 100000 in
theorem lifted (os : Os) (started : os.Started) (H : Type) (enc : TypeId × Value → H) :
    ReturnsInHanded {} Try.checked os 6 .any (Rows.diskFuseSpec.pre6 enc Try.prog Try.f6 Rows.diskFuseRow.domain false) (Rows.diskFuseSpec.post enc Try.prog Try.f6 false true false false) := by
  refine returnsInHanded_of_change_sized (C := Try.checked) own started (by kernel_rfl) Try.func6
    (ChangeSpec.witness6 (enc := enc) (C := Try.checked) false ⟨#[], #[.int .i64 0, .slice none 0 0], []⟩ 8 (by kernel_rfl) (by kernel_rfl) (by kernel_rfl) (by kernel_rfl)) ?_
  intro W base args ds gs before hval0 hW hcnd hsz0 _
  have hval : ∀ (j : Nat) t v, Try.f6.params[j]? = some t → args[j]? = some v → Value.okWide Try.prog W .any base t v := hval0
  have hW' := hW
  obtain ⟨p, q, hA0, hV, rfl, hfz, hnd⟩ := hW
  have hA : DataW.TrodAll enc Try.prog W 0 (fun _ => true) true Try.f6.params.toList args.toList ds p := hA0
  have hsz : (DataW.weightsEach Try.prog (Try.f6.params.toList ++ Rows.diskFuseSpec.plain.varTypes Try.prog) (ds ++ gs)).all (· ≤ reachBytes) = true := hsz0
  rw [Try.params6] at hA hval hsz
  obtain ⟨v0, vs0, d0, ds0, p0, q0, hargs, rfl, rfl, h0, r0⟩ := trodAll_cons hA
  obtain ⟨v1, vs1, d1, ds1, p1, q1, rfl, rfl, rfl, h1, r1⟩ := trodAll_cons r0
  obtain ⟨rfl, rfl, rfl⟩ := trodAll_nil r1
  obtain rfl : args = #[v0, v1] := by cases args; simp_all
  obtain ⟨rfl, rfl⟩ := trodVars_none hV
  obtain ⟨a0, rfl, rfl, rfl, w0⟩ := open_int Try.underlying3 (hval 0 3 v0 rfl rfl) h0
  obtain ⟨a1, len1, cap1, rfl⟩ := okWide_slice Try.underlying52 (hval 1 52 v1 rfl rfl)
  have k1 := h1
  have lt1 : ∀ x ∈ p1, x.block < W.heap.size := by obtain ⟨m, hm⟩ := k1; exact DataW.trod_lt m _ _ _ hm
  obtain ⟨f1, w1⟩ := open_truths h1 (fun x hx => by simpa using List.all_eq_true.1 hsz x (DataW.weights_mem_each (j := 1) (t := 52) rfl rfl x hx))
  clear hA0 hval0
  refine (walk a0 a1 len1 cap1 f1 W w0 w1).mono fun e W' ⟨he, bel⟩ => ?_
  subst he
  exact ⟨_, rfl, _, _, _, [], _, [], hW', trodAll_mk1 (shut_bool Try.underlying4 _), (trodAll_cons_mk (shut_int Try.underlying3 w0) (trodAll_cons_mk (Below.trod laidOut (by kernel_rfl) (of_decide_eq_true (by kernel_rfl)) k1 bel lt1) trodAll_mk0)), rfl, bel.frame _, fun h => by cases h⟩

theorem over : Rows.diskFuseRow.holds Try.pinned (OpenSpec.ofChange Rows.diskFuseSpec) :=
  OpenClaim.holds_of_wide 6 Try.f6 rfl rfl rfl rfl rfl rfl rfl ⟨rfl, rfl, rfl, rfl, rfl⟩ rfl rfl rfl rfl rfl (by kernel_rfl) Try.func6 (by kernel_rfl)
    (of_decide_eq_true (by kernel_rfl)) (by unfold Func.isWrapper; first | (rw [if_pos (by decide +kernel)]; kernel_rfl) | (rw [if_neg (by decide +kernel)]; exact ⟨rfl, rfl⟩))
    (fun os started H enc _ => lifted os started H enc)

theorem proved : Rows.DiskFuseSaid := over
#print axioms proved
end Go.Proofs.Ytmmpignjihbbpaa.diskFuse
