/- The document's own Check, of layer 11. -/
import Derived.Test.YtjifdoneejofiaaU5
namespace Go.Proofs.Ytjifdoneejofiaa
open Go.RowKit Go.Deep
set_option linter.unusedVariables false
set_option linter.unusedSimpArgs false

theorem keep_two11 {w w' : World} {a b : Addr} {u v : Value} (h : w.cell? a = some u ∧ w.cell? b = some v) (g : Bw w w') : w'.cell? a = some u ∧ w'.cell? b = some v :=
  ⟨(g.cell (p := a) (block_lt_of_cell h.1)).trans h.1, (g.cell (p := b) (block_lt_of_cell h.2)).trans h.2⟩
theorem keep_S11 {w1 w w' : World} {a b : Addr} {u v : Value} (h : w.cell? a = some u ∧ w.cell? b = some v ∧ Bw w1 w) (g : Bw w w') : w'.cell? a = some u ∧ w'.cell? b = some v ∧ Bw w1 w' :=
  ⟨(g.cell (p := a) (block_lt_of_cell h.1)).trans h.1, (g.cell (p := b) (block_lt_of_cell h.2.1)).trans h.2.1, h.2.2.trans g⟩
theorem keep_cell11 {w w' : World} {a : Addr} {u : Value} (h : w.cell? a = some u) (g : Bw w w') : w'.cell? a = some u :=
  (g.cell (p := a) (block_lt_of_cell h)).trans h
theorem Tr.step_is (pre : List Tr.It) (x : Tr.It) : Tr.stepE pre x = if Tr.mayE x ≠ 0 then Tr.mayE x else if Tr.behind pre x = false then 111 else if Nm.up x.path ≠ [] ∧ Tr.hasB pre (Nm.up x.path) 2 = false then 112 else if x.kind = 3 ∧ Tr.hasB pre x.to 1 = false then 113 else 0 := rfl
theorem Tr.fit_in {w : World} {A : Option Addr} {L : List Tr.Iv} (h : ItsAt w A L) {i : Nat} {y : Tr.Iv} (hy : L[i]? = some y) : Tr.Fit y.it := (h.body y (List.mem_of_getElem? hy)).fit

set_option maxRecDepth 100000 in
set_option maxHeartbeats 8000000 in
theorem rcheck11_any (A : Option Addr) (cap : Nat) (L : List Tr.Iv) (hn : L.length ≤ 4611686018427387904) (hcap : L.length ≤ cap) (w : World) (ha : ItsAt w A L) :
    Calls Try.prog 11 #[.slice A L.length cap] w fun e w' => e = .returned (.tuple #[.int .i64 ((Tr.chkE (Tr.its L)).1 : Int), .int .i64 (Tr.chkE (Tr.its L)).2]) ∧ Bw w w' := by
  obtain ⟨rA, rE, hR⟩ : ∃ a b, Hid (Tr.chkE (Tr.its L) = (a, b)) := ⟨_, _, show Tr.chkE (Tr.its L) = _ from rfl⟩
  rw [hR.out]
  dsimp only
  obtain ⟨n, hnn⟩ : ∃ n, Hid (L.length = n) := ⟨_, rfl⟩
  rw [hnn.out] at hn hcap ⊢
  have HA : Hid (ItsAt w A L) := ha
  clear ha
  by_cases h256 : 256 < n
  · have hr := hR.out
    rw [Tr.chk_long (by rw [Tr.its_len, hnn.out]; exact h256), Prod.mk.injEq] at hr
    obtain ⟨rfl, rfl⟩ := hr
    have t1 : (256 : Int) < (n : Int) := by omega
    clear h256
    go_enter Try.func11, Try.ntmps11
    go_wp2
    go_ret2
    exact ⟨rfl, Bw.refl _⟩
  · have t1 : ¬ (256 : Int) < (n : Int) := by omega
    have HL : Hid ((Tr.its L).length ≤ 256) := by show _ ≤ _; rw [Tr.its_len, hnn.out]; omega
    clear h256
    go_enter Try.func11, Try.ntmps11
    go_wp2
    go_loopw [4] (fun i wr => ∃ k : Nat, k ≤ n ∧ i = .int .i64 (k : Int) ∧ Hid (Tr.Okto (Tr.its L) k) ∧ Bw w wr) (fun i _ => n - (intOf i).toNat)
    case atStart => exact ⟨0, Nat.zero_le _, rfl, Tr.okto_zero _, Bw.refl _⟩
    case round =>
      obtain ⟨i, hi, rfl, hok, hbw⟩ := hrel
      have i0 : (0 : Int) ≤ (i : Int) := Int.natCast_nonneg _
      by_cases hlt : i < n
      · have i1 : (i : Int) < (n : Int) := by omega
        obtain ⟨y, hy⟩ : ∃ y, Hid (L[i]? = some y) := ⟨_, List.getElem?_eq_getElem (by rw [hnn.out]; exact hlt)⟩
        have HI := Tr.its_at hy.out
        have HIy : Hid ((Tr.its L)[i]? = some y.it) := HI
        clear HI
        have HFit : Hid (Tr.Fit y.it) := Tr.fit_in HA.out hy.out
        obtain ⟨b, off, rfl, hY, -⟩ := (HA.out.keep hbw).at hy.out
        have HY : Hid (ItAt wr b (off + i * 6) y) := hY
        clear hY
        obtain ⟨em, hem⟩ : ∃ em, Hid (Tr.mayE y.it = em) := ⟨_, rfl⟩
        have HMay : Hid (∀ u, Calls Try.prog 13 #[.agg y.arr] u fun e w' => e = .returned (.int .i64 em) ∧ Bw u w') := fun u => by
          rw [← hem.out]; exact rmay_any y HFit.out u
        have hstep := Tr.step_is ((Tr.its L).take i) y.it
        rw [hem.out] at hstep
        have bad : ∀ er, Tr.stepE ((Tr.its L).take i) y.it = er → er ≠ 0 → rA = i ∧ rE = er := fun er h h0 => by
          have hr := hR.out
          rw [Tr.chk_bad HL.out hok.out HIy.out (by rw [h]; exact h0), h, Prod.mk.injEq] at hr
          exact ⟨hr.1.symm, hr.2.symm⟩
        have BAD : Hid (∀ er, Tr.stepE ((Tr.its L).take i) y.it = er → er ≠ 0 → rA = i ∧ rE = er) := bad
        clear bad
        by_cases h0 : em = 0
        · subst h0
          rw [if_neg (by simp)] at hstep
          obtain ⟨bh, hbh⟩ : ∃ r, Hid (Tr.behind ((Tr.its L).take i) y.it = r) := ⟨_, rfl⟩
          obtain ⟨up, hup⟩ : ∃ r, Hid (Nm.up y.it.path = r) := ⟨_, rfl⟩
          obtain ⟨b2, hb2⟩ : ∃ r, Hid (Tr.hasB ((Tr.its L).take i) up 2 = r) := ⟨_, rfl⟩
          obtain ⟨b1, hb1⟩ : ∃ r, Hid (Tr.hasB ((Tr.its L).take i) y.it.to 1 = r) := ⟨_, rfl⟩
          rw [hbh.out, hup.out, hb2.out, hb1.out] at hstep
          have HST : Hid _ := hstep
          clear hstep
          have hpl := (Tr.may_len hem.out).1
          have HUp : Hid (∀ u, Calls Try.prog 32 #[.string (Nm.S y.it.path)] u fun e w' => e = .returned (.string (Nm.S up)) ∧ Bw u w') := fun u => by
            rw [← hup.out]; exact rupL y.it.path (by omega) u
          have hlen : (L.take i).length = i := by rw [List.length_take, hnn.out]; omega
          have H2 : Hid (∀ u, Bw w u → Calls Try.prog 33 #[.slice (some ⟨b, off, none⟩) i cap, .string (Nm.S up), .int .u8 2] u fun e w' => e = .returned (.bool b2) ∧ w' = u) := fun u hu => by
            have := rhas_any (some ⟨b, off, none⟩) cap (L.take i) up 2 (by rw [hlen]; omega) (by decide) u ((HA.out.keep hu).take i)
            rwa [hlen, Tr.its_take, hb2.out] at this
          have H1 : Hid (∀ u, Bw w u → Calls Try.prog 33 #[.slice (some ⟨b, off, none⟩) i cap, .string (Nm.S y.it.to), .int .u8 1] u fun e w' => e = .returned (.bool b1) ∧ w' = u) := fun u hu => by
            have := rhas_any (some ⟨b, off, none⟩) cap (L.take i) y.it.to 1 (by rw [hlen]; omega) (by decide) u ((HA.out.keep hu).take i)
            rwa [hlen, Tr.its_take, hb1.out] at this
          clear hlen
          have hicap : (i : Int) ≤ (cap : Int) := by omega
          go_upto_region 9 with (first
            | refine wpList_load_it (by rfl) (.tmp 18) rfl b (off + i * 6) rfl y HY.out ?_
            | (go_at_call 13; refine (HMay.out _).mono ?_; rintro e w1 ⟨rfl, hw1⟩; have hbw1 := hbw.trans hw1))
          go_cut [41] from 25 to 41 (fun v wc => v = .bool (!bh) ∧ Bw w1 wc)
          case first =>
            rcases Nat.eq_zero_or_pos i with hi0 | hip
            · subst hi0
              obtain rfl : bh = true := hbh.out.symm.trans rfl
              go_quiet (fail)
              go_wp2_with fail
              go_meet
              case rel => exact ⟨rfl, Bw.drewN _ _⟩
            · obtain ⟨q, rfl⟩ : ∃ q, i = q + 1 := ⟨i - 1, by omega⟩
              obtain ⟨z, hz⟩ : ∃ z, Hid (L[q]? = some z) := ⟨_, List.getElem?_eq_getElem (by rw [hnn.out]; omega)⟩
              have hzm : Tr.mayE z.it = 0 := Tr.step_may (hok.out q z.it (by omega) (Tr.its_at hz.out))
              have hzl := (Tr.may_len hzm).1
              have hbv := hbh.out
              rw [Tr.behind_take (Tr.its_at hz.out)] at hbv
              obtain ⟨cv, hcv⟩ : ∃ r, Hid (Nm.cmp z.it.path y.it.path = r) := ⟨_, rfl⟩
              rw [hcv.out] at hbv
              have hcm : Hid (∀ u, Calls Try.prog 31 #[.string (Nm.S z.it.path), .string (Nm.S y.it.path)] u fun e w' => e = .returned (.int .i64 cv) ∧ Bw u w') := fun u => by
                rw [← hcv.out]; exact rcompareL z.it.path y.it.path (by omega) (by omega) u
              have hne : (cv != -1) = !bh := by
                rw [← hbv]
                by_cases h : cv = -1
                · subst h; rfl
                · rw [decide_eq_false h]; simp [h]
              obtain ⟨b', off', e', hZ, -⟩ := (HA.out.keep hbw1).at hz.out
              cases e'
              have c1 := hZ.c0
              have c2 := (HY.out.keep hw1).c0
              clear hZ hbv
              have r0 : (0 : Int) ≤ (q : Int) := Int.natCast_nonneg _
              have r1 : (q : Int) < (n : Int) := by omega
              have r2 : (0 : Int) ≤ (q : Int) + 1 := by omega
              have r3 : (q : Int) + 1 < (n : Int) := by omega
              have r4 : IntKind.i64.wrap (((q + 1 : Nat) : Int) - 1) = (q : Int) := by rw [IntKind.wrap_i64]; omega
              have r5 : IntKind.i64.wrap (q : Int) = (q : Int) := by rw [IntKind.wrap_i64]; omega
              go_region_held3 (fun w' => w'.cell? ⟨b, off + q * 6, none⟩ = some (.string (Nm.S z.it.path)) ∧ w'.cell? ⟨b, off + (q + 1) * 6, none⟩ = some (.string (Nm.S y.it.path)) ∧ Bw w1 w')
                (first | exact ⟨c1, c2, Below.drew (Bw.refl _)⟩ | assumption | exact keep_S11 (by assumption) (by assumption))
                (first | (go_at_call 31; refine (hcm.out _).mono ?_; rintro e w2 ⟨rfl, hw2⟩))
              rename_i hSe
              have hSw := hSe.2.2
              go_wp2_with fail
              go_meet
              case rel => exact ⟨by first | rfl | rw [hne], hSw⟩
          case rest =>
            obtain ⟨rfl, hwc⟩ := hcut
            have hbc := hbw1.trans hwc
            have c0 := ((HY.out.keep hw1).keep hwc).c0
            clear hwc
            cases bh with
            | false =>
              obtain ⟨rfl, rfl⟩ := BAD.out 111 HST.out (by decide)
              go_wp2
              go_ret2
              exact ⟨rfl, hbc⟩
            | true =>
            have hst2 := HST.out
            rw [if_neg (by decide)] at hst2
            have HST2 : Hid _ := hst2
            clear hst2 HST
            go_upto_region 12 with (go_at_call 32; refine (HUp.out _).mono ?_; rintro e w3 ⟨rfl, hw3⟩; have hb3 := hbc.trans hw3)
            go_cut [58] from 49 to 58 (fun v wx => v = .bool (decide (up ≠ []) && !b2) ∧ Bw w wx)
            case first =>
              by_cases hu : up = []
              · have q1 : ((Nm.S up).toList == []) = true := by rw [Nm.toList_S, hu]; rfl
                have q2 : Hid ((decide (up ≠ []) && !b2) = false) := by show _ = _; rw [decide_eq_false (by simp [hu])]; rfl
                clear hu
                go_wp2_with fail
                go_meet
                case rel => exact ⟨by rw [q2.out], hb3⟩
              · have q1 : ((Nm.S up).toList == []) = false := by rw [Nm.toList_S, beq_eq_false_iff_ne]; exact hu
                have q2 : Hid ((decide (up ≠ []) && !b2) = !b2) := by show _ = _; rw [decide_eq_true hu]; rfl
                clear hu
                go_wp2_with (go_at_call 33; refine (H2.out _ hb3).mono ?_; rintro e w4 ⟨rfl, rfl⟩)
                go_meet
                case rel => exact ⟨by rw [q2.out], hb3⟩
            case rest =>
              obtain ⟨rfl, hbd⟩ := hcut
              obtain ⟨bP, hP⟩ : ∃ r, Hid ((decide (up ≠ []) && !b2) = r) := ⟨_, rfl⟩
              rw [hP.out]
              have hYc := HA.out.keep hbd
              obtain ⟨b', off', e', hYd, -⟩ := hYc.at hy.out
              cases e'
              have k1 := hYd.c1
              have k5 := hYd.c5
              clear hYc hYd c0
              cases bP with
              | true =>
                have hu : up ≠ [] ∧ b2 = false := by
                  have := hP.out
                  rw [Bool.and_eq_true, decide_eq_true_eq] at this
                  exact ⟨this.1, by simpa using this.2⟩
                obtain ⟨rfl, rfl⟩ := BAD.out 112 (by rw [HST2.out, if_pos hu]) (by decide)
                clear hu
                go_wp2
                go_ret2
                exact ⟨rfl, hbd⟩
              | false =>
              have hst3 := HST2.out
              rw [if_neg (fun h => by
                have := hP.out
                rw [decide_eq_true h.1, h.2] at this
                cases this)] at hst3
              have HST3 : Hid _ := hst3
              clear hst3 HST2
              go_upto_region 14 with fail
              go_cut [77] from 60 to 77 (fun v wx => v = .bool (decide (y.it.kind = 3) && !b1) ∧ Bw w wx)
              case first =>
                by_cases hk : y.it.kind = 3
                · have q1 : ((y.it.kind : Int) == 3) = true := by rw [hk]; rfl
                  have q2 : Hid ((decide (y.it.kind = 3) && !b1) = !b1) := by show _ = _; rw [decide_eq_true hk]; rfl
                  clear hk
                  go_region_held3 (fun w' => w'.cell? ⟨b, off + i * 6 + 1, none⟩ = some (.int .u8 (y.it.kind : Int)) ∧ w'.cell? ⟨b, off + i * 6 + 5, none⟩ = some (.string (Nm.S y.it.to)) ∧ Bw wc w')
                    (first | exact ⟨k1, k5, Below.drew (Bw.refl _)⟩ | assumption | exact keep_S11 (by assumption) (by assumption))
                    (first | (go_at_call 33; refine (H1.out _ (by first | exact hbd.trans (by assumption) | exact hbd.trans (And.right (And.right (by assumption))))).mono ?_; rintro e w5 ⟨rfl, rfl⟩))
                  rename_i hSe
                  have hSw := hSe.2.2
                  go_wp2_with fail
                  go_meet
                  case rel => exact ⟨by rw [q2.out], hbd.trans hSw⟩
                · have q1 : ((y.it.kind : Int) == 3) = false := by rw [beq_eq_false_iff_ne]; omega
                  have q2 : Hid ((decide (y.it.kind = 3) && !b1) = false) := by show _ = _; rw [decide_eq_false hk]; rfl
                  clear hk
                  go_quiet (fail)
                  go_wp2_with fail
                  go_meet
                  case rel => exact ⟨by rw [q2.out], hbd.trans (Bw.drewN _ _)⟩
              case rest =>
                obtain ⟨rfl, hbe⟩ := hcut
                obtain ⟨bH, hH⟩ : ∃ r, Hid ((decide (y.it.kind = 3) && !b1) = r) := ⟨_, rfl⟩
                rw [hH.out]
                cases bH with
                | true =>
                  have hu : y.it.kind = 3 ∧ b1 = false := by
                    have := hH.out
                    rw [Bool.and_eq_true, decide_eq_true_eq] at this
                    exact ⟨this.1, by simpa using this.2⟩
                  obtain ⟨rfl, rfl⟩ := BAD.out 113 (by rw [HST3.out, if_pos hu]) (by decide)
                  clear hu
                  go_wp2
                  go_ret2
                  exact ⟨rfl, hbe⟩
                | false =>
                  have nx : Hid (Tr.Okto (Tr.its L) (i + 1)) := Tr.okto_succ hok.out HIy.out (by
                    rw [HST3.out, if_neg (fun h => by
                      have := hH.out
                      rw [decide_eq_true h.1, h.2] at this
                      cases this)])
                  go_wp2
                  go_roundw
                  case rel => exact ⟨i + 1, by omega, by go_num, nx, hbe⟩
                  case measure => simp [intOf]; omega
        · rw [if_pos h0] at hstep
          obtain ⟨rfl, rfl⟩ := BAD.out em hstep h0
          have q1 : (rE != 0) = true := Tr.i_no h0
          clear h0 hstep
          go_wp2_with (first
            | refine wpList_load_it (by rfl) (.tmp 18) rfl b _ rfl y HY.out ?_
            | (go_at_call 13; refine (HMay.out _).mono ?_; rintro e w1 ⟨rfl, hw1⟩))
          go_ret2
          exact ⟨rfl, hbw.trans hw1⟩
      · have ei : i = n := by omega
        subst ei
        have hr := hR.out
        rw [Tr.chk_good HL.out (Tr.okto_all (by rw [Tr.its_len, hnn.out]; exact hok.out)), Prod.mk.injEq] at hr
        obtain ⟨rfl, rfl⟩ := hr
        go_wp2
        go_ret2
        exact ⟨rfl, hbw⟩
end Go.Proofs.Ytjifdoneejofiaa
