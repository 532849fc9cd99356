/- Proved: for every list of acts, of a writer or of none, the statement PackAdds answers true (the document's P12.5 and P12.8: every Add, Len and Close of a writer, of a nil one, too; what is handed in is left as it was, and not kept). -/
import Derived.Test.YtldkhbkgmiicbaaGreatDoorBu48
import Derived.Test.YtldkhbkgmiicbaaGreatDoorCards
import Derived.Test.YtldkhbkgmiicbaaGreatDoorTie
import Derived.ShutString
import Derived.ChangeOld
import Derived.SevenTiedAt
namespace Go.Proofs.YtldkhbkgmiicbaaGreatDoor.packAdds
open Go.ChangeShapes Go.WideShapes Go.ChangeAt Go.RowKit Go.Deep
set_option linter.unusedVariables false

open Go.Deep
set_option linter.unusedSimpArgs false
set_option maxRecDepth 100000 in
set_option maxHeartbeats 4000000 in
theorem walk (a0 : Option Addr) (len0 cap0 : Nat) (X0 : Nat → Int × Tr.Iv) (a1 : Bool) (w : World) (hk : KTAt w) (w0 : InActs12 w a0 len0 cap0 X0) :
    Calls Tryz.prog 5 #[.slice a0 len0 cap0, .bool a1] w fun e w' => e = .returned (.bool true) ∧ Below w.heap.size w w' := by
  have HA : Hid (InActs12 w a0 len0 cap0 X0) := w0
  have HK : Hid (KTAt w) := hk
  have hle := w0.le
  have hroom := w0.room
  clear w0 hk
  have HLent : Hid (∀ (u : World) (z : Nat) (y : Tr.Iv), BoxAt u z y → BodyAt u y → Calls Tryz.prog 8 #[.slice (some ⟨z, 0, none⟩) 1 1] u fun e w' => ∃ g c y', e = .returned (.slice (some ⟨g, 0, none⟩) 1 c) ∧ y'.it = y.it ∧ Hid (LentAt w' g c [y']) ∧ u.heap.size ≤ g ∧ Hid (∀ b o, y'.ad = some ⟨b, o, none⟩ → u.heap.size ≤ b) ∧ Hid (Bw u w')) := fun u z y hx hy => by
    refine (lentf12_any (some ⟨z, 0, none⟩) 1 [y] (by show (1 + 1) * 80 ≤ 140737488355328; decide) u (its_one hx hy)).mono ?_
    rintro e w' ⟨g, c, M, h1, h2, h3, h4, h5, h6⟩
    obtain ⟨y', rfl, he⟩ := one_of12 h2
    exact ⟨g, c, y', h1, he, h3, h4, h5 y' (List.mem_singleton.2 rfl), h6⟩
  have HKept : Hid (∀ (u : World) (g c z : Nat) (y' y : Tr.Iv), LentAt u g c [y'] → y'.it = y.it → BoxAt u z y → BodyAt u y → Calls Tryz.prog 13 #[.slice (some ⟨g, 0, none⟩) 1 c, .slice (some ⟨z, 0, none⟩) 1 1] u fun e w' => e = .returned (.bool true) ∧ Hid (Bw u w')) := fun u g c z y' y h1 h2 h3 h4 => kept12_any g c 1 (some ⟨z, 0, none⟩) [y'] [y] (by show 1 ≤ 4611686018427387904; decide) (by show [y'.it] = [y.it]; rw [h2]) u h1 (its_one h3 h4)
  have HSame : Hid (∀ (A C : Option Addr) (ca cb n : Nat) (f : Nat → Int) (u : World), n ≤ 131072 → RowAt u A n f → RowAt u C n f → Calls Tryz.prog 12 #[.slice A n ca, .slice C n cb] u fun e w' => e = .returned (.bool true) ∧ Hid (Bw u w')) := fun A C ca cb n f u hn h1 h2 => by
    refine (same12_any A C n n ca cb f f (by omega) (by omega) u h1 h2).mono fun e w' ⟨ht, q, hq⟩ => ⟨?_, bw_of_drew hq⟩
    obtain ⟨x, rfl, hx⟩ := ht
    rw [hx.2 ⟨rfl, fun _ _ => rfl⟩]
  obtain ⟨base, hbs⟩ : ∃ b, Hid (w.heap.size = b) := ⟨_, rfl⟩
  have hbr := built_rw12
  cases a1
  · have HST : Hid (Stt base (.pointer (some ⟨w.heap.size, 0, none⟩)) (.pointer (some ⟨w.heap.size + 1, 0, none⟩)) (fun b => base ≤ b ∧ b < ((w.alloc (.cells #[.slice none 0 0, .int .i64 0, .slice none 0 0, .bool false] 78)).alloc (.cells #[.slice none 0 0, .bool false] 44)).heap.size) ((w.alloc (.cells #[.slice none 0 0, .int .i64 0, .slice none 0 0, .bool false] 78)).alloc (.cells #[.slice none 0 0, .bool false] 44))) := by rw [← hbs.out]; exact stt_start w
    have HB0 : Hid (Bw w ((w.alloc (.cells #[.slice none 0 0, .int .i64 0, .slice none 0 0, .bool false] 78)).alloc (.cells #[.slice none 0 0, .bool false] 44))) := bw_alloc11 (bw_alloc11 (Bw.refl _) _) _
    go_enter Tryz.func5, Tryz.ntmps5
    go_upto_region 8 with (first
      | (go_at_call 15; refine (wnew_any _).mono ?_; rintro e w1 ⟨rfl, hw⟩; obtain rfl := hw.symm)
      | refine wpList_built11 rfl 44 _ rfl _ hbr ?_)
    obtain ⟨W2, hW2⟩ : ∃ V, Hid ((w.alloc (.cells #[.slice none 0 0, .int .i64 0, .slice none 0 0, .bool false] 78)).alloc (.cells #[.slice none 0 0, .bool false] 44) = V) := ⟨_, rfl⟩
    rw [hW2.out] at HST HB0 ⊢
    obtain ⟨g, hg⟩ : ∃ g, Hid (w.heap.size = g) := ⟨_, rfl⟩
    obtain ⟨gx, hgx⟩ : ∃ g, Hid (w.heap.size + 1 = g) := ⟨_, rfl⟩
    rw [hgx.out, hg.out] at HST ⊢
    go_wp2
    go_loopw [7] (fun i wr => ∃ k : Nat, k ≤ len0 ∧ i = .int .i64 (k : Int) ∧ Hid (Bw w wr) ∧ Hid (Stt base (.pointer (some ⟨g, 0, none⟩)) (.pointer (some ⟨gx, 0, none⟩)) (fun b => base ≤ b ∧ b < wr.heap.size) wr)) (fun i _ => len0 - (intOf i).toNat)
    case atStart => exact ⟨0, Nat.zero_le _, rfl, HB0.out, HST.out⟩
    case round =>
      obtain ⟨k, hk, rfl, hbw, hst⟩ := hrel
      clear HST HB0
      have k0 : (0 : Int) ≤ (k : Int) := Int.natCast_nonneg _
      have hkb : (k : Int) ≤ 140737488351232 := by omega
      by_cases hlt : k < len0
      · have i1 : (k : Int) < (len0 : Int) := by omega
        by_cases h40 : k < 40
        · have i2 : (k : Int) < 40 := by omega
          obtain ⟨b, off, rfl, hit⟩ := acts12_at HA.out hlt
          obtain ⟨kd, hkd⟩ : ∃ z, Hid ((X0 k).1 = z) := ⟨_, rfl⟩
          obtain ⟨y, hy⟩ : ∃ z, Hid ((X0 k).2 = z) := ⟨_, rfl⟩
          have HIT : Hid (∀ W, Bw w W → ItAt W b (off + k * 7 + 1) y ∧ W.cell? ⟨b, off + k * 7, none⟩ = some (.int .i64 kd) ∧ BodyAt W y) := by rw [← hkd.out, ← hy.out]; exact hit
          have ck := (HIT.out wr hbw.out).2.1
          clear hit hy hkd h40
          by_cases q0 : kd = 0
          · subst q0
            go_wp2_with (first
              | (refine wpList_load_it (by rfl) (.tmp 47) rfl b (off + k * 7 + 1) rfl y (HIT.out wr hbw.out).1 ?_)
              | (refine wpList_build_itw (by rfl) (.tmp 48) rfl y rfl ?_; obtain ⟨wa, hwa⟩ : ∃ V, V = wr.alloc (.cells y.arr 47) := ⟨_, rfl⟩; have hba : Bw wr wa := (by rw [hwa]; exact bw_alloc11 (Bw.refl _) _); have hXa : Hid (BoxAt wa wr.heap.size y) := (by rw [hwa]; exact BoxAt.new _ _); rw [← hwa]; clear hwa)
              | (go_at_call 8; refine (HLent.out wa wr.heap.size y hXa.out ((HIT.out wr hbw.out).2.2.keep hba)).mono ?_; rintro e wb ⟨g1, c1, y', rfl, he', hl1, hg1, hf1, hb1⟩; have hbb : Bw wr wb := hba.trans hb1.out; have hI1 : Hid (ItAt wb g1 0 y') := (lent_it12 hl1.out); obtain ⟨E, HAd⟩ := act_add hst.out hbs.out hbw.out HK.out y y' (HIT.out w (Bw.refl _)).2.2 hbb hl1.out he' (Nat.le_trans hba.size hg1) (fun b o e => Nat.le_trans hba.size (hf1.out b o e)); have eE : (E != E) = false := bne_self_eq_false E)
              | (refine wpList_load_it (by rfl) (.tmp 53) rfl g1 0 rfl y' hI1.out ?_)
              | (go_at_call 16; refine HAd.out.mono ?_; rintro e wc ⟨rfl, hbc, HDd⟩; clear HAd)
              | (refine wpList_load_it (by rfl) (.tmp 60) rfl b (off + k * 7 + 1) rfl y (HIT.out wc hbc).1 ?_)
              | (go_at_call 17; refine (HDd.out _ (Bw.refl _)).mono ?_; rintro e wd ⟨rfl, hac⟩; clear HDd)
              | (refine wpList_load_it (by rfl) (.tmp 71) rfl b (off + k * 7 + 1) rfl y (HIT.out wd hac.out.bw).1 ?_)
              | (refine wpList_build_itw (by rfl) (.tmp 72) rfl y rfl ?_; obtain ⟨we, hwe⟩ : ∃ V, V = wd.alloc (.cells y.arr 47) := ⟨_, rfl⟩; have hbe : Bw wd we := (by rw [hwe]; exact bw_alloc11 (Bw.refl _) _); have hXe : Hid (BoxAt we wd.heap.size y) := (by rw [hwe]; exact BoxAt.new _ _); rw [← hwe]; clear hwe)
              | (go_at_call 13; refine (HKept.out we g1 c1 wd.heap.size y' y (hac.out.lent.keep hbe) he' hXe.out ((HIT.out wd hac.out.bw).2.2.keep hbe)).mono ?_; rintro e wf ⟨rfl, hbf⟩))
            have HC2 : Hid (Act2 base (.pointer (some ⟨g, 0, none⟩)) (.pointer (some ⟨gx, 0, none⟩)) w wr.heap.size wb g1 c1 y' wf) := hac.out.keep (hbe.trans hbf.out)
            obtain ⟨gb, had, hown, hcp⟩ := HC2.out.lent.marks y' (List.mem_singleton.2 rfl)
            have HAd' : Hid (y'.ad = some ⟨gb, 0, none⟩) := had
            obtain ⟨ln, hln⟩ : ∃ q, Hid (y'.it.body.length = q) := ⟨_, rfl⟩
            have hlnb : ln ≤ 140737488351232 := by rw [← hln.out]; exact hcp.2.body
            have HOw : Hid (∃ F, Own wf gb (ln + 1) F) := ⟨_, by rw [← hln.out]; exact hown⟩
            have HEnd : Hid (∀ ws, Bx (fun b => b = gb) wf ws → Bw w ws ∧ ItAt ws g1 0 y' ∧ Stt base (.pointer (some ⟨g, 0, none⟩)) (.pointer (some ⟨gx, 0, none⟩)) (fun b => base ≤ b ∧ b < ws.heap.size) ws) := fun ws x => by
              have hgl : wr.heap.size ≤ gb := Nat.le_trans hba.size (hf1.out gb 0 had)
              obtain ⟨gb2, had2, hown2, _⟩ := hl1.out.marks y' (List.mem_singleton.2 rfl)
              have hgu : gb < wb.heap.size := by
                rw [had] at had2; cases had2; exact hown2.lt
              obtain ⟨q1, q2, q3⟩ := act2_set HC2.out hbs.out (by rw [← hbs.out]; exact hbw.out.size) had hgl hgu (lent_ne12 HC2.out.lent had) x
              exact ⟨q1, q2, q3.any⟩
            clear had hown hcp hac hXe hXa hI1 hl1 hf1 hb1 hbf hbe hba hbc hbb he' HC2 eE
            go_loopw [11] (fun j ws => ∃ q : Nat, q ≤ ln ∧ j = .int .i64 (q : Int) ∧ Hid (∃ F, Own ws gb (ln + 1) F) ∧ Hid (Bx (fun b => b = gb) wf ws)) (fun j _ => ln - (intOf j).toNat)
            case atStart => exact ⟨0, Nat.zero_le _, rfl, HOw.out, Bx.refl _ _⟩
            case round =>
              obtain ⟨q, hq, rfl, hF, hx⟩ := hrel
              have q0 : (0 : Int) ≤ (q : Int) := Int.natCast_nonneg _
              have hqb : (q : Int) ≤ 140737488351232 := by omega
              obtain ⟨hE1, hE2, hE3⟩ := HEnd.out wr hx.out
              have c4 := hE2.c4
              rw [HAd'.out, hln.out] at c4
              simp only [Nat.zero_add] at c4
              have HE13 : Hid (Bw w wr ∧ Stt base (.pointer (some ⟨g, 0, none⟩)) (.pointer (some ⟨gx, 0, none⟩)) (fun b => base ≤ b ∧ b < wr.heap.size) wr) := ⟨hE1, hE3⟩
              clear hE1 hE2 hE3
              by_cases hql : q < ln
              · have j1 : (q : Int) < (ln : Int) := by omega
                obtain ⟨F, hF⟩ := hF.out
                have HFF : Hid (Own wr gb (ln + 1) F) := hF
                obtain ⟨cq, fq⟩ := hF.cell (c := q) (by omega)
                clear hF
                go_wp2
                go_roundw
                case rel => exact ⟨q + 1, by omega, by go_num, ⟨fun c => if c = q then 255 else F c, Own.set HFF.out (by omega) (if_pos rfl) (fun c _ hc => if_neg hc)⟩, Bx.put hx.out rfl⟩
                case measure => simp [intOf]; omega
              · have j1 : ¬ (q : Int) < (ln : Int) := by omega
                clear hF
                go_wp2
                go_roundw
                case rel => exact ⟨k + 1, by omega, by go_num, HE13.out.1, HE13.out.2⟩
                case measure => simp [intOf]; omega
          have e0 : (kd == 0) = false := by rw [beq_eq_false_iff_ne]; exact q0
          by_cases q1 : kd = 1
          · clear e0 q0
            subst q1
            obtain ⟨nl, HL1⟩ := lens_any hst.out
            have en : (nl != nl) = false := bne_self_eq_false nl
            go_wp2_with (first
              | (go_at_call 18; refine HL1.out.mono ?_; rintro e wc ⟨rfl, hw, HD⟩; obtain rfl := hw.symm; clear HL1)
              | (go_at_call 19; refine (HD.out _ (Bw.refl _)).mono ?_; rintro e wd ⟨rfl, hbd⟩; clear HD))
            go_roundw
            case rel => exact ⟨k + 1, by omega, by go_num, hbw.out.trans hbd, (hst.out.keep hbd).any⟩
            case measure => simp [intOf]; omega
          have e1 : (kd == 1) = false := by rw [beq_eq_false_iff_ne]; exact q1
          by_cases q2 : kd = 2
          · clear e0 e1 q0 q1
            subst q2
            obtain ⟨E, n, f, hn, HC⟩ := closes_any hst.out
            have eE : (E != E) = false := bne_self_eq_false E
            go_wp2_with (first
              | (go_at_call 20; refine HC.out.mono ?_; rintro e wc ⟨A1, c1, rfl, hr1, hx1, HD⟩; clear HC)
              | (go_at_call 21; refine (HD.out _ (Bw.refl _)).mono ?_; rintro e wd ⟨A2, c2, rfl, hr2, hr3, hx2, hs2⟩; clear HD)
              | (go_at_call 12; refine (HSame.out A1 A2 c1 c2 n f _ hn hr2 hr3).mono ?_; rintro e we ⟨rfl, hbe⟩))
            go_roundw
            case rel => exact ⟨k + 1, by omega, by go_num, (bw_of_bx12 hbs.out (bw_of_bx12 hbs.out hbw.out hx1.out (fun b e => e.1)) hx2.out (fun b e => e.1)).trans hbe.out, (hs2.out.keep hbe.out).any⟩
            case measure => simp [intOf]; omega
          have e2 : (kd == 2) = false := by rw [beq_eq_false_iff_ne]; exact q2
          clear q0 q1 q2
          go_wp2
          go_roundw
          case rel => exact ⟨k + 1, by omega, by go_num, hbw.out, hst.out⟩
          case measure => simp [intOf]; omega
        · have i2 : ¬ (k : Int) < 40 := by omega
          obtain ⟨E, n, f, hn, HC⟩ := closes_any hst.out
          have eE : (E == E) = true := beq_self_eq_true E
          go_wp2_with (first
            | (go_at_call 20; refine HC.out.mono ?_; rintro e wc ⟨A1, c1, rfl, hr1, hx1, HD⟩; clear HC)
            | (go_at_call 21; refine (HD.out _ (Bw.refl _)).mono ?_; rintro e wd ⟨A2, c2, rfl, hr2, hr3, hx2, hs2⟩; clear HD)
            | (go_at_call 12; refine (HSame.out A1 A2 c1 c2 n f _ hn hr2 hr3).mono ?_; rintro e we ⟨rfl, hbe⟩))
          go_ret
          exact ⟨rfl, (bw_of_bx12 hbs.out (bw_of_bx12 hbs.out hbw.out hx1.out (fun b e => e.1)) hx2.out (fun b e => e.1)).trans hbe.out⟩
      · have i1 : ¬ (k : Int) < (len0 : Int) := by omega
        obtain ⟨E, n, f, hn, HC⟩ := closes_any hst.out
        have eE : (E == E) = true := beq_self_eq_true E
        go_wp2_with (first
          | (go_at_call 20; refine HC.out.mono ?_; rintro e wc ⟨A1, c1, rfl, hr1, hx1, HD⟩; clear HC)
          | (go_at_call 21; refine (HD.out _ (Bw.refl _)).mono ?_; rintro e wd ⟨A2, c2, rfl, hr2, hr3, hx2, hs2⟩; clear HD)
          | (go_at_call 12; refine (HSame.out A1 A2 c1 c2 n f _ hn hr2 hr3).mono ?_; rintro e we ⟨rfl, hbe⟩))
        go_ret
        exact ⟨rfl, (bw_of_bx12 hbs.out (bw_of_bx12 hbs.out hbw.out hx1.out (fun b e => e.1)) hx2.out (fun b e => e.1)).trans hbe.out⟩
  · have HST : Hid (Stt base (.pointer none) (.pointer none) (fun b => base ≤ b ∧ b < ((w.alloc (.cells #[.slice none 0 0, .int .i64 0, .slice none 0 0, .bool false] 78)).alloc (.cells #[.slice none 0 0, .bool false] 44)).heap.size) ((w.alloc (.cells #[.slice none 0 0, .int .i64 0, .slice none 0 0, .bool false] 78)).alloc (.cells #[.slice none 0 0, .bool false] 44))) := .inl ⟨rfl, rfl⟩
    have HB0 : Hid (Bw w ((w.alloc (.cells #[.slice none 0 0, .int .i64 0, .slice none 0 0, .bool false] 78)).alloc (.cells #[.slice none 0 0, .bool false] 44))) := bw_alloc11 (bw_alloc11 (Bw.refl _) _) _
    go_enter Tryz.func5, Tryz.ntmps5
    go_upto_region 8 with (first
      | (go_at_call 15; refine (wnew_any _).mono ?_; rintro e w1 ⟨rfl, hw⟩; obtain rfl := hw.symm)
      | refine wpList_built11 rfl 44 _ rfl _ hbr ?_)
    obtain ⟨W2, hW2⟩ : ∃ V, Hid ((w.alloc (.cells #[.slice none 0 0, .int .i64 0, .slice none 0 0, .bool false] 78)).alloc (.cells #[.slice none 0 0, .bool false] 44) = V) := ⟨_, rfl⟩
    rw [hW2.out] at HST HB0 ⊢
    go_wp2
    go_loopw [7] (fun i wr => ∃ k : Nat, k ≤ len0 ∧ i = .int .i64 (k : Int) ∧ Hid (Bw w wr) ∧ Hid (Stt base (.pointer none) (.pointer none) (fun b => base ≤ b ∧ b < wr.heap.size) wr)) (fun i _ => len0 - (intOf i).toNat)
    case atStart => exact ⟨0, Nat.zero_le _, rfl, HB0.out, HST.out⟩
    case round =>
      obtain ⟨k, hk, rfl, hbw, hst⟩ := hrel
      clear HST HB0
      have k0 : (0 : Int) ≤ (k : Int) := Int.natCast_nonneg _
      have hkb : (k : Int) ≤ 140737488351232 := by omega
      by_cases hlt : k < len0
      · have i1 : (k : Int) < (len0 : Int) := by omega
        by_cases h40 : k < 40
        · have i2 : (k : Int) < 40 := by omega
          obtain ⟨b, off, rfl, hit⟩ := acts12_at HA.out hlt
          obtain ⟨kd, hkd⟩ : ∃ z, Hid ((X0 k).1 = z) := ⟨_, rfl⟩
          obtain ⟨y, hy⟩ : ∃ z, Hid ((X0 k).2 = z) := ⟨_, rfl⟩
          have HIT : Hid (∀ W, Bw w W → ItAt W b (off + k * 7 + 1) y ∧ W.cell? ⟨b, off + k * 7, none⟩ = some (.int .i64 kd) ∧ BodyAt W y) := by rw [← hkd.out, ← hy.out]; exact hit
          have ck := (HIT.out wr hbw.out).2.1
          clear hit hy hkd h40
          by_cases q0 : kd = 0
          · subst q0
            go_wp2_with (first
              | (refine wpList_load_it (by rfl) (.tmp 47) rfl b (off + k * 7 + 1) rfl y (HIT.out wr hbw.out).1 ?_)
              | (refine wpList_build_itw (by rfl) (.tmp 48) rfl y rfl ?_; obtain ⟨wa, hwa⟩ : ∃ V, V = wr.alloc (.cells y.arr 47) := ⟨_, rfl⟩; have hba : Bw wr wa := (by rw [hwa]; exact bw_alloc11 (Bw.refl _) _); have hXa : Hid (BoxAt wa wr.heap.size y) := (by rw [hwa]; exact BoxAt.new _ _); rw [← hwa]; clear hwa)
              | (go_at_call 8; refine (HLent.out wa wr.heap.size y hXa.out ((HIT.out wr hbw.out).2.2.keep hba)).mono ?_; rintro e wb ⟨g1, c1, y', rfl, he', hl1, hg1, hf1, hb1⟩; have hbb : Bw wr wb := hba.trans hb1.out; have hI1 : Hid (ItAt wb g1 0 y') := (lent_it12 hl1.out); obtain ⟨E, HAd⟩ := act_add hst.out hbs.out hbw.out HK.out y y' (HIT.out w (Bw.refl _)).2.2 hbb hl1.out he' (Nat.le_trans hba.size hg1) (fun b o e => Nat.le_trans hba.size (hf1.out b o e)); have eE : (E != E) = false := bne_self_eq_false E)
              | (refine wpList_load_it (by rfl) (.tmp 53) rfl g1 0 rfl y' hI1.out ?_)
              | (go_at_call 16; refine HAd.out.mono ?_; rintro e wc ⟨rfl, hbc, HDd⟩; clear HAd)
              | (refine wpList_load_it (by rfl) (.tmp 60) rfl b (off + k * 7 + 1) rfl y (HIT.out wc hbc).1 ?_)
              | (go_at_call 17; refine (HDd.out _ (Bw.refl _)).mono ?_; rintro e wd ⟨rfl, hac⟩; clear HDd)
              | (refine wpList_load_it (by rfl) (.tmp 71) rfl b (off + k * 7 + 1) rfl y (HIT.out wd hac.out.bw).1 ?_)
              | (refine wpList_build_itw (by rfl) (.tmp 72) rfl y rfl ?_; obtain ⟨we, hwe⟩ : ∃ V, V = wd.alloc (.cells y.arr 47) := ⟨_, rfl⟩; have hbe : Bw wd we := (by rw [hwe]; exact bw_alloc11 (Bw.refl _) _); have hXe : Hid (BoxAt we wd.heap.size y) := (by rw [hwe]; exact BoxAt.new _ _); rw [← hwe]; clear hwe)
              | (go_at_call 13; refine (HKept.out we g1 c1 wd.heap.size y' y (hac.out.lent.keep hbe) he' hXe.out ((HIT.out wd hac.out.bw).2.2.keep hbe)).mono ?_; rintro e wf ⟨rfl, hbf⟩))
            have HC2 : Hid (Act2 base (.pointer none) (.pointer none) w wr.heap.size wb g1 c1 y' wf) := hac.out.keep (hbe.trans hbf.out)
            obtain ⟨gb, had, hown, hcp⟩ := HC2.out.lent.marks y' (List.mem_singleton.2 rfl)
            have HAd' : Hid (y'.ad = some ⟨gb, 0, none⟩) := had
            obtain ⟨ln, hln⟩ : ∃ q, Hid (y'.it.body.length = q) := ⟨_, rfl⟩
            have hlnb : ln ≤ 140737488351232 := by rw [← hln.out]; exact hcp.2.body
            have HOw : Hid (∃ F, Own wf gb (ln + 1) F) := ⟨_, by rw [← hln.out]; exact hown⟩
            have HEnd : Hid (∀ ws, Bx (fun b => b = gb) wf ws → Bw w ws ∧ ItAt ws g1 0 y' ∧ Stt base (.pointer none) (.pointer none) (fun b => base ≤ b ∧ b < ws.heap.size) ws) := fun ws x => by
              have hgl : wr.heap.size ≤ gb := Nat.le_trans hba.size (hf1.out gb 0 had)
              obtain ⟨gb2, had2, hown2, _⟩ := hl1.out.marks y' (List.mem_singleton.2 rfl)
              have hgu : gb < wb.heap.size := by
                rw [had] at had2; cases had2; exact hown2.lt
              obtain ⟨q1, q2, q3⟩ := act2_set HC2.out hbs.out (by rw [← hbs.out]; exact hbw.out.size) had hgl hgu (lent_ne12 HC2.out.lent had) x
              exact ⟨q1, q2, q3.any⟩
            clear had hown hcp hac hXe hXa hI1 hl1 hf1 hb1 hbf hbe hba hbc hbb he' HC2 eE
            go_loopw [11] (fun j ws => ∃ q : Nat, q ≤ ln ∧ j = .int .i64 (q : Int) ∧ Hid (∃ F, Own ws gb (ln + 1) F) ∧ Hid (Bx (fun b => b = gb) wf ws)) (fun j _ => ln - (intOf j).toNat)
            case atStart => exact ⟨0, Nat.zero_le _, rfl, HOw.out, Bx.refl _ _⟩
            case round =>
              obtain ⟨q, hq, rfl, hF, hx⟩ := hrel
              have q0 : (0 : Int) ≤ (q : Int) := Int.natCast_nonneg _
              have hqb : (q : Int) ≤ 140737488351232 := by omega
              obtain ⟨hE1, hE2, hE3⟩ := HEnd.out wr hx.out
              have c4 := hE2.c4
              rw [HAd'.out, hln.out] at c4
              simp only [Nat.zero_add] at c4
              have HE13 : Hid (Bw w wr ∧ Stt base (.pointer none) (.pointer none) (fun b => base ≤ b ∧ b < wr.heap.size) wr) := ⟨hE1, hE3⟩
              clear hE1 hE2 hE3
              by_cases hql : q < ln
              · have j1 : (q : Int) < (ln : Int) := by omega
                obtain ⟨F, hF⟩ := hF.out
                have HFF : Hid (Own wr gb (ln + 1) F) := hF
                obtain ⟨cq, fq⟩ := hF.cell (c := q) (by omega)
                clear hF
                go_wp2
                go_roundw
                case rel => exact ⟨q + 1, by omega, by go_num, ⟨fun c => if c = q then 255 else F c, Own.set HFF.out (by omega) (if_pos rfl) (fun c _ hc => if_neg hc)⟩, Bx.put hx.out rfl⟩
                case measure => simp [intOf]; omega
              · have j1 : ¬ (q : Int) < (ln : Int) := by omega
                clear hF
                go_wp2
                go_roundw
                case rel => exact ⟨k + 1, by omega, by go_num, HE13.out.1, HE13.out.2⟩
                case measure => simp [intOf]; omega
          have e0 : (kd == 0) = false := by rw [beq_eq_false_iff_ne]; exact q0
          by_cases q1 : kd = 1
          · clear e0 q0
            subst q1
            obtain ⟨nl, HL1⟩ := lens_any hst.out
            have en : (nl != nl) = false := bne_self_eq_false nl
            go_wp2_with (first
              | (go_at_call 18; refine HL1.out.mono ?_; rintro e wc ⟨rfl, hw, HD⟩; obtain rfl := hw.symm; clear HL1)
              | (go_at_call 19; refine (HD.out _ (Bw.refl _)).mono ?_; rintro e wd ⟨rfl, hbd⟩; clear HD))
            go_roundw
            case rel => exact ⟨k + 1, by omega, by go_num, hbw.out.trans hbd, (hst.out.keep hbd).any⟩
            case measure => simp [intOf]; omega
          have e1 : (kd == 1) = false := by rw [beq_eq_false_iff_ne]; exact q1
          by_cases q2 : kd = 2
          · clear e0 e1 q0 q1
            subst q2
            obtain ⟨E, n, f, hn, HC⟩ := closes_any hst.out
            have eE : (E != E) = false := bne_self_eq_false E
            go_wp2_with (first
              | (go_at_call 20; refine HC.out.mono ?_; rintro e wc ⟨A1, c1, rfl, hr1, hx1, HD⟩; clear HC)
              | (go_at_call 21; refine (HD.out _ (Bw.refl _)).mono ?_; rintro e wd ⟨A2, c2, rfl, hr2, hr3, hx2, hs2⟩; clear HD)
              | (go_at_call 12; refine (HSame.out A1 A2 c1 c2 n f _ hn hr2 hr3).mono ?_; rintro e we ⟨rfl, hbe⟩))
            go_roundw
            case rel => exact ⟨k + 1, by omega, by go_num, (bw_of_bx12 hbs.out (bw_of_bx12 hbs.out hbw.out hx1.out (fun b e => e.1)) hx2.out (fun b e => e.1)).trans hbe.out, (hs2.out.keep hbe.out).any⟩
            case measure => simp [intOf]; omega
          have e2 : (kd == 2) = false := by rw [beq_eq_false_iff_ne]; exact q2
          clear q0 q1 q2
          go_wp2
          go_roundw
          case rel => exact ⟨k + 1, by omega, by go_num, hbw.out, hst.out⟩
          case measure => simp [intOf]; omega
        · have i2 : ¬ (k : Int) < 40 := by omega
          obtain ⟨E, n, f, hn, HC⟩ := closes_any hst.out
          have eE : (E == E) = true := beq_self_eq_true E
          go_wp2_with (first
            | (go_at_call 20; refine HC.out.mono ?_; rintro e wc ⟨A1, c1, rfl, hr1, hx1, HD⟩; clear HC)
            | (go_at_call 21; refine (HD.out _ (Bw.refl _)).mono ?_; rintro e wd ⟨A2, c2, rfl, hr2, hr3, hx2, hs2⟩; clear HD)
            | (go_at_call 12; refine (HSame.out A1 A2 c1 c2 n f _ hn hr2 hr3).mono ?_; rintro e we ⟨rfl, hbe⟩))
          go_ret
          exact ⟨rfl, (bw_of_bx12 hbs.out (bw_of_bx12 hbs.out hbw.out hx1.out (fun b e => e.1)) hx2.out (fun b e => e.1)).trans hbe.out⟩
      · have i1 : ¬ (k : Int) < (len0 : Int) := by omega
        obtain ⟨E, n, f, hn, HC⟩ := closes_any hst.out
        have eE : (E == E) = true := beq_self_eq_true E
        go_wp2_with (first
          | (go_at_call 20; refine HC.out.mono ?_; rintro e wc ⟨A1, c1, rfl, hr1, hx1, HD⟩; clear HC)
          | (go_at_call 21; refine (HD.out _ (Bw.refl _)).mono ?_; rintro e wd ⟨A2, c2, rfl, hr2, hr3, hx2, hs2⟩; clear HD)
          | (go_at_call 12; refine (HSame.out A1 A2 c1 c2 n f _ hn hr2 hr3).mono ?_; rintro e we ⟨rfl, hbe⟩))
        go_ret
        exact ⟨rfl, (bw_of_bx12 hbs.out (bw_of_bx12 hbs.out hbw.out hx1.out (fun b e => e.1)) hx2.out (fun b e => e.1)).trans hbe.out⟩

set_option maxRecDepth 100000 in
theorem lifted (os : Os) (started : os.Started) (H : Type) (enc : TypeId × Value → H) :
    ReturnsInHanded {} Tryz.checked os 5 .any (fun w args => (Rows.packAddsSpec.pre enc Tryz.prog Tryz.f5 [] false w args ∧ laidMetH Tryz.prog laidKT w) ∧ sizedMet enc Tryz.prog Tryz.f5 (OpenSpec.ofChange Rows.packAddsSpec) false w args)
      (Rows.packAddsSpec.post enc Tryz.prog Tryz.f5 false true false false) := by
  refine returnsInHanded_of_change_and (C := Tryz.checked) (X := fun w _ => laidMetH Tryz.prog laidKT w) (fun _ _ _ hh h => h.of_heap hh) own started (by kernel_rfl) Tryz.func5
    (ChangeSpec.witness_shaped (enc := enc) (C := Tryz.checked) (os := os) (X := fun w _ => laidMetH Tryz.prog laidKT w) false (World.doorLaid Tryz.prog 400 os) #[.slice none 0 0, .bool false] 8 rfl (World.shaped_of_RefB (by kernel_rfl) (by kernel_rfl)) (by kernel_rfl) (by kernel_rfl) (by kernel_rfl) (door_metKT os _)) ?_
  intro W base args ds gs before hval0 hW hcnd hsz0 hL _
  have hval : ∀ (j : Nat) t v, Tryz.f5.params[j]? = some t → args[j]? = some v → Value.okWide Tryz.prog W .any base t v := hval0
  have hW' := hW
  obtain ⟨p, q, hA0, hV, rfl, hfz, hnd⟩ := hW
  have hA : DataW.TrodAll enc Tryz.prog W 0 (fun _ => true) true Tryz.f5.params.toList args.toList ds p := hA0
  have hsz : (DataW.weightsEach Tryz.prog (Tryz.f5.params.toList ++ Rows.packAddsSpec.plain.varTypes Tryz.prog) (ds ++ gs)).all (· ≤ reachBytes) = true := hsz0
  have hkat := ktat_of_laid hL
  rw [Tryz.params5] at hA hval hsz
  obtain ⟨v0, vs0, d0, ds0, p0, q0, hargs, rfl, rfl, h0, r0⟩ := trodAll_cons hA
  obtain ⟨v1, vs1, d1, ds1, p1, q1, rfl, rfl, rfl, h1, r1⟩ := trodAll_cons r0
  obtain ⟨rfl, rfl, rfl⟩ := trodAll_nil r1
  obtain rfl : args = #[v0, v1] := by cases args; simp_all
  obtain ⟨rfl, rfl⟩ := trodVars_none hV
  obtain ⟨a0, len0, cap0, rfl⟩ := okWide_slice Tryz.underlying39 (hval 0 39 v0 rfl rfl)
  have k0 := h0
  have lt0 : ∀ x ∈ p0, x.block < W.heap.size := by obtain ⟨m, hm⟩ := k0; exact DataW.trod_lt m _ _ _ hm
  obtain ⟨X0, w0⟩ := open_acts12 h0 (fun x hx => by simpa using List.all_eq_true.1 hsz x (DataW.weights_mem_each (j := 0) (t := 39) rfl rfl x hx))
  obtain ⟨a1, rfl, rfl, rfl⟩ := open_bool Tryz.underlying4 (hval 1 4 v1 rfl rfl) h1
  clear hA0 hval0
  refine (walk a0 len0 cap0 X0 a1 W hkat w0).mono fun e W' ⟨he, bel⟩ => ?_
  subst he
  exact ⟨_, rfl, _, _, _, [], _, [], hW', trodAll_mk1 (shut_bool Tryz.underlying4 _), (trodAll_cons_mk (Below.trod laidOut (by kernel_rfl) (of_decide_eq_true (by kernel_rfl)) k0 bel lt0) (trodAll_cons_mk (shut_bool Tryz.underlying4 a1) trodAll_mk0)), rfl, bel.frame _, fun h => by cases h⟩

theorem over : Rows.packAddsRow.holds Tryz.pinned (OpenSpec.ofChange Rows.packAddsSpec) :=
  OpenClaim.holds_of_wide 5 Tryz.f5 rfl rfl rfl rfl rfl rfl rfl ⟨rfl, rfl, rfl, rfl, rfl⟩ rfl rfl rfl rfl rfl (by kernel_rfl) Tryz.func5 (by kernel_rfl)
    (of_decide_eq_true (by kernel_rfl)) (by unfold Func.isWrapper; first | (rw [if_pos (by decide +kernel)]; kernel_rfl) | (rw [if_neg (by decide +kernel)]; exact ⟨rfl, rfl⟩))
    (fun os started H enc _ => lifted os started H enc)

theorem proved : Rows.PackAddsCardSaid :=
  Claim7.holds_tied_plain_at .later [] [.data, .data, .data, .data] true (true, "5492f5e41247cc02cc49d51610b3a1000faf02ce834e575e36ea9376324993ab") true
    over (fun _ h => by cases h) (by kernel_rfl) (fun _ h => by cases h) packAdds_row_tie rfl ⟨rfl, rfl⟩ (by kernel_rfl) rfl
    (fun f fn hf hfn => by
      obtain rfl : f = 5 := Option.some.inj ((show Tryz.prog.funcNamed "tabulary/tabularylaw12.PackAdds" = some 5 by kernel_rfl).symm.trans hf) |>.symm
      obtain rfl : fn = Tryz.f5 := (Option.some.inj (Tryz.func5.symm.trans hfn)).symm
      exact ⟨by kernel_rfl, fun j t ht => by
        rw [Tryz.params5] at ht
        have hm : t ∈ [39, 4] := by simpa using Array.mem_of_getElem? ht
        have hall : ([39, 4].all fun u => !Tryz.prog.wantsStandIn u) = true := by kernel_rfl
        exact (show Tryz.prog.wantsStandIn t = false by simpa using List.all_eq_true.1 hall t hm)⟩)
    (by kernel_rfl)
#print axioms proved
end Go.Proofs.YtldkhbkgmiicbaaGreatDoor.packAdds
