/- Proved: for every list of items, all numbers and every list of numbers the statement TreeBegins answers true (the document's P11.10: each beginning of a tree is one, what is beneath a folder stands right behind it, and any order is put right). -/
import Derived.Test.YtjifdoneejofiaaUD
import Derived.Test.YtjifdoneejofiaaYM
import Derived.Test.YtjifdoneejofiaaYN
import Derived.Deep.CutRange
import Derived.ShutString
import Derived.ChangeOld
namespace Go.Proofs.Ytjifdoneejofiaa.treeBegins
open Go.ChangeShapes Go.WideShapes Go.ChangeAt Go.RowKit
set_option linter.unusedVariables false

set_option linter.unusedSimpArgs false
open Go.Deep
set_option maxRecDepth 100000 in
set_option maxHeartbeats 8000000 in
theorem walk (a0 : Option Addr) (len0 cap0 : Nat) (L0 : List Tr.Iv) (a1 : Int) (a2 : Int) (a3 : Option Addr) (len3 cap3 : Nat) (f3 : Nat → Int) (w : World) (w0 : InIts w a0 len0 cap0 L0) (w1 : (Lit.int .i64 a1).wf = true) (w2 : (Lit.int .i64 a2).wf = true) (w3 : InInts w a3 len3 cap3 f3) :
    Calls Try.prog 8 #[.slice a0 len0 cap0, .int .i64 a1, .int .i64 a2, .slice a3 len3 cap3] w fun e w' => e = .returned (.bool true) ∧ Below w.heap.size w w' := by
  obtain ⟨hlen, hits, hle, hroom, hnil⟩ := w0
  have hb1 := bounds_i64 w1
  have hb2 := bounds_i64 w2
  obtain ⟨hrow3, hle3, hroom3, hnil3, hbd3⟩ := w3
  have HNL : Hid (L0.length = len0) := hlen
  have HI : Hid (ItsAt w a0 L0) := hits
  have HNil : Hid (a0 = none → len0 = 0 ∧ cap0 = 0) := hnil
  have HO : Hid (IntsAt w a3 len3 f3) := hrow3
  have HOb : Hid (∀ i, -9223372036854775808 ≤ f3 i ∧ f3 i ≤ 9223372036854775807) := hbd3
  have hln : len0 ≤ 1759218604391 := by omega
  have hl3 : len3 ≤ 17592186043904 := by omega
  obtain ⟨T, hT⟩ : ∃ T, Hid (Tr.its L0 = T) := ⟨_, rfl⟩
  have HTl : Hid (T.length = len0) := by show _ = _; rw [← hT.out, Tr.its_len, HNL.out]
  obtain ⟨cA, cE, hC⟩ : ∃ a b, Hid (Tr.chkE T = (a, b)) := ⟨_, _, show Tr.chkE T = _ from rfl⟩
  have HChk : Hid (∀ u, Bw w u → Calls Try.prog 10 #[.slice a0 len0 cap0] u fun e w' => e = .returned (.tuple #[.int .i64 (cA : Int), .int .i64 cE]) ∧ Bw u w') := fun u hu => by
    have := tcheck_any a0 cap0 L0 (by rw [HNL.out]; omega) (by rw [HNL.out]; exact hle) u (HI.out.keep hu)
    rwa [HNL.out, hT.out, hC.out] at this
  clear hits hlen hnil hrow3 hbd3 w1 w2
  by_cases hE : cE = 0
  case neg =>
    have q1 := Tr.i_no hE
    have HE : Hid (cE ≠ 0) := hE
    clear hE
    go_enter Try.func8, Try.ntmps8
    go_wp2_with (first
      | (go_at_call 29; refine (awake11_any _).mono ?_; rintro e wa ⟨rfl, hwa⟩)
      | (go_at_call 10; refine (HChk.out _ hwa).mono ?_; rintro e wb ⟨rfl, hwb⟩))
    go_ret
    exact ⟨rfl, hwa.trans hwb⟩
  subst hE
  rcases Nat.eq_zero_or_pos len0 with h0 | hpos
  · subst h0
    go_enter Try.func8, Try.ntmps8
    go_wp2_with (first
      | (go_at_call 29; refine (awake11_any _).mono ?_; rintro e wa ⟨rfl, hwa⟩)
      | (go_at_call 10; refine (HChk.out _ hwa).mono ?_; rintro e wb ⟨rfl, hwb⟩))
    go_ret
    exact ⟨rfl, hwa.trans hwb⟩
  have HOk : Hid (Tr.Ok T) := (Tr.chk_zero (by rw [hC.out])).2
  have hz0 : ((len0 : Int) == 0) = false := by rw [beq_eq_false_iff_ne]; omega
  obtain ⟨b, off, hA, -⟩ := HI.out.ats (by rw [HNL.out]; exact hpos)
  subst hA
  have HCut : Hid (∀ u (ct : Nat), ct ≤ len0 → Bw w u → Calls Try.prog 10 #[.slice (some ⟨b, off, none⟩) ct cap0] u fun e w' => e = .returned (.tuple #[.int .i64 0, .int .i64 0]) ∧ Bw u w') := fun u ct hct hu => by
    have hl : (L0.take ct).length = ct := by rw [List.length_take, HNL.out]; omega
    have := tcheck_any (some ⟨b, off, none⟩) cap0 (L0.take ct) (by rw [hl]; omega) (by rw [hl]; omega) u ((HI.out.keep hu).take ct)
    rwa [hl, Tr.its_take, hT.out, Tr.cut_ok (by rw [hC.out]) ct] at this
  go_enter Try.func8, Try.ntmps8
  go_upto_region 6 with (first
    | (go_at_call 29; refine (awake11_any _).mono ?_; rintro e wa ⟨rfl, hwa⟩)
    | (go_at_call 10; refine (HChk.out _ hwa).mono ?_; rintro e wb ⟨rfl, hwb⟩; have hbb := hwa.trans hwb))
  go_cut [39] from 32 to 39 (fun v wx => (∃ bb : Bool, v = .bool bb ∧ Hid (bb = true ↔ (a1 < 0 ∨ (len0 : Int) < a1))) ∧ wx = wb)
  case first =>
    by_cases q1 : a1 < 0
    · go_wp2_with fail
      go_meet
      case rel => exact ⟨⟨true, rfl, ⟨fun _ => Or.inl q1, fun _ => rfl⟩⟩, rfl⟩
    · by_cases q2 : (len0 : Int) < a1
      · go_wp2_with fail
        go_meet
        case rel => exact ⟨⟨true, rfl, ⟨fun _ => Or.inr q2, fun _ => rfl⟩⟩, rfl⟩
      · go_wp2_with fail
        go_meet
        case rel => exact ⟨⟨false, rfl, ⟨(fun e => by cases e), fun e => by omega⟩⟩, rfl⟩
  case rest =>
    obtain ⟨⟨bb, rfl, hbq⟩, rfl⟩ := hcut
    go_upto_if 39 with fail
    go_cut [1] from 40 to 42 (fun v wx => (∃ k : Nat, v = .int .i64 (k : Int) ∧ k ≤ len0) ∧ wx = wc)
    case first =>
      cases bb with
      | true =>
        go_wp2_with fail
        go_meet
        case rel => exact ⟨⟨len0 / 2, by first | rfl | go_num | (congr 1; omega), by omega⟩, rfl⟩
      | false =>
        have HQ : Hid (¬ (a1 < 0 ∨ (len0 : Int) < a1)) := fun h => by have := hbq.out.2 h; cases this
        go_wp2_with fail
        go_meet
        case rel => exact ⟨⟨a1.toNat, by have := HQ.out; congr 1; omega, by have := HQ.out; omega⟩, rfl⟩
    case rest =>
      rename World => wq
      obtain ⟨⟨ct, rfl, hct⟩, rfl⟩ := hcut
      have z1 : (0 : Int) ≤ (ct : Int) := Int.natCast_nonneg _
      have z2 : (ct : Int) ≤ (cap0 : Int) := by omega
      go_upto_region 11 with (go_at_call 10; refine (HCut.out _ ct hct hbb).mono ?_; rintro e wd ⟨rfl, hwd⟩; have hbd := hbb.trans hwd)
      go_cut [59] from 52 to 59 (fun v wx => (∃ bb : Bool, v = .bool bb ∧ Hid (bb = true ↔ (a2 < 0 ∨ (len0 : Int) ≤ a2))) ∧ wx = wd)
      case first =>
        by_cases q1 : a2 < 0
        · go_wp2_with fail
          go_meet
          case rel => exact ⟨⟨true, rfl, ⟨fun _ => Or.inl q1, fun _ => rfl⟩⟩, rfl⟩
        · by_cases q2 : (len0 : Int) ≤ a2
          · go_wp2_with fail
            go_meet
            case rel => exact ⟨⟨true, rfl, ⟨fun _ => Or.inr q2, fun _ => rfl⟩⟩, rfl⟩
          · go_wp2_with fail
            go_meet
            case rel => exact ⟨⟨false, rfl, ⟨(fun e => by cases e), fun e => by omega⟩⟩, rfl⟩
      case rest =>
        obtain ⟨⟨bb, rfl, hbq2⟩, rfl⟩ := hcut
        go_upto_if 59 with fail
        go_cut [2] from 59 to 59 (fun v wx => (∃ k : Nat, v = .int .i64 (k : Int) ∧ k < len0) ∧ wx = wc)
        case first =>
          cases bb with
          | true =>
            go_wp2_with fail
            go_meet
            case rel => exact ⟨⟨0, rfl, hpos⟩, rfl⟩
          | false =>
            have HQ : Hid (¬ (a2 < 0 ∨ (len0 : Int) ≤ a2)) := fun h => by have := hbq2.out.2 h; cases this
            go_wp2_with fail
            go_meet
            case rel => exact ⟨⟨a2.toNat, by have := HQ.out; congr 1; omega, by have := HQ.out; omega⟩, rfl⟩
        case rest =>
          rename World => wq2
          obtain ⟨⟨at_, rfl, hat⟩, rfl⟩ := hcut
          obtain ⟨x, hx⟩ : ∃ x, Hid (L0[at_]? = some x) := ⟨_, List.getElem?_eq_getElem (by rw [HNL.out]; exact hat)⟩
          have HTx : Hid (T[at_]? = some x.it) := by show _ = _; rw [← hT.out]; exact Tr.its_at hx.out
          obtain ⟨b', off', e', hX, hXb⟩ := (HI.out.keep hbd).at hx.out
          cases e'
          have c0 := hX.c0
          have hxp := hXb.fit.path
          have HX : Hid (ItAt wq2 b (off + at_ * 6) x) := hX
          clear hX hXb
          obtain ⟨F, hF⟩ : ∃ F, Hid (T.filter (fun z => Tr.bnB x.it.path z.path) = F) := ⟨_, rfl⟩
          obtain ⟨k, hk⟩ : ∃ k, Hid (F.length = k) := ⟨_, rfl⟩
          have hrun := Tr.beneath_run HOk.out HTx.out
          rw [hF.out, hk.out, HTl.out] at hrun
          obtain ⟨hr1, hr2, hr3⟩ := hrun
          have HR1 : Hid (F = (T.drop (at_ + 1)).take k) := hr1
          have HR3 : Hid (0 < k → x.it.kind = 2) := hr3
          clear hr1 hr3
          have y0 : (0 : Int) ≤ (at_ : Int) := Int.natCast_nonneg _
          have y1 : (at_ : Int) < (len0 : Int) := by omega
          have HBe : Hid (∀ u, Bw w u → Calls Try.prog 17 #[.slice (some ⟨b, off, none⟩) len0 cap0, .string (Nm.S x.it.path)] u fun e w' => (∃ A c M, e = .returned (.slice A k c) ∧ Tr.its M = F ∧ ItsAt w' A M) ∧ Bw u w') := fun u hu => by
            have := tbeneath_any (some ⟨b, off, none⟩) cap0 L0 x.it.path (by rw [HNL.out]; omega) hxp u (HI.out.keep hu)
            rw [HNL.out, hT.out, hF.out] at this
            refine this.mono fun e w' h => ⟨?_, h.2⟩
            obtain ⟨v, M, rfl, hm, ho⟩ := h.1
            obtain ⟨A, c, hv, -, hI, -, -⟩ := ho.its
            have hl : M.length = k := by rw [← hk.out, ← hm, Tr.its_len]
            rw [hl] at hv
            subst hv
            exact ⟨A, c, M, rfl, hm, hI⟩
          have HSm : Hid (∀ u A c M B c2, Bw w u → Tr.its M = F → ItsAt u A M → (k = 0 ∨ B = some ⟨b, off + (at_ + 1) * 6, none⟩) → Calls Try.prog 19 #[.slice A k c, .slice B k c2] u fun e w' => e = .returned (.bool true) ∧ Bw u w') := fun u A c M B c2 hu hm hI hB => by
            have hl : M.length = k := by rw [← hk.out, ← hm, Tr.its_len]
            have hl2 : ((L0.drop (at_ + 1)).take k).length = k := by rw [List.length_take, List.length_drop, HNL.out]; omega
            have hI2 : ItsAt u B ((L0.drop (at_ + 1)).take k) := by
              rcases hB with h | h
              · rw [h]; exact ItsAt.nil _ _
              · rw [h]; exact ((HI.out.keep hu).drop (at_ + 1)).take k
            have := rsame11_any A B c c2 M ((L0.drop (at_ + 1)).take k) (by rw [hl]; omega) (by rw [hl2]; omega) u hI hI2
            rw [hl, hl2] at this
            refine this.mono fun e w' h => ?_
            obtain ⟨⟨y, rfl, hy⟩, hw⟩ := h
            rw [hy.2 (by rw [hm, HR1.out, Tr.its_take, Tr.its_drop, hT.out])]; exact ⟨rfl, hw⟩
          go_upto_region 14 with (go_at_call 17; refine (HBe.out _ hbd).mono ?_; rintro e we ⟨⟨A5, c5, M5, rfl, hm5, hI5⟩, hwe⟩; have hbe := hbd.trans hwe)
          have c1 := (HX.out.keep hwe).c1
          go_cut [101] from 67 to 101 (fun v wx => v = .bool false ∧ Bw w wx)
          case first =>
            have t1 : ¬ (len0 : Int) - (at_ : Int) - 1 < (k : Int) := by omega
            have t2 : (at_ : Int) + 1 ≤ (at_ : Int) + 1 + (k : Int) := by omega
            have t3 : (at_ : Int) + 1 + (k : Int) ≤ (cap0 : Int) := by omega
            have t4 : (0 : Int) ≤ (at_ : Int) + 1 := by omega
            rcases Nat.eq_zero_or_pos k with k0 | k1
            · subst k0
              have t5 : ¬ (len0 : Int) - (at_ : Int) - 1 < 0 := by omega
              have t6 : decide ((len0 : Int) - (at_ : Int) - 1 < 0) = false := decide_eq_false t5
              by_cases hc : cap0 = at_ + 1
              · subst hc
                go_wp2_with (go_at_call 19; refine (HSm.out _ A5 c5 M5 _ _ hbe hm5 hI5 (.inl rfl)).mono ?_; rintro e wf ⟨rfl, hwf⟩)
                all_goals (go_meet; case rel => exact ⟨by first | rfl | rw [t6], hbe.trans hwf⟩)
              · go_wp2_with (go_at_call 19; refine (HSm.out _ A5 c5 M5 _ _ hbe hm5 hI5 (.inl rfl)).mono ?_; rintro e wf ⟨rfl, hwf⟩)
                all_goals (go_meet; case rel => exact ⟨by first | rfl | rw [t6], hbe.trans hwf⟩)
            · have hcne : ¬ cap0 = at_ + 1 := by omega
              have u1 : (0 : Int) < (k : Int) := by omega
              have hkd := HR3.out k1
              have u2 : ((x.it.kind : Int) != 2) = false := by rw [hkd]; rfl
              clear hkd
              go_wp2_with (go_at_call 19; refine (HSm.out _ A5 c5 M5 _ _ hbe hm5 hI5 (.inr rfl)).mono ?_; rintro e wf ⟨rfl, hwf⟩; have c1' := keep_cell11 c1 hwf; clear c1)
              all_goals (go_meet; case rel => exact ⟨rfl, hbe.trans hwf⟩)
          case rest =>
            obtain ⟨rfl, hbc⟩ := hcut
            obtain ⟨j0, hj0, hy0, hy1, hy2⟩ := info_parts info_item
            obtain ⟨H, hH⟩ : ∃ H, Hid (w.heap.size = H) := ⟨_, rfl⟩
            have HA6 : Hid (ItsAt wc (some ⟨b, off, none⟩) L0) := HI.out.keep hbc
            have hH6 : H ≤ wc.heap.size := by rw [← hH.out]; exact hbc.size
            clear HBe HSm HCut HChk c0 c1
            go_wp2_with (at_builtin; refine wpList_append_its _ (by rfl) (.tmp 102) (.tmp 103) _ (by rfl) H 26 j0 _ 80 Try.underlying22 hj0 hy0 hy1 hy2 rfl _ _ _ (by rfl) (World.ownsRow_nil wc _ _ _) (some ⟨b, off, none⟩) cap0 L0 len0 HNL.out (by rfl) HA6.out (fun e => by cases e) (by unfold maxLen; omega) (by omega) hH6 ?_; intro v7 w7 hown7 hgrow7; simp only [Nat.zero_add, List.nil_append] at hown7; have hb7 : Bw wc w7 := (Below.refl _ _).grown hgrow7 (Nat.le_refl _) (fun k hk => by simp [Value.ownBlock] at hk); obtain ⟨g, c7, hv7, hg7⟩ := own_some hown7 hpos; subst hv7)
            have HS7 : Hid (Sw w7 H g len0 c7 L0 w7) := ⟨hown7, HNL.out, Bx.refl _ _⟩
            have hb8 := hbc.trans hb7
            have hgw : w.heap.size ≤ g := by rw [hH.out]; exact hg7
            clear hown7 hgrow7 HA6 hH6
            go_loopw [15] (fun i wr => ∃ (j : Nat) (M : List Tr.Iv), i = .int .i64 (j : Int) ∧ j ≤ len3 ∧ Hid (M.Perm L0) ∧ Hid (Sw w7 H g len0 c7 M wr)) (fun i _ => len3 - (intOf i).toNat)
            case atStart => exact ⟨0, L0, rfl, Nat.zero_le _, List.Perm.refl _, HS7.out⟩
            case round =>
              obtain ⟨j, M, rfl, hj, hM, hsw⟩ := hrel
              have hbr : Bw w wr := bw_of_bx11 hb8 hsw.out.bx hgw
              have HML : Hid (M.length = len0) := hsw.out.len
              by_cases hlt : j < len3
              · have i0 : (0 : Int) ≤ (j : Int) := Int.natCast_nonneg _
                have i1 : (j : Int) < (len3 : Int) := by omega
                obtain ⟨b3, off3, rfl, hc3⟩ : ∃ b3 off3, a3 = some ⟨b3, off3, none⟩ ∧ wr.cell? ⟨b3, off3 + j, none⟩ = some (.int .i64 (f3 j)) := by
                  rcases (HO.out.keep hbr) with h | ⟨b3, off3, h1, h2⟩
                  · omega
                  · exact ⟨b3, off3, h1, h2 j hlt⟩
                obtain ⟨fj, hfj⟩ : ∃ fj, Hid (f3 j = fj) := ⟨_, rfl⟩
                rw [hfj.out] at hc3
                have p1 := Int.tmod_lt_of_pos fj (show (0 : Int) < (len0 : Int) by omega)
                have p2 := Int.lt_tmod_of_pos fj (show (0 : Int) < (len0 : Int) by omega)
                go_upto_if 119 with fail
                generalize fj.tmod (len0 : Int) = r at p1 p2 ⊢
                go_cut [16] from 119 to 123 (fun v wx => (∃ k : Nat, v = .int .i64 (k : Int) ∧ k < len0) ∧ wx = wr)
                case first =>
                  by_cases hr0 : r < 0
                  · go_wp2_with fail
                    go_meet
                    case rel => exact ⟨⟨(r + (len0 : Int)).toNat, by congr 1; omega, by omega⟩, rfl⟩
                  · go_wp2_with fail
                    go_meet
                    case rel => exact ⟨⟨r.toNat, by congr 1; omega, by omega⟩, rfl⟩
                case rest =>
                  obtain ⟨⟨kk, rfl, hkk⟩, hwc⟩ := hcut
                  subst hwc
                  obtain ⟨q, hq⟩ : ∃ q, Hid (j % len0 = q) := ⟨_, rfl⟩
                  have hql : q < len0 := by rw [← hq.out]; exact Nat.mod_lt _ hpos
                  have eq1 : (j : Int).tmod (len0 : Int) = (q : Int) := by rw [← hq.out]; rfl
                  obtain ⟨x7, hx7⟩ : ∃ x, Hid (M[kk]? = some x) := ⟨_, List.getElem?_eq_getElem (by rw [HML.out]; exact hkk)⟩
                  obtain ⟨y7, hy7⟩ : ∃ x, Hid (M[q]? = some x) := ⟨_, List.getElem?_eq_getElem (by rw [HML.out]; exact hql)⟩
                  obtain ⟨x0, x1, x2, x3, x4, x5⟩ := hsw.out.at hx7.out
                  obtain ⟨y0, y1, y2, y3, y4, y5⟩ := hsw.out.at hy7.out
                  have hfr := hsw.out.free
                  have HS8 : Hid (Sw w7 H g len0 c7 ((M.set kk y7).set q x7) (putIt (putIt wc g (kk * 6) y7) g (q * 6) x7).drew) := ((hsw.out.put hkk y7).put hql x7).drew
                  have HP8 : Hid (((M.set kk y7).set q x7).Perm L0) := (Tr.set_perm hx7.out hy7.out).trans hM.out
                  have k1 : (kk : Int) < (len0 : Int) := by omega
                  have k2 : (0 : Int) ≤ (kk : Int) := Int.natCast_nonneg _
                  have k3 : (q : Int) < (len0 : Int) := by omega
                  have k4 : (0 : Int) ≤ (q : Int) := Int.natCast_nonneg _
                  clear hsw hc3
                  rcases Nat.lt_trichotomy kk q with hkq | hkq | hkq
                  · go_upto_region 25 with fail
                    go_region
                    change Exit.inBlock 1 _ _ _ (putIt (putIt wc g (kk * 6) y7) g (q * 6) x7).drew
                    clear x0 x1 x2 x3 x4 x5 y0 y1 y2 y3 y4 y5 hfr
                    generalize (putIt (putIt wc g (kk * 6) y7) g (q * 6) x7).drew = wv at HS8 ⊢
                    go_wp2
                    go_roundw
                    case rel => exact ⟨j + 1, _, by go_num, by omega, HP8.out, HS8.out⟩
                    case measure => simp [intOf]; omega
                  · subst hkq
                    obtain rfl : x7 = y7 := Option.some.inj (hx7.out.symm.trans hy7.out)
                    go_upto_region 25 with fail
                    go_region
                    change Exit.inBlock 1 _ _ _ (putIt (putIt wc g (kk * 6) x7) g (kk * 6) x7).drew
                    clear x0 x1 x2 x3 x4 x5 y0 y1 y2 y3 y4 y5 hfr
                    generalize (putIt (putIt wc g (kk * 6) x7) g (kk * 6) x7).drew = wv at HS8 ⊢
                    go_wp2
                    go_roundw
                    case rel => exact ⟨j + 1, _, by go_num, by omega, HP8.out, HS8.out⟩
                    case measure => simp [intOf]; omega
                  · go_upto_region 25 with fail
                    go_region
                    change Exit.inBlock 1 _ _ _ (putIt (putIt wc g (kk * 6) y7) g (q * 6) x7).drew
                    clear x0 x1 x2 x3 x4 x5 y0 y1 y2 y3 y4 y5 hfr
                    generalize (putIt (putIt wc g (kk * 6) y7) g (q * 6) x7).drew = wv at HS8 ⊢
                    go_wp2
                    go_roundw
                    case rel => exact ⟨j + 1, _, by go_num, by omega, HP8.out, HS8.out⟩
                    case measure => simp [intOf]; omega
              · obtain rfl : j = len3 := by omega
                have HB9 : Hid (∀ y ∈ M, BodyAt wr y) := fun y hy => (HI.out.keep hbr).body y (hM.out.mem_iff.1 hy)
                obtain ⟨A9, c9, hv9, hle9, hI9, hn9, -⟩ := its_of_own (L := M) (by rw [HML.out]; exact hsw.out.own) HB9.out
                rw [HML.out] at hv9 hle9
                injection hv9 with e1 e2 e3
                subst e1 e3
                have HSo : Hid (∀ u, Bw wr u → Calls Try.prog 15 #[.slice (some ⟨g, 0, none⟩) len0 c7] u fun e w' => (∃ A c M', e = .returned (.slice A len0 c) ∧ Tr.its M' = T ∧ ItsAt w' A M') ∧ Bw u w') := fun u hu => by
                  have := tsort_any (some ⟨g, 0, none⟩) c7 M (by rw [HML.out]; omega) (fun e => by cases e) u (hI9.keep hu)
                  rw [HML.out] at this
                  refine this.mono fun e w' h => ⟨?_, h.2⟩
                  obtain ⟨v, M', rfl, hst, ho⟩ := h.1
                  obtain ⟨A, c, hv, -, hI, -, -⟩ := ho.its
                  have hTT : Tr.its M' = T := Tr.sorted_back HOk.out (by rw [← hT.out]; exact hM.out.map _) hst
                  have hl : M'.length = len0 := by rw [← HTl.out, ← hTT, Tr.its_len]
                  rw [hl] at hv
                  subst hv
                  exact ⟨A, c, M', rfl, hTT, hI⟩
                have HSm : Hid (∀ u A c M', Bw w u → Tr.its M' = T → ItsAt u A M' → Calls Try.prog 19 #[.slice A len0 c, .slice (some ⟨b, off, none⟩) len0 cap0] u fun e w' => e = .returned (.bool true) ∧ Bw u w') := fun u A c M' hu hm hI => by
                  have hl : M'.length = len0 := by rw [← HTl.out, ← hm, Tr.its_len]
                  have := rsame11_any A (some ⟨b, off, none⟩) c cap0 M' L0 (by rw [hl]; omega) (by rw [HNL.out]; omega) u hI (HI.out.keep hu)
                  rw [hl, HNL.out] at this
                  refine this.mono fun e w' h => ?_
                  obtain ⟨⟨y, rfl, hy⟩, hw⟩ := h
                  rw [hy.2 (by rw [hm, hT.out])]; exact ⟨rfl, hw⟩
                clear hsw hI9 hle9 hn9 e2
                go_wp2_with (first
                  | (go_at_call 15; refine (HSo.out _ (Bw.refl _)).mono ?_; rintro e ws ⟨⟨As, cs, Ms, rfl, hms, hIs⟩, hws⟩; have hbs := hbr.trans hws)
                  | (go_at_call 19; refine (HSm.out _ As cs Ms hbs hms hIs).mono ?_; rintro e wt ⟨rfl, hwt⟩))
                go_ret
                exact ⟨rfl, hbs.trans hwt⟩

set_option maxRecDepth 100000 in
theorem lifted (os : Os) (started : os.Started) (H : Type) (enc : TypeId × Value → H) :
    ReturnsInHanded {} Try.checked os 8 .any (Rows.treeBeginsSpec.pre6 enc Try.prog Try.f8 Rows.treeBeginsRow.domain false) (Rows.treeBeginsSpec.post enc Try.prog Try.f8 false true false false) := by
  refine returnsInHanded_of_change_sized (C := Try.checked) own started (by kernel_rfl) Try.func8
    (ChangeSpec.witness6 (enc := enc) (C := Try.checked) false ⟨#[], #[.slice none 0 0, .int .i64 0, .int .i64 0, .slice none 0 0], []⟩ 8 (by kernel_rfl) (by kernel_rfl) (by kernel_rfl) (by kernel_rfl)) ?_
  intro W base args ds gs before hval0 hW hcnd hsz0 _
  have hval : ∀ (j : Nat) t v, Try.f8.params[j]? = some t → args[j]? = some v → Value.okWide Try.prog W .any base t v := hval0
  have hW' := hW
  obtain ⟨p, q, hA0, hV, rfl, hfz, hnd⟩ := hW
  have hA : DataW.TrodAll enc Try.prog W 0 (fun _ => true) true Try.f8.params.toList args.toList ds p := hA0
  have hsz : (DataW.weightsEach Try.prog (Try.f8.params.toList ++ Rows.treeBeginsSpec.plain.varTypes Try.prog) (ds ++ gs)).all (· ≤ reachBytes) = true := hsz0
  rw [Try.params8] at hA hval hsz
  obtain ⟨v0, vs0, d0, ds0, p0, q0, hargs, rfl, rfl, h0, r0⟩ := trodAll_cons hA
  obtain ⟨v1, vs1, d1, ds1, p1, q1, rfl, rfl, rfl, h1, r1⟩ := trodAll_cons r0
  obtain ⟨v2, vs2, d2, ds2, p2, q2, rfl, rfl, rfl, h2, r2⟩ := trodAll_cons r1
  obtain ⟨v3, vs3, d3, ds3, p3, q3, rfl, rfl, rfl, h3, r3⟩ := trodAll_cons r2
  obtain ⟨rfl, rfl, rfl⟩ := trodAll_nil r3
  obtain rfl : args = #[v0, v1, v2, v3] := by cases args; simp_all
  obtain ⟨rfl, rfl⟩ := trodVars_none hV
  obtain ⟨a0, len0, cap0, rfl⟩ := okWide_slice Try.underlying22 (hval 0 22 v0 rfl rfl)
  have k0 := h0
  have lt0 : ∀ x ∈ p0, x.block < W.heap.size := by obtain ⟨m, hm⟩ := k0; exact DataW.trod_lt m _ _ _ hm
  obtain ⟨L0, w0⟩ := open_its h0 (fun x hx => by simpa using List.all_eq_true.1 hsz x (DataW.weights_mem_each (j := 0) (t := 22) rfl rfl x hx))
  obtain ⟨a1, rfl, rfl, rfl, w1⟩ := open_int Try.underlying3 (hval 1 3 v1 rfl rfl) h1
  obtain ⟨a2, rfl, rfl, rfl, w2⟩ := open_int Try.underlying3 (hval 2 3 v2 rfl rfl) h2
  obtain ⟨a3, len3, cap3, rfl⟩ := okWide_slice Try.underlying52 (hval 3 52 v3 rfl rfl)
  have k3 := h3
  have lt3 : ∀ x ∈ p3, x.block < W.heap.size := by obtain ⟨m, hm⟩ := k3; exact DataW.trod_lt m _ _ _ hm
  obtain ⟨f3, w3⟩ := open_introw h3 (fun x hx => by simpa using List.all_eq_true.1 hsz x (DataW.weights_mem_each (j := 3) (t := 52) rfl rfl x hx))
  clear hA0 hval0
  refine (walk a0 len0 cap0 L0 a1 a2 a3 len3 cap3 f3 W w0 w1 w2 w3).mono fun e W' ⟨he, bel⟩ => ?_
  subst he
  exact ⟨_, rfl, _, _, _, [], _, [], hW', trodAll_mk1 (shut_bool Try.underlying4 _), (trodAll_cons_mk (Below.trod laidOut (by kernel_rfl) (of_decide_eq_true (by kernel_rfl)) k0 bel lt0) (trodAll_cons_mk (shut_int Try.underlying3 w1) (trodAll_cons_mk (shut_int Try.underlying3 w2) (trodAll_cons_mk (Below.trod laidOut (by kernel_rfl) (of_decide_eq_true (by kernel_rfl)) k3 bel lt3) trodAll_mk0)))), rfl, bel.frame _, fun h => by cases h⟩

theorem over : Rows.treeBeginsRow.holds Try.pinned (OpenSpec.ofChange Rows.treeBeginsSpec) :=
  OpenClaim.holds_of_wide 8 Try.f8 rfl rfl rfl rfl rfl rfl rfl ⟨rfl, rfl, rfl, rfl, rfl⟩ rfl rfl rfl rfl rfl (by kernel_rfl) Try.func8 (by kernel_rfl)
    (of_decide_eq_true (by kernel_rfl)) (by unfold Func.isWrapper; first | (rw [if_pos (by decide +kernel)]; kernel_rfl) | (rw [if_neg (by decide +kernel)]; exact ⟨rfl, rfl⟩))
    (fun os started H enc _ => lifted os started H enc)

theorem proved : Rows.TreeBeginsSaid := over
#print axioms proved
end Go.Proofs.Ytjifdoneejofiaa.treeBegins
