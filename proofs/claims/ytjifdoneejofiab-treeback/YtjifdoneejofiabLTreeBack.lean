/- Proved: for every list of items, every item and every text the statement TreeBack answers true (the document's P11.11: what is put in is found, all else stays, and taken out again it is as it was). -/
import Derived.Test.YtjifdoneejofiabUD
import Derived.Test.YtjifdoneejofiabYE
import Derived.Test.YtjifdoneejofiabFy
import Derived.ShutString
import Derived.ChangeOld
namespace Go.Proofs.Ytjifdoneejofiab.treeBack
open Go.ChangeShapes Go.WideShapes Go.ChangeAt Go.RowKit
set_option linter.unusedVariables false

set_option linter.unusedSimpArgs false
open Go.Deep
set_option maxRecDepth 100000 in
set_option maxHeartbeats 8000000 in
theorem walk (a0 : Option Addr) (len0 cap0 : Nat) (L0 : List Tr.Iv) (y1 : Tr.Iv) (s2 : ByteArray) (w : World) (w0 : InIts w a0 len0 cap0 L0) (w1 : BodyAt w y1) (w2 : s2.size ≤ 140737488351232) :
    Calls Try.prog 3 #[.slice a0 len0 cap0, .agg (Tr.Iv.vals y1).toArray, .string s2] w fun e w' => e = .returned (.bool true) ∧ Below w.heap.size w w' := by
  change Calls Try.prog _ #[.slice a0 len0 cap0, .agg y1.arr, .string s2] w _
  obtain ⟨hlen, hits, hle, hroom, hnil⟩ := w0
  obtain ⟨p, hp⟩ : ∃ p : Tr.B, p = s2.toList := ⟨_, rfl⟩
  have hS : s2 = Nm.S p := by rw [hp, Nm.S_toList]
  have hpl : p.length ≤ 140737488351232 := by rw [hp, Nm.size_toList]; exact w2
  clear w2 hp
  subst hS
  have HNL : Hid (L0.length = len0) := hlen
  have HI : Hid (ItsAt w a0 L0) := hits
  have HBY : Hid (BodyAt w y1) := w1
  have HF : Hid (Tr.Fit y1.it) := w1.fit
  have hln : len0 ≤ 1759218604391 := by omega
  obtain ⟨T, hT⟩ : ∃ T, Hid (Tr.its L0 = T) := ⟨_, rfl⟩
  obtain ⟨U, hU⟩ : ∃ U, Hid (Tr.withL T y1.it = U) := ⟨_, rfl⟩
  obtain ⟨eW, hEW⟩ : ∃ e, Hid (Tr.withE T y1.it = e) := ⟨_, rfl⟩
  obtain ⟨R, hR⟩ : ∃ R, Hid (T.filter (Tr.wout p) = R) := ⟨_, rfl⟩
  obtain ⟨eR, hER⟩ : ∃ e, Hid (Tr.woutE T p = e) := ⟨_, rfl⟩
  have HTL : Hid (T.length = len0) := by show _ = _; rw [← hT.out, Tr.its_len, HNL.out]
  have HWith : Hid (∀ u, Bw w u → Calls Try.prog 8 #[.slice a0 len0 cap0, .agg #[.string (Nm.S y1.it.path), .int .u8 (y1.it.kind : Int), .int .i64 y1.it.mode, .int .i64 y1.it.time, .slice y1.ad y1.it.body.length y1.cp, .string (Nm.S y1.it.to)]] u fun e w' => SayIts U eW e w' ∧ Bw u w') := fun u hu => by
    have := twith_any a0 cap0 L0 y1 (by rw [HNL.out]; omega) (by rw [HNL.out]; exact hle) (by rw [HNL.out]; exact hnil) u (HI.out.keep hu) (HBY.out.keep hu)
    rw [HNL.out, hT.out, hU.out, hEW.out] at this
    exact this.mono fun e w' h => ⟨h.1.says, h.2⟩
  have HWo : Hid (∀ u, Bw w u → Calls Try.prog 13 #[.slice a0 len0 cap0, .string (Nm.S p)] u fun e w' => SayIts R eR e w' ∧ Bw u w') := fun u hu => by
    have := twithout_any a0 cap0 L0 p (by rw [HNL.out]; omega) (by rw [HNL.out]; exact hle) hpl u (HI.out.keep hu)
    rw [HNL.out, hT.out, hR.out, hER.out] at this
    exact this.mono fun e w' h => ⟨h.1.says, h.2⟩
  have HSame : Hid (∀ u A c M A' c' M', M.length ≤ 1759218604391 → M'.length ≤ 1759218604391 → Tr.its M = Tr.its M' → ItsAt u A M → ItsAt u A' M' → Calls Try.prog 11 #[.slice A M.length c, .slice A' M'.length c'] u fun e w' => e = .returned (.bool true) ∧ Bw u w') := fun u A c M A' c' M' l1 l2 h1 h3 h4 => by
    refine (rsame11_any A A' c c' M M' (by omega) (by omega) u h3 h4).mono fun e w' h => ?_
    obtain ⟨⟨x, rfl, hx⟩, hw⟩ := h
    rw [hx.2 h1]; exact ⟨rfl, hw⟩
  have HChk : Hid (∀ t u A c M, (Tr.chkE t).2 = 0 → M.length ≤ 1759218604391 → M.length ≤ c → Tr.its M = t → ItsAt u A M → Calls Try.prog 9 #[.slice A M.length c] u fun e w' => ∃ k : Nat, e = .returned (.tuple #[.int .i64 (k : Int), .int .i64 0]) ∧ Bw u w') := fun t u A c M h0 h1 h2 h3 h4 => by
    have := tcheck_any A c M (by omega) h2 u h4
    rw [h3, h0] at this
    exact this.mono fun e w' h => ⟨_, h.1, h.2⟩
  have HFind : Hid (∀ t q i er u A c M, Tr.findE t q = (i, er) → M.length ≤ 1759218604391 → Tr.its M = t → ItsAt u A M → Calls Try.prog 10 #[.slice A M.length c, .string (Nm.S q)] u fun e w' => e = .returned (.tuple #[.int .i64 (i : Int), .int .i64 er]) ∧ Bw u w') := fun t q i er u A c M h0 h1 h2 h3 => by
    have := tfind_any A c M q (by omega) u h3
    rwa [h2, h0] at this
  have HOth : Hid (∀ t u A c M, M.length ≤ 1759218604391 → Tr.its M = t → ItsAt u A M → Calls Try.prog 12 #[.slice A M.length c, .string (Nm.S y1.it.path)] u fun e w' => CopyEndsI (t.filter (Tr.ot y1.it.path)) e w' ∧ Bw u w') := fun t u A c M h1 h2 h3 => by
    have := others_any A c M y1.it.path (by omega) u h3
    rwa [h2] at this
  have HBen : Hid (∀ t u A c M, t.filter (fun x => Tr.bnB p x.path) = [] → M.length ≤ 1759218604391 → Tr.its M = t → ItsAt u A M → Calls Try.prog 14 #[.slice A M.length c, .string (Nm.S p)] u fun e w' => ∃ A' c', e = .returned (.slice A' 0 c') ∧ Bw u w') := fun t u A c M h0 h1 h2 h3 => by
    refine (tbeneath_any A c M p (by omega) hpl u h3).mono fun e w' h => ?_
    rw [h2, h0] at h
    obtain ⟨⟨v, M', rfl, h5, h6⟩, hw⟩ := h
    obtain ⟨A', c', rfl, -, -, -, -⟩ := h6.its
    have : M' = [] := by cases M' with | nil => rfl | cons a b => cases h5
    subst this
    exact ⟨A', c', rfl, hw⟩
  obtain ⟨W, hW⟩ : ∃ W, W = w.alloc (.cells y1.arr 26) := ⟨_, rfl⟩
  have hbw : Bw w W := by rw [hW]; exact bw_alloc11 (Bw.refl _) _
  have hX : Hid (BoxAt W w.heap.size y1) := by rw [hW]; exact BoxAt.new _ _
  obtain ⟨x0, x1, x2, x3, x4, x5⟩ := hX.out.cells
  clear hlen hits hnil w1
  go_enter Try.func3, Try.ntmps3
  go_upto_region 1 with fail
  rw [← hW]
  clear hW
  have tokS : Hid (w = w) := rfl
  have tokO : Hid (w = w) := rfl
  go_upto_if 30 with (first
    | (go_at_call 7; refine (awake11_any _).mono ?_; rintro e w3 ⟨rfl, hw3⟩; have hb3 := hbw.trans hw3; obtain ⟨z0, z1, z2, z3, z4, z5⟩ := (hX.out.keep hw3).cells)
    | (go_at_call 8; refine (HWith.out _ hb3).mono ?_; rintro e w4 ⟨hs4, hw4⟩; obtain ⟨A4, c4, M4, rfl, f1, f2⟩ := hs4.form; obtain ⟨m, hm⟩ : ∃ m, Hid (M4.length = m) := ⟨_, rfl⟩; rw [hm.out]; have hb4 := hb3.trans hw4; have hX4 : Hid (BoxAt w4 w.heap.size y1) := (hX.out.keep hw3).keep hw4))
  go_cut [9, 10, 11, 12, 13, 14] from 31 to 94 (fun _ _ _ _ _ _ wx => Bw w wx)
  case first =>
    by_cases hE : eW = 0
    · obtain ⟨hm4, hc4, hI4⟩ := f2.out hE
      obtain ⟨k1, k2⟩ := Tr.with_zero (hEW.out.trans hE)
      have hOT := Tr.chk_zero k1
      have hOU := Tr.chk_zero k2
      have hfe := Tr.with_findE hOU.2
      have hge := Tr.with_get T y1.it
      have hot := Tr.with_others T y1.it
      have hbk := Tr.with_back hOT.2 hOU.2
      have hwz := Tr.with_wout k1 k2
      rw [hU.out] at k2 hOU hfe hge hot hbk hwz
      obtain ⟨k, hk⟩ : ∃ k, Hid (Tr.cnt T y1.it.path = k) := ⟨_, rfl⟩
      rw [hk.out] at hfe hge
      rw [← hm4] at hge
      obtain ⟨yk, hyk, hye⟩ := Tr.its_of hge
      have hkm : k < M4.length := (List.getElem?_eq_some_iff.1 hyk).1
      obtain ⟨bk, off, e', -, -⟩ := hI4.at hyk
      subst e'
      have hml : M4.length ≤ 257 := by have := hOU.1; rw [← hm4, Tr.its_len] at this; omega
      have HI4 : Hid (ItsAt w4 (some ⟨bk, off, none⟩) M4) := hI4
      have HM4 : Hid (Tr.its M4 = U) := hm4
      have HCk : Hid (∀ u, Bw w4 u → Calls Try.prog 9 #[.slice (some ⟨bk, off, none⟩) M4.length c4] u fun e w' => ∃ k : Nat, e = .returned (.tuple #[.int .i64 (k : Int), .int .i64 0]) ∧ Bw u w') := fun u hu => HChk.out U u _ c4 M4 k2 (by omega) hc4 HM4.out (HI4.out.keep hu)
      have HFi : Hid (∀ u, Bw w4 u → Calls Try.prog 10 #[.slice (some ⟨bk, off, none⟩) M4.length c4, .string (Nm.S y1.it.path)] u fun e w' => e = .returned (.tuple #[.int .i64 (k : Int), .int .i64 0]) ∧ Bw u w') := fun u hu => HFind.out U _ k 0 u _ c4 M4 hfe (by omega) HM4.out (HI4.out.keep hu)
      have HS1 : Hid (∀ u g c', Bw w4 u → BoxAt u g y1 → Calls Try.prog 11 #[.slice (some ⟨bk, off + k * 6, none⟩) 1 c', .slice (some ⟨g, 0, none⟩) 1 1] u fun e w' => e = .returned (.bool true) ∧ Bw u w') := fun u g c' hu hg => by
        have h1 : ItsAt u (some ⟨bk, off + k * 6, none⟩) ((M4.drop k).take 1) := ((HI4.out.keep hu).drop k).take 1
        have h2 : (M4.drop k).take 1 = [yk] := by
          obtain ⟨g1, g2⟩ := List.getElem?_eq_some_iff.1 hyk
          rw [List.drop_eq_getElem_cons g1, g2]; rfl
        rw [h2] at h1
        exact HSame.out u _ c' [yk] _ 1 [y1] (by simp) (by simp) (by show [yk.it] = [y1.it]; rw [hye]) h1 (its_one hg ((HBY.out.keep hb4).keep hu))
      have HO1 : Hid (∀ u, Bw w4 u → Calls Try.prog 12 #[.slice (some ⟨bk, off, none⟩) M4.length c4, .string (Nm.S y1.it.path)] u fun e w' => CopyEndsI (T.filter (Tr.ot y1.it.path)) e w' ∧ Bw u w') := fun u hu => by
        rw [← hot]; exact HOth.out U u _ c4 M4 (by omega) HM4.out (HI4.out.keep hu)
      have HO2 : Hid (∀ u, Bw w4 u → Calls Try.prog 12 #[.slice a0 len0 cap0, .string (Nm.S y1.it.path)] u fun e w' => CopyEndsI (T.filter (Tr.ot y1.it.path)) e w' ∧ Bw u w') := fun u hu => by
        have := HOth.out T u a0 cap0 L0 (by rw [HNL.out]; omega) hT.out (HI.out.keep (hb4.trans hu))
        rwa [HNL.out] at this
      have HTF : Hid ((T.filter (Tr.ot y1.it.path)).length ≤ 1759218604391) := by
        show _ ≤ _
        have := List.length_filter_le (Tr.ot y1.it.path) T
        rw [HTL.out] at this; omega
      obtain ⟨V, hV⟩ : ∃ V, Hid (T.filter (Tr.ot y1.it.path) = V) := ⟨_, rfl⟩
      rw [hV.out] at HO1 HO2 HTF
      have HS2 : Hid (∀ u A c M A' c' M', Tr.its M = V → Tr.its M' = V → ItsAt u A M → ItsAt u A' M' → Calls Try.prog 11 #[.slice A M.length c, .slice A' M'.length c'] u fun e w' => e = .returned (.bool true) ∧ Bw u w') := fun u A c M A' c' M' h1 h2 h3 h4 => by
        have l1 : M.length = V.length := by rw [← h1, Tr.its_len]
        have l2 : M'.length = V.length := by rw [← h2, Tr.its_len]
        have hTF := HTF.out
        exact HSame.out u A c M A' c' M' (by omega) (by omega) (h1.trans h2.symm) h3 h4
      have HWU : Hid (len0 < M4.length → ∀ u, Bw w4 u → Calls Try.prog 13 #[.slice (some ⟨bk, off, none⟩) M4.length c4, .string (Nm.S y1.it.path)] u fun e w' => SayIts T 0 e w' ∧ Bw u w') := fun hl u hu => by
        have hl' : T.length < U.length := by rw [HTL.out, ← HM4.out, Tr.its_len]; exact hl
        have := twithout_any (some ⟨bk, off, none⟩) c4 M4 y1.it.path (by omega) hc4 (by have := HF.out.path; exact this) u (HI4.out.keep hu)
        rw [HM4.out, hbk hl', hwz hl'] at this
        exact this.mono fun e w' h => ⟨h.1.says, h.2⟩
      obtain ⟨d, rfl⟩ : ∃ d, c4 = k + 1 + d := ⟨c4 - k - 1, by omega⟩
      have r0 : (0 : Int) ≤ (k : Int) := Int.natCast_nonneg _
      have r1 : (k : Int) < (M4.length : Int) := by omega
      have r2 : (k : Int) + 1 ≤ ((k + 1 + d : Nat) : Int) := by omega
      have r7 : k ≤ 257 := by omega
      have rw1 : IntKind.i64.wrap ((k : Int) + 1) = (k : Int) + 1 := by rw [IntKind.wrap_i64]; omega
      have r8 : (k : Int) ≤ 257 := by omega
      have rd : (0 : Int) ≤ (d : Int) := Int.natCast_nonneg _
      have r9 : (k : Int) + 1 ≤ (k : Int) + 1 + (d : Int) := by omega
      have r3 : (k : Int) ≤ (k : Int) + 1 := by omega
      have r4 : (0 : Int) ≤ (k : Int) + 1 := by omega
      have r5 : ((k : Int) + 1).toNat = k + 1 := by omega
      have r6 : (k : Int) ≤ ((k + 1 + d : Nat) : Int) := by omega
      have hsl := slice_one11 k m d bk off
      rw [hm.out] at hkm hc4 hml HCk HFi HO1 HWU r1
      subst hE
      clear hyk hye hge hfe hot hbk hwz hOT hOU k1 k2 hm4 hI4 z0 z1 z2 z3 z4 z5 f1 f2 x0 x1 x2 x3 x4 x5
      obtain ⟨z0, -, -, -, -, -⟩ := hX4.out.cells
      go_upto_region 7 with (first
        | (go_at_call 9; refine (HCk.out _ (Bw.refl _)).mono ?_; rintro e w5 ⟨kc, rfl, hw5⟩; obtain ⟨z0', -, -, -, -, -⟩ := (hX4.out.keep hw5).cells)
        | (go_at_call 10; refine (HFi.out _ hw5).mono ?_; rintro e w6 ⟨rfl, hw6⟩; have hb6 := hw5.trans hw6))
      clear z0 z0'
      obtain ⟨x0, x1, x2, x3, x4, x5⟩ := (hX4.out.keep hb6).cells
      go_region_held3 (fun w' => w'.cell? ⟨w.heap.size, 0, none⟩ = some (.string (Nm.S y1.it.path)) ∧ w'.cell? ⟨w.heap.size, 1, none⟩ = some (.int .u8 (y1.it.kind : Int)) ∧ w'.cell? ⟨w.heap.size, 2, none⟩ = some (.int .i64 y1.it.mode) ∧ w'.cell? ⟨w.heap.size, 3, none⟩ = some (.int .i64 y1.it.time) ∧ w'.cell? ⟨w.heap.size, 4, none⟩ = some (.slice y1.ad y1.it.body.length y1.cp) ∧ w'.cell? ⟨w.heap.size, 5, none⟩ = some (.string (Nm.S y1.it.to)) ∧ Bw w6 w')
        (first | exact ⟨x0, x1, x2, x3, x4, x5, Below.drew (Bw.refl _)⟩ | assumption | exact keep_six11 ⟨x0, x1, x2, x3, x4, x5, Bw.refl _⟩ (by repeat (first | assumption | exact Bw.refl _ | refine Below.drew ?_ | refine bw_alloc11 ?_ _)) | exact keep_six11 (by assumption) (by assumption))
        (first
          | (go_at_call 11; clear tokS; refine (HS1.out _ _ _ (hb6.trans (by repeat (first | exact Bw.refl _ | refine Below.drew ?_ | refine bw_alloc11 ?_ _))) ((BoxAt.new w6 y1).keep (by repeat (first | exact Bw.refl _ | refine Below.drew ?_)))).mono ?_; rintro e w7 ⟨rfl, hw7⟩; have b7 : Bw w6 w7 := Bw.trans (by repeat (first | exact Bw.refl _ | refine Below.drew ?_ | refine bw_alloc11 ?_ _)) hw7)
          | (go_at_call 12; clear tokO; refine (HO1.out _ (hb6.trans (by repeat (first | assumption | refine Below.drew ?_)))).mono ?_; rintro e w8 ⟨⟨A8, c8, M8, rfl, hm8, hI8⟩, hw8⟩; have b8 : Bw w6 w8 := Bw.trans (by repeat (first | assumption | refine Below.drew ?_)) hw8)
          | (go_at_call 12; refine (HO2.out _ (hb6.trans (by repeat (first | assumption | refine Below.drew ?_)))).mono ?_; rintro e w9 ⟨⟨A9, c9, M9, rfl, hm9, hI9⟩, hw9⟩; have b9 : Bw w6 w9 := Bw.trans (by repeat (first | exact b8 | refine Below.drew ?_)) hw9; have hI8' : ItsAt w9 A8 M8 := hI8.keep (Bw.trans (by repeat (first | exact Bw.refl _ | refine Below.drew ?_)) hw9))
          | (go_at_call 11; refine (HS2.out _ A8 c8 M8 A9 c9 M9 hm8 hm9 (hI8'.keep (by repeat (first | exact Bw.refl _ | refine Below.drew ?_))) (hI9.keep (by repeat (first | exact Bw.refl _ | refine Below.drew ?_)))).mono ?_; rintro e wA ⟨rfl, hwA⟩; have bA : Bw w6 wA := Bw.trans (by repeat (first | exact b9 | refine Below.drew ?_)) hwA))
      rename_i hSe
      have hSw := hSe.2.2.2.2.2.2
      have e0 := hSe.1
      have HBe : Hid (Bw w4 _) := hb6.trans hSw
      clear hSe
      by_cases hl : len0 < m
      · have q1 : (len0 : Int) < (m : Int) := by omega
        have HWU2 := HWU.out hl
        have HWU3 : Hid _ := HWU2
        have HS3 : Hid (∀ u A c M, Bw w u → Tr.its M = T → ItsAt u A M → Calls Try.prog 11 #[.slice A M.length c, .slice a0 len0 cap0] u fun e w' => e = .returned (.bool true) ∧ Bw u w') := fun u A c M hu h1 h2 => by
          have l1 : M.length = len0 := by rw [← HTL.out, ← h1, Tr.its_len]
          have := HSame.out u A c M a0 cap0 L0 (by omega) (by rw [HNL.out]; omega) (h1.trans hT.out.symm) h2 (HI.out.keep hu)
          rwa [HNL.out] at this
        clear HWU HWU2 hl
        go_wp2_with (first
          | (go_at_call 13; refine (HWU3.out _ HBe.out).mono ?_; rintro e wB ⟨hsB, hwB⟩; obtain ⟨AB, cB, MB, rfl, -, g2⟩ := hsB.form; obtain ⟨hmB, hcB, hIB⟩ := g2.out rfl; have hbB := hb4.trans (HBe.out.trans hwB); clear g2 hsB)
          | (go_at_call 11; refine (HS3.out _ AB cB MB hbB hmB hIB).mono ?_; rintro e wC ⟨rfl, hwC⟩))
        go_meet
        case rel => exact hbB.trans hwC
      · have q1 : ¬ ((len0 : Int) < (m : Int)) := by omega
        clear HWU hl
        go_wp2_with fail
        go_meet
        case rel => exact hb4.trans HBe.out
    · have q1 : (eW == 0) = false := by rw [beq_eq_false_iff_ne]; exact hE
      have hm0 : m = 0 := by rw [← hm.out, f1.out hE]; rfl
      subst hm0
      clear f1 f2 hE
      go_wp2_with fail
      go_meet
      case rel => exact hb4
  case rest =>
    have hbc : Bw w wc := hcut
    clear hcut f1 f2 hs4 z0 z1 z2 z3 z4 z5 x0 x1 x2 x3 x4 x5
    by_cases hE : eR = 0
    · obtain ⟨k1, k2, k3, k4⟩ := Tr.wout_facts (hER.out.trans hE)
      rw [hR.out] at k1 k2 k3 k4
      rw [HTL.out] at k4
      have K1 : Hid ((Tr.chkE R).2 = 0) := k1
      have K2 : Hid (Tr.findE R p = (0, 4)) := k2
      have K3 : Hid (R.filter (fun x => Tr.bnB p x.path) = []) := k3
      subst hE
      clear k1 k2 k3
      go_wp2_with (first
        | (go_at_call 13; refine (HWo.out _ hbc).mono ?_; rintro e wB ⟨hsB, hwB⟩; obtain ⟨AB, cB, MB, rfl, -, g2⟩ := hsB.form; obtain ⟨hmB, hcB, hIB⟩ := g2.out rfl; clear g2 hsB; have hlB : MB.length < len0 := (by have := congrArg List.length hmB; rw [Tr.its_len] at this; omega); have hlB2 : (MB.length : Int) < (len0 : Int) := (by omega))
        | (go_at_call 9; refine (HChk.out R _ AB cB MB K1.out (by omega) hcB hmB hIB).mono ?_; rintro e wC ⟨kc, rfl, hwC⟩)
        | (go_at_call 10; refine (HFind.out R p 0 4 _ AB cB MB K2.out (by omega) hmB (hIB.keep hwC)).mono ?_; rintro e wD ⟨rfl, hwD⟩)
        | (go_at_call 14; refine (HBen.out R _ AB cB MB K3.out (by omega) hmB ((hIB.keep hwC).keep hwD)).mono ?_; rintro e wE ⟨AE, cE, rfl, hwE⟩))
      go_ret
      exact ⟨rfl, (((hbc.trans hwB).trans hwC).trans hwD).trans hwE⟩
    · have q1 := Tr.i_no hE
      have HE : Hid (eR ≠ 0) := hE
      clear hE
      go_wp2_with (go_at_call 13; refine (HWo.out _ hbc).mono ?_; rintro e wB ⟨hsB, hwB⟩; obtain ⟨AB, cB, MB, rfl, g1, -⟩ := hsB.form; obtain rfl := g1.out HE.out; clear g1 hsB)
      go_ret
      exact ⟨rfl, hbc.trans hwB⟩

set_option maxRecDepth 100000 in
theorem lifted (os : Os) (started : os.Started) (H : Type) (enc : TypeId × Value → H) :
    ReturnsInHanded {} Try.checked os 3 .any (Rows.treeBackSpec.pre6 enc Try.prog Try.f3 Rows.treeBackRow.domain false) (Rows.treeBackSpec.post enc Try.prog Try.f3 false true false false) := by
  refine returnsInHanded_of_change_sized (C := Try.checked) own started (by kernel_rfl) Try.func3
    (ChangeSpec.witness6 (enc := enc) (C := Try.checked) false ⟨#[], #[.slice none 0 0, .agg #[.string .empty, .int .u8 0, .int .i64 0, .int .i64 0, .slice none 0 0, .string .empty], .string .empty], []⟩ 8 (by kernel_rfl) (by kernel_rfl) (by kernel_rfl) (by kernel_rfl)) ?_
  intro W base args ds gs before hval0 hW hcnd hsz0 _
  have hval : ∀ (j : Nat) t v, Try.f3.params[j]? = some t → args[j]? = some v → Value.okWide Try.prog W .any base t v := hval0
  have hW' := hW
  obtain ⟨p, q, hA0, hV, rfl, hfz, hnd⟩ := hW
  have hA : DataW.TrodAll enc Try.prog W 0 (fun _ => true) true Try.f3.params.toList args.toList ds p := hA0
  have hsz : (DataW.weightsEach Try.prog (Try.f3.params.toList ++ Rows.treeBackSpec.plain.varTypes Try.prog) (ds ++ gs)).all (· ≤ reachBytes) = true := hsz0
  rw [Try.params3] at hA hval hsz
  obtain ⟨v0, vs0, d0, ds0, p0, q0, hargs, rfl, rfl, h0, r0⟩ := trodAll_cons hA
  obtain ⟨v1, vs1, d1, ds1, p1, q1, rfl, rfl, rfl, h1, r1⟩ := trodAll_cons r0
  obtain ⟨v2, vs2, d2, ds2, p2, q2, rfl, rfl, rfl, h2, r2⟩ := trodAll_cons r1
  obtain ⟨rfl, rfl, rfl⟩ := trodAll_nil r2
  obtain rfl : args = #[v0, v1, v2] := by cases args; simp_all
  obtain ⟨rfl, rfl⟩ := trodVars_none hV
  obtain ⟨a0, len0, cap0, rfl⟩ := okWide_slice Try.underlying22 (hval 0 22 v0 rfl rfl)
  have k0 := h0
  have lt0 : ∀ x ∈ p0, x.block < W.heap.size := by obtain ⟨m, hm⟩ := k0; exact DataW.trod_lt m _ _ _ hm
  obtain ⟨L0, w0⟩ := open_its h0 (fun x hx => by simpa using List.all_eq_true.1 hsz x (DataW.weights_mem_each (j := 0) (t := 22) rfl rfl x hx))
  have k1 := h1
  have lt1 : ∀ x ∈ p1, x.block < W.heap.size := by obtain ⟨m, hm⟩ := k1; exact DataW.trod_lt m _ _ _ hm
  obtain ⟨y1, rfl, w1⟩ := open_item (hval 1 26 v1 rfl rfl) h1 (fun x hx => by simpa using List.all_eq_true.1 hsz x (DataW.weights_mem_each (j := 1) (t := 26) rfl rfl x hx))
  have k2 := h2
  have lt2 : ∀ x ∈ p2, x.block < W.heap.size := by obtain ⟨m, hm⟩ := k2; exact DataW.trod_lt m _ _ _ hm
  obtain ⟨s2, rfl, rfl, w2⟩ := open_str (hval 2 9 v2 rfl rfl) h2 (fun x hx => by simpa using List.all_eq_true.1 hsz x (DataW.weights_mem_each (j := 2) (t := 9) rfl rfl x hx))
  clear hA0 hval0
  refine (walk a0 len0 cap0 L0 y1 s2 W w0 w1 w2).mono fun e W' ⟨he, bel⟩ => ?_
  subst he
  exact ⟨_, rfl, _, _, _, [], _, [], hW', trodAll_mk1 (shut_bool Try.underlying4 _), (trodAll_cons_mk (Below.trod laidOut (by kernel_rfl) (of_decide_eq_true (by kernel_rfl)) k0 bel lt0) (trodAll_cons_mk (Below.trod laidOut (by kernel_rfl) (of_decide_eq_true (by kernel_rfl)) k1 bel lt1) (trodAll_cons_mk (Below.trod laidOut (by kernel_rfl) (of_decide_eq_true (by kernel_rfl)) k2 bel lt2) trodAll_mk0))), rfl, bel.frame _, fun h => by cases h⟩

theorem over : Rows.treeBackRow.holds Try.pinned (OpenSpec.ofChange Rows.treeBackSpec) :=
  OpenClaim.holds_of_wide 3 Try.f3 rfl rfl rfl rfl rfl rfl rfl ⟨rfl, rfl, rfl, rfl, rfl⟩ rfl rfl rfl rfl rfl (by kernel_rfl) Try.func3 (by kernel_rfl)
    (of_decide_eq_true (by kernel_rfl)) (by unfold Func.isWrapper; first | (rw [if_pos (by decide +kernel)]; kernel_rfl) | (rw [if_neg (by decide +kernel)]; exact ⟨rfl, rfl⟩))
    (fun os started H enc _ => lifted os started H enc)

theorem proved : Rows.TreeBackSaid := over
#print axioms proved
end Go.Proofs.Ytjifdoneejofiab.treeBack
