/- Proved: the closed statement PaxKnown answers true (the document's P9.1 to P9.8: the limits and errors have their numbers; the document's examples), with no condition. -/
import Derived.Test.YtmbabfelnieagabDoorAL
import Derived.Test.YtmbabfelnieagabDoorFx
import Derived.Test.YtmbabfelnieagabDoorCards
import Derived.Test.YtmbabfelnieagabDoorTie
import Derived.ShutString
import Derived.ChangeOld
import Derived.SevenTiedAt
namespace Go.Proofs.YtmbabfelnieagabDoor.paxKnown
open Go.ChangeShapes Go.WideShapes Go.ChangeAt Go.RowKit Go.Deep
set_option linter.unusedVariables false

set_option linter.unusedSimpArgs false
attribute [local go_sem] List.getElem?_cons_zero Option.getD_some
open Go.Deep
set_option maxRecDepth 100000 in
set_option maxHeartbeats 4000000 in
theorem known9 (w : World) (hkat : KAt w) : Calls Tryd.prog 6 #[] w fun e w' => e = .returned (.bool true) ∧ Bw w w' := by
  have HKw : Hid (KAt w) := hkat
  clear hkat
  obtain ⟨i1, hj0, hk0, hk1, hk2⟩ := info_parts info_int9
  have tok1 : Hid (w = w) := rfl
  have tok2 : Hid (w = w) := rfl
  have tok3 : Hid (w = w) := rfl
  have tok4 : Hid (w = w) := rfl
  have tok5 : Hid (w = w) := rfl
  have tok6 : Hid (w = w) := rfl
  have tok7 : Hid (w = w) := rfl
  have tok8 : Hid (w = w) := rfl
  have tok9 : Hid (w = w) := rfl
  have tok10 : Hid (w = w) := rfl
  have tok11 : Hid (w = w) := rfl
  have tok12 : Hid (w = w) := rfl
  have tok13 : Hid (w = w) := rfl
  have tok14 : Hid (w = w) := rfl
  have tok15 : Hid (w = w) := rfl
  have tok16 : Hid (w = w) := rfl
  have tok17 : Hid (w = w) := rfl
  have tok18 : Hid (w = w) := rfl
  have tok19 : Hid (w = w) := rfl
  go_enter Tryd.func6, Tryd.ntmps6
  go_wp2_with (refine wpList_litV9 rfl 46 3 i1 _ Tryd.underlying46 hj0 hk0 hk1 5 _ rfl [.int .i64 97, .int .i64 98, .int .i64 99, .int .i64 101, .int .i64 102] rfl (by decide) (by decide) (by simp [Value.cells]) rfl ?_)
  obtain ⟨wa, hwa⟩ : ∃ W, W = w.alloc (.cells ([.int .i64 97, .int .i64 98, .int .i64 99, .int .i64 101, .int .i64 102]).toArray 3) := ⟨_, rfl⟩
  have bwa : Hid (Bw w wa) := by show Bw w wa; rw [hwa]; exact Below.alloc (Bw.refl _) (Nat.le_refl _) _
  have HC : Hid (∀ W, Bw wa W → ∀ k, k < 5 → W.cell? ⟨w.heap.size, k, none⟩ = some (.int .i64 ((Px.psize ([97], Px.vs (91 + k)) : Nat) : Int))) := fun W hW k hk => by
    refine cell_later9 hW ?_
    rw [hwa]
    refine lit_cells9 _ _ _ _ _ ?_
    rcases (show k = 0 ∨ k = 1 ∨ k = 2 ∨ k = 3 ∨ k = 4 by omega) with rfl | rfl | rfl | rfl | rfl
    · rw [Px.ps 91 95 rfl, Px.sz97]; rfl
    · rw [Px.ps 92 96 rfl, Px.sz98]; rfl
    · rw [Px.ps 93 97 rfl, Px.sz99]; rfl
    · rw [Px.ps 94 98 rfl, Px.sz101]; rfl
    · rw [Px.ps 95 99 rfl, Px.sz102]; rfl
  rw [← hwa]
  clear hwa hk2
  go_loop [1, 3] (fun v i => ∃ k : Nat, k ≤ 91 ∧ v = .string (Vs k) ∧ i = .int .i64 (k : Int)) (fun _ i => 91 - (intOf i).toNat)
  case atStart => exact ⟨0, by omega, rfl, rfl⟩
  case round =>
    obtain ⟨k, hk, rfl, rfl⟩ := hrel
    have k0 : (0 : Int) ≤ (k : Int) := Int.natCast_nonneg _
    by_cases hlt : k < 91
    · have t1 : (k : Int) < 91 := by omega
      have r1 := Vs_add k (by omega)
      go_wp2
      go_round
      case rel => exact ⟨k + 1, by omega, rfl, by go_num⟩
      case measure => simp [intOf]; omega
    · obtain rfl : k = 91 := by omega
      clear hlt hk k0
      go_wp2
      go_loopw [0, 1, 4] (fun r v i wr => ∃ k : Nat, k ≤ 5 ∧ r = .bool false ∧ v = .string (Vs (91 + k)) ∧ i = .int .i64 (k : Int) ∧ Bw wa wr) (fun _ _ i _ => 5 - (intOf i).toNat)
      case atStart => exact ⟨0, by omega, rfl, rfl, rfl, Bw.refl _⟩
      case round =>
        obtain ⟨k, hk, rfl, rfl, rfl, hb⟩ := hrel
        have k0 : (0 : Int) ≤ (k : Int) := Int.natCast_nonneg _
        by_cases hlt : k < 5
        · have t1 : (k : Int) < 5 := by omega
          have r1 := Vs_add (91 + k) (by omega)
          obtain ⟨X, hX⟩ : ∃ X, Hid (Vs (91 + k) = X) := ⟨_, rfl⟩
          have HKr : Hid (KAt wr) := HKw.out.keep (bwa.out.trans hb)
          have HS : Hid (∀ u, KAt u → Calls Tryd.prog 8 #[.agg #[.string ⟨#[97]⟩, .string X]] u fun e w' => e = .returned (.int .i64 ((Px.psize ([97], Px.vs (91 + k)) : Nat) : Int)) ∧ Bw u w') := fun u hku => by
            rw [← hX.out]; exact ksize (91 + k) (by omega) u hku
          have x1 := HC.out _ hb k hlt
          obtain ⟨z, hz⟩ : ∃ z, Hid (Px.psize ([97], Px.vs (91 + k)) = z) := ⟨_, rfl⟩
          rw [hz.out] at x1 HS
          rw [hX.out] at r1 ⊢
          go_wp2
          go_region_held3 (fun w' => w'.cell? ⟨w.heap.size, k, none⟩ = some (.int .i64 (z : Int)) ∧ Bw wr w')
            (first | exact ⟨x1, Below.drew (Bw.refl _)⟩ | assumption | (exact keep_c9 (by assumption) (by assumption)))
            (first | (go_at_call 8; refine (HS.out _ (HKr.out.keep (And.right (by assumption)))).mono ?_; rintro e w3 ⟨rfl, hw3⟩))
          rename_i hSe
          have hw4 := hSe.2
          go_wp2
          go_roundw
          case rel => exact ⟨k + 1, by omega, rfl, rfl, by go_num, hb.trans hw4⟩
          case measure => simp [intOf]; omega
        · obtain rfl : k = 5 := by omega
          have HB1 : Hid (Bw w wr) := bwa.out.trans hb
          have HKr : Hid (KAt wr) := HKw.out.keep HB1.out
          clear hlt hk k0 hb HC bwa
          obtain ⟨X, hX⟩ : ∃ X, Hid (X = Vs 96) := ⟨_, rfl⟩
          have zX : X.size = 96 := by rw [hX.out, Vs_size]
          rw [show Vs (91 + 5) = X from hX.out.symm]
          obtain ⟨Y93, hY93⟩ : ∃ Y, Hid (Y = Vs 93) := ⟨_, rfl⟩
          have xY93 : X.extract 0 93 = Y93 := by rw [hX.out, hY93.out, Vs_cut (by decide)]
          obtain ⟨Z1, hZ1⟩ : ∃ Z, Hid (Z = Nm.S ([49, 48, 48, 32, 97, 61] ++ Px.vs 93)) := hidE _
          have rZ1 : ∀ u : World, (Op.stringOp .add ⟨#[49, 48, 48, 32, 97, 61]⟩ Y93).run Tryd.prog u = .ok (.string Z1) u := fun u => by
            rw [run_string_add_sum _ _ _ (by rw [hY93.out, Vs_size]; decide), hY93.out, hZ1.out]
            unfold Vs
            rw [show (⟨#[49, 48, 48, 32, 97, 61]⟩ : ByteArray) = Nm.S [49, 48, 48, 32, 97, 61] from rfl, Nm.append_S]
          obtain ⟨Z, hZ⟩ : ∃ Z, Hid (Z = Nm.S ([49, 48, 48, 32, 97, 61] ++ (Px.vs 93 ++ [10]))) := hidE _
          have rZ : ∀ u : World, (Op.stringOp .add Z1 ⟨#[10]⟩).run Tryd.prog u = .ok (.string Z) u := fun u => by
            rw [run_string_add_sum _ _ _ (by rw [hZ1.out, Nm.size_S, List.length_append, Px.vs_len]; decide), hZ1.out, hZ.out]
            rw [show (⟨#[10]⟩ : ByteArray) = Nm.S [10] from rfl, Nm.append_S, List.append_assoc]
          have zZ : Z.size = 100 := by rw [hZ.out, Nm.size_S, List.length_append, List.length_append, Px.vs_len]; rfl
          go_wp2_with (go_at_call 10; clear tok1; refine (krec [] [98] (by decide) (by decide) _ _ kr1 _ HKr.out).mono ?_; rintro e v1 ⟨⟨A1, c1, rfl, _, _⟩, hv1⟩)
          go_wp2_with (go_at_call 10; clear tok2; refine (krec [97, 61, 98] [] (by decide) (by decide) _ _ kr2 _ (HKr.out.keep hv1)).mono ?_; rintro e v2 ⟨⟨A2, c2, rfl, _, _⟩, hv2⟩)
          go_wp2_with (go_at_call 12; clear tok3; refine (kput _ 2 [([98], []), ([97], [])] 2 rfl (by decide) (by decide) (by decide) _ _ _ Px.put_ba _ ?_ ((HKr.out.keep (hv1.trans hv2)).alloc _)).mono ?_; exact prs_two _ _ rfl [98] [] [97] []; rintro e v3 ⟨⟨A3, c3, rfl⟩, hv3⟩)
          have hb3 : Hid (Bw wr v3) := (hv1.trans hv2).trans (Bw.trans (Below.alloc (Bw.refl _) (Nat.le_refl _) _) hv3)
          have HK3 : Hid (KAt v3) := HKr.out.keep hb3.out
          clear hv1 hv2 hv3
          go_wp2_with (go_at_call 12; clear tok4; refine (kput _ 2 [([97], []), ([97], [])] 2 rfl (by decide) (by decide) (by decide) _ _ _ Px.put_aa _ ?_ (HK3.out.alloc _)).mono ?_; exact prs_two _ _ rfl [97] [] [97] []; rintro e v4 ⟨⟨A4, c4, rfl⟩, hv4⟩)
          have hb4 : Hid (Bw wr v4) := hb3.out.trans (Bw.trans (Below.alloc (Bw.refl _) (Nat.le_refl _) _) hv4)
          have HK4 : Hid (KAt v4) := HKr.out.keep hb4.out
          clear hb3 hv4
          go_wp2_with (go_at_call 11; clear tok5; refine (kover _ _ _ ?_ ?_ ((HK4.out.alloc _).alloc _)).mono ?_; exact prs_two_on v4 [97] [49] [98] [50] _; exact prs_two _ _ (by simp) [98] [51] [99] [52]; rintro e v5 ⟨⟨A5, c5, rfl, hc5, hP5⟩, hv5⟩)
          have hb5 : Hid (Bw wr v5) := hb4.out.trans (Bw.trans (Below.alloc (Bw.refl _) (Nat.le_refl _) _) (Bw.trans (Below.alloc (Bw.refl _) (Nat.le_refl _) _) hv5))
          clear hb4 hv5
          go_wp2_with (first | (refine wpList_litV9 rfl 46 3 i1 _ Tryd.underlying46 hj0 hk0 hk1 5 _ rfl [.int .i64 0, .int .i64 3, .int .i64 4, .int .i64 5, .int .i64 90] rfl (by decide) (by decide) (by simp [Value.cells]) rfl ?_) | (go_at_call 13; refine (kpairs _ _ _ _ _ ?_ ?_).mono ?_; exact hP5.keep (Below.alloc (Bw.refl _) (Nat.le_refl _) _); exact prs_three _ _ rfl [97] [49] [98] [51] [99] [52]; rintro e v6 ⟨rfl, hv6⟩))
          have hb6 : Hid (Bw w v6) := HB1.out.trans (hb5.out.trans (Bw.trans (Below.alloc (Bw.refl _) (Nat.le_refl _) _) hv6))
          clear hb5 hv6 HB1 hP5
          obtain ⟨wb, hwb⟩ : ∃ W, W = v6.alloc (.cells ([.int .i64 0, .int .i64 3, .int .i64 4, .int .i64 5, .int .i64 90]).toArray 3) := ⟨_, rfl⟩
          have bwb : Hid (Bw w wb) := by show Bw w wb; rw [hwb]; exact Bw.trans hb6.out (Below.alloc (Bw.refl _) (Nat.le_refl _) _)
          have HC2 : Hid (∀ W, Bw wb W → ∀ k, k < 5 → ∃ n : Nat, n ≤ 90 ∧ W.cell? ⟨v6.heap.size, k, none⟩ = some (.int .i64 (n : Int))) := fun W hW k hk => by
            rcases (show k = 0 ∨ k = 1 ∨ k = 2 ∨ k = 3 ∨ k = 4 by omega) with rfl | rfl | rfl | rfl | rfl
            · exact ⟨0, by decide, cell_later9 hW (by rw [hwb]; exact lit_cells9 _ _ _ _ _ rfl)⟩
            · exact ⟨3, by decide, cell_later9 hW (by rw [hwb]; exact lit_cells9 _ _ _ _ _ rfl)⟩
            · exact ⟨4, by decide, cell_later9 hW (by rw [hwb]; exact lit_cells9 _ _ _ _ _ rfl)⟩
            · exact ⟨5, by decide, cell_later9 hW (by rw [hwb]; exact lit_cells9 _ _ _ _ _ rfl)⟩
            · exact ⟨90, by decide, cell_later9 hW (by rw [hwb]; exact lit_cells9 _ _ _ _ _ rfl)⟩
          rw [← hwb]
          clear hwb hb6 hj0 hk0 hk1 xY93 rZ1 rZ hZ1 hY93
          go_loopw [0, 131] (fun r i wr => ∃ k : Nat, k ≤ 5 ∧ r = .bool false ∧ i = .int .i64 (k : Int) ∧ Bw wb wr) (fun _ i _ => 5 - (intOf i).toNat)
          case atStart => exact ⟨0, by omega, rfl, rfl, Bw.refl _⟩
          case round =>
            obtain ⟨k, hk, rfl, rfl, hb⟩ := hrel
            have k0 : (0 : Int) ≤ (k : Int) := Int.natCast_nonneg _
            by_cases hlt : k < 5
            · have t1 : (k : Int) < 5 := by omega
              obtain ⟨n, hn, x1⟩ := HC2.out _ hb k hlt
              obtain ⟨Y, hY⟩ := hidE (Vs n)
              have xY : X.extract 0 n = Y := by rw [hX.out, hY.out, Vs_cut (by omega)]
              have n0 : (0 : Int) ≤ (n : Int) := Int.natCast_nonneg _
              have n1 : (n : Int) ≤ 96 := by omega
              obtain ⟨r, hr⟩ := hidE (Px.rcd (Ky, Px.vs n))
              obtain ⟨z, hz⟩ := hidE r.length
              have hzp : Hid (z = Px.psize (Ky, Px.vs n)) := by show _ = _; rw [hz.out, hr.out, Px.rcd_len]
              have hzb : z ≤ 1064 := by rw [hz.out, hr.out]; exact Px.rcd_bd (kfits n hn)
              have HKr3 : Hid (KAt wr) := HKw.out.keep (bwb.out.trans hb)
              have HR : Hid (∀ u, KAt u → Calls Tryd.prog 10 #[.agg #[.string ⟨#[107, 101, 121]⟩, .string Y]] u fun e w' => (∃ A c, e = .returned (.tuple #[.slice A z c, .int .i64 0]) ∧ z ≤ c ∧ RowAt w' A z (Px.rowF r)) ∧ Bw u w') := fun u hku => by
                have := krec Ky (Px.vs n) (by decide) (by rw [Px.vs_len]; omega) r 0 (by rw [kr5 n hn, hr.out]) u hku
                rw [← hz.out] at this
                rw [hY.out]
                exact this
              have HG : Hid (∀ A c u, KAt u → z ≤ c → RowAt u A z (Px.rowF r) → Calls Tryd.prog 15 #[.slice A z c] u fun e w' => (∃ b o c, e = .returned (.tuple #[.slice (some ⟨b, o, none⟩) 1 c, .int .i64 0, .int .i64 0]) ∧ 1 ≤ c ∧ w'.cell? ⟨b, o, none⟩ = some (.string ⟨#[107, 101, 121]⟩) ∧ w'.cell? ⟨b, o + 1, none⟩ = some (.string Y)) ∧ Bw u w') := fun A c u hku hc ha => by
                refine (kget n hn A r c z hr.out.symm hz.out.symm (by omega) hc u ha hku).mono ?_
                rintro e w' ⟨⟨A', c', rfl, h1, h2⟩, h3⟩
                obtain ⟨b, o, rfl, hh⟩ := h2.at (by simp)
                obtain ⟨g1, g2⟩ := hh 0 _ rfl
                rw [hY.out]
                exact ⟨⟨b, o, c', rfl, h1, g1, g2⟩, h3⟩
              have HS : Hid (∀ u, KAt u → Calls Tryd.prog 8 #[.agg #[.string ⟨#[107, 101, 121]⟩, .string Y]] u fun e w' => e = .returned (.int .i64 (z : Int)) ∧ Bw u w') := fun u hku => by
                have := psize_any (Nm.S Ky) (Vs n) (by decide) (by rw [Vs_size]; omega) u hku
                rw [Nm.toList_S, Vs_list, ← hzp.out] at this
                rw [hY.out]
                exact this
              have hne : ∀ u : World, (binOp .neq 23 (.agg #[.string ⟨#[107, 101, 121]⟩, .string Y]) (.agg #[.string ⟨#[107, 101, 121]⟩, .string Y])).run Tryd.prog u = .ok (.bool false) u := fun u => by
                have := neq_pair u (Ky, Px.vs n) (Ky, Px.vs n)
                rw [decide_eq_false (by simp)] at this
                rw [hY.out]
                exact this
              clear hzp hr hz
              go_wp2_with (go_at_call 10; clear tok6; refine (HR.out _ (HKr3.out.alloc _)).mono ?_; rintro e y1 ⟨⟨A1, ca1, rfl, hca1, hra1⟩, hy1⟩)
              go_wp2_with (go_at_call 15; clear tok7; refine (HG.out _ _ _ ((HKr3.out.alloc _).keep hy1) hca1 hra1).mono ?_; rintro e y2 ⟨⟨b2, o2, ca2, rfl, hca2, hp1, hp2⟩, hy2⟩)
              have HKy : Hid (KAt y2) := ((HKr3.out.alloc _).keep hy1).keep hy2
              have hb1 : Bw wr y1 := Bw.trans (Below.alloc (Bw.refl _) (Nat.le_refl _) _) hy1
              have hgp := (hy1.block _ (by simp)).trans (World.alloc_heap_new wr (.cells #[.string ⟨#[107, 101, 121]⟩, .string Y] 23))
              have hg1 : y2.cell? ⟨wr.heap.size, 0, none⟩ = some (.string ⟨#[107, 101, 121]⟩) := cell_later9 hy2 (cell_of_row y1 _ 0 _ _ _ hgp)
              have hg2 : y2.cell? ⟨wr.heap.size, 1, none⟩ = some (.string Y) := cell_later9 hy2 (cell_of_row y1 _ 1 _ _ _ hgp)
              clear hgp hy1 hra1 hca1 HR HG
              go_region_held3 (fun w' => w'.cell? ⟨wr.heap.size, 0, none⟩ = some (.string ⟨#[107, 101, 121]⟩) ∧ w'.cell? ⟨wr.heap.size, 1, none⟩ = some (.string Y) ∧ w'.cell? ⟨b2, o2, none⟩ = some (.string ⟨#[107, 101, 121]⟩) ∧ w'.cell? ⟨b2, o2 + 1, none⟩ = some (.string Y) ∧ Bw y2 w')
                (first | exact ⟨hg1, hg2, hp1, hp2, Below.drew (Bw.refl _)⟩ | assumption | (exact keep_f9 (by assumption) (by assumption)))
                (first | (go_at_call 8; refine (HS.out _ (HKy.out.keep (And.right (And.right (And.right (And.right (by assumption))))))).mono ?_; rintro e w3 ⟨rfl, hw3⟩))
              rename_i hSe
              have hw4 := hSe.2.2.2.2
              go_wp2
              go_roundw
              case rel => exact ⟨k + 1, by omega, rfl, by go_num, hb.trans (hb1.trans (hy2.trans hw4))⟩
              case measure => simp [intOf]; omega
            · obtain rfl : k = 5 := by omega
              have HB2 : Hid (Bw w wr) := bwb.out.trans hb
              have HKr4 : Hid (KAt wr) := HKw.out.keep HB2.out
              clear hlt hk k0 hb HC2 bwb
              obtain ⟨K33, hK33⟩ := hidE (Nm.S (Key32 ++ [55]))
              have rK : ∀ u : World, (Op.stringOp .add ⟨#[97, 98, 99, 100, 101, 102, 103, 104, 105, 106, 107, 108, 109, 110, 111, 112, 113, 114, 115, 116, 117, 118, 119, 120, 121, 122, 49, 50, 51, 52, 53, 54]⟩ ⟨#[55]⟩).run Tryd.prog u = .ok (.string K33) u := fun u => by
                rw [show (⟨#[97, 98, 99, 100, 101, 102, 103, 104, 105, 106, 107, 108, 109, 110, 111, 112, 113, 114, 115, 116, 117, 118, 119, 120, 121, 122, 49, 50, 51, 52, 53, 54]⟩ : ByteArray) = Nm.S Key32 from rfl, show (⟨#[55]⟩ : ByteArray) = Nm.S [55] from rfl, run_string_add_sum _ _ _ (by rw [Nm.size_S, Nm.size_S]; decide), Nm.append_S, hK33.out]
              have HJ : Hid (∀ u, KAt u → Calls Tryd.prog 10 #[.agg #[.string ⟨#[97, 98, 99, 100, 101, 102, 103, 104, 105, 106, 107, 108, 109, 110, 111, 112, 113, 114, 115, 116, 117, 118, 119, 120, 121, 122, 49, 50, 51, 52, 53, 54]⟩, .string ⟨#[]⟩]] u fun e w' => (∃ (A : Option Addr) (m : Nat) (c : Nat), e = .returned (.tuple #[.slice A m c, .int .i64 0])) ∧ Bw u w') := fun u hku => krecE Key32 [] (by decide) (by decide) 0 _ kr3 u hku
              have HK : Hid (∀ u, KAt u → Calls Tryd.prog 10 #[.agg #[.string K33, .string ⟨#[]⟩]] u fun e w' => (∃ (A : Option Addr) (m : Nat) (c : Nat), e = .returned (.tuple #[.slice A m c, .int .i64 91])) ∧ Bw u w') := fun u hku => by
                rw [hK33.out]; exact krecE (Key32 ++ [55]) [] (by decide) (by decide) 91 _ kr4 u hku
              have HZ : Hid (∀ u, KAt u → Calls Tryd.prog 17 #[.string Z, .int .i64 0, .int .i64 90] u fun e w' => e = .returned (.bool true) ∧ Bw u w') := fun u hku => by
                rw [hZ.out]; exact kref _ (by rw [List.length_append, List.length_append, Px.vs_len]; decide) 0 90 (by decide) (by decide) Px.other_bad u hku
              clear hK33 hZ
              go_wp2_with (go_at_call 10; clear tok8; refine (HJ.out _ HKr4.out).mono ?_; rintro e q1 ⟨⟨A1, m1, c1, rfl⟩, hq1⟩)
              go_wp2_with (go_at_call 10; clear tok9; refine (HK.out _ (HKr4.out.keep (by repeat (first | assumption | (apply Bw.trans; assumption))))).mono ?_; rintro e q2 ⟨⟨A2, m2, c2, rfl⟩, hq2⟩)
              go_wp2_with (go_at_call 17; clear tok10; refine (kref [53, 32, 97, 61, 98, 10] (by decide) 0 90 (by decide) (by decide) Px.nr1 _ (HKr4.out.keep (by repeat (first | assumption | (apply Bw.trans; assumption))))).mono ?_; rintro e q3 ⟨rfl, hq3⟩)
              go_wp2_with (go_at_call 17; clear tok11; refine (kref [54, 32, 97, 61, 98, 99] (by decide) 0 90 (by decide) (by decide) Px.nr2 _ (HKr4.out.keep (by repeat (first | assumption | (apply Bw.trans; assumption))))).mono ?_; rintro e q4 ⟨rfl, hq4⟩)
              go_wp2_with (go_at_call 17; clear tok12; refine (kref [49, 48, 48, 48, 48, 32, 97, 61, 98, 10] (by decide) 0 90 (by decide) (by decide) Px.nr3 _ (HKr4.out.keep (by repeat (first | assumption | (apply Bw.trans; assumption))))).mono ?_; rintro e q5 ⟨rfl, hq5⟩)
              go_wp2_with (go_at_call 17; clear tok13; refine (kref [53, 32, 97, 98, 10] (by decide) 0 90 (by decide) (by decide) Px.nr4 _ (HKr4.out.keep (by repeat (first | assumption | (apply Bw.trans; assumption))))).mono ?_; rintro e q6 ⟨rfl, hq6⟩)
              go_wp2_with (go_at_call 7; clear tok14; refine (awake9_any _ (HKr4.out.keep (by repeat (first | assumption | (apply Bw.trans; assumption))))).mono ?_; rintro e q7 ⟨rfl, hq7⟩)
              go_wp2_with (go_at_call 17; clear tok15; refine (HZ.out _ (HKr4.out.keep (by repeat (first | assumption | (apply Bw.trans; assumption))))).mono ?_; rintro e q8 ⟨rfl, hq8⟩)
              go_wp2_with (go_at_call 17; clear tok16; refine (kref [55, 32, 97, 61, 98, 10] (by decide) 0 90 (by decide) (by decide) Px.nr5 _ (HKr4.out.keep (by repeat (first | assumption | (apply Bw.trans; assumption))))).mono ?_; rintro e q9 ⟨rfl, hq9⟩)
              go_wp2_with (go_at_call 17; clear tok17; refine (kref [48, 54, 32, 97, 61, 98, 10] (by decide) 0 90 (by decide) (by decide) Px.nr6 _ (HKr4.out.keep (by repeat (first | assumption | (apply Bw.trans; assumption))))).mono ?_; rintro e q10 ⟨rfl, hq10⟩)
              go_wp2_with (go_at_call 17; clear tok18; refine (kref [54, 32, 61, 98, 99, 10] (by decide) 0 91 (by decide) (by decide) Px.nr7 _ (HKr4.out.keep (by repeat (first | assumption | (apply Bw.trans; assumption))))).mono ?_; rintro e q11 ⟨rfl, hq11⟩)
              go_wp2_with (go_at_call 17; clear tok19; refine (kref [54, 32, 98, 61, 97, 10, 54, 32, 97, 61, 98, 10] (by decide) 6 92 (by decide) (by decide) Px.nr8 _ (HKr4.out.keep (by repeat (first | assumption | (apply Bw.trans; assumption))))).mono ?_; rintro e q12 ⟨rfl, hq12⟩)
              go_ret
              exact ⟨rfl, HB2.out.trans (hq1.trans (hq2.trans (hq3.trans (hq4.trans (hq5.trans (hq6.trans (hq7.trans (hq8.trans (hq9.trans (hq10.trans (hq11.trans (hq12))))))))))))⟩
set_option maxRecDepth 100000 in
set_option maxHeartbeats 4000000 in
theorem walk  (w : World) (hk : KAt w)  :
    Calls Tryd.prog 6 #[] w fun e w' => e = .returned (.bool true) ∧ Below w.heap.size w w' := by
  exact known9 w hk

set_option maxRecDepth 100000 in
theorem lifted (os : Os) (started : os.Started) (H : Type) (enc : TypeId × Value → H) :
    ReturnsInHanded {} Tryd.checked os 6 .any (fun w args => (Rows.paxKnownSpec.pre enc Tryd.prog Tryd.f6 [] false w args ∧ laidMetH Tryd.prog laidK w) ∧ sizedMet enc Tryd.prog Tryd.f6 (OpenSpec.ofChange Rows.paxKnownSpec) false w args)
      (Rows.paxKnownSpec.post enc Tryd.prog Tryd.f6 false true false false) := by
  refine returnsInHanded_of_change_and (C := Tryd.checked) (X := fun w _ => laidMetH Tryd.prog laidK w) (fun _ _ _ hh h => h.of_heap hh) own started (by kernel_rfl) Tryd.func6
    (ChangeSpec.witness_shaped (enc := enc) (C := Tryd.checked) (os := os) (X := fun w _ => laidMetH Tryd.prog laidK w) false (World.doorLaid Tryd.prog 400 os) #[] 8 rfl (World.shaped_of_RefB (by kernel_rfl) (by kernel_rfl)) (by kernel_rfl) (by kernel_rfl) (by kernel_rfl) (door_met os _)) ?_
  intro W base args ds gs before hval0 hW hcnd hsz0 hL _
  have hval : ∀ (j : Nat) t v, Tryd.f6.params[j]? = some t → args[j]? = some v → Value.okWide Tryd.prog W .any base t v := hval0
  have hW' := hW
  obtain ⟨p, q, hA0, hV, rfl, hfz, hnd⟩ := hW
  have hA : DataW.TrodAll enc Tryd.prog W 0 (fun _ => true) true Tryd.f6.params.toList args.toList ds p := hA0
  have hsz : (DataW.weightsEach Tryd.prog (Tryd.f6.params.toList ++ Rows.paxKnownSpec.plain.varTypes Tryd.prog) (ds ++ gs)).all (· ≤ reachBytes) = true := hsz0
  have hkat := kat_of_laid hL
  rw [Tryd.params6] at hA hval hsz
  obtain ⟨rfl, rfl, rfl⟩ := trodAll_none hA
  obtain ⟨rfl, rfl⟩ := trodVars_none hV
  clear hA0 hval0
  refine (walk  W hkat ).mono fun e W' ⟨he, bel⟩ => ?_
  subst he
  exact ⟨_, rfl, _, _, _, [], _, [], hW', trodAll_mk1 (shut_bool Tryd.underlying4 _), trodAll_mk0, rfl, bel.frame _, fun h => by cases h⟩

theorem over : Rows.paxKnownRow.holds Tryd.pinned (OpenSpec.ofChange Rows.paxKnownSpec) :=
  OpenClaim.holds_of_wide 6 Tryd.f6 rfl rfl rfl rfl rfl rfl rfl ⟨rfl, rfl, rfl, rfl, rfl⟩ rfl rfl rfl rfl rfl (by kernel_rfl) Tryd.func6 (by kernel_rfl)
    (of_decide_eq_true (by kernel_rfl)) (by unfold Func.isWrapper; first | (rw [if_pos (by decide +kernel)]; kernel_rfl) | (rw [if_neg (by decide +kernel)]; exact ⟨rfl, rfl⟩))
    (fun os started H enc _ => lifted os started H enc)

theorem proved : Rows.PaxKnownCardSaid :=
  Claim7.holds_tied_plain_at .later [] [.data, .data, .data] true (true, "8b76b5f6fb7e1ef1fb9d7b5d44a7d62024e4498942da5fd639422ba9fed3a870") true
    over (fun _ h => by cases h) (by kernel_rfl) (fun _ h => by cases h) paxKnown_row_tie rfl ⟨rfl, rfl⟩ (by kernel_rfl) rfl
    (fun f fn hf hfn => by
      obtain rfl : f = 6 := Option.some.inj ((show Tryd.prog.funcNamed "tabulary/tabularylaw09.PaxKnown" = some 6 by kernel_rfl).symm.trans hf) |>.symm
      obtain rfl : fn = Tryd.f6 := (Option.some.inj (Tryd.func6.symm.trans hfn)).symm
      exact ⟨by kernel_rfl, fun j t ht => by
        rw [Tryd.params6] at ht
        simp at ht⟩)
    (by kernel_rfl)
#print axioms proved
end Go.Proofs.YtmbabfelnieagabDoor.paxKnown
