/- What the document's own Steps makes of rows: they are brought to steps. -/
import Derived.Test.YtpgjkhlffcomgaaM11
namespace Go.Proofs.Ytpgjkhlffcomgaa
open Go.RowKit

/-- what is kept from turn to turn -/
def StepInv (n m j r : Nat) (Z0 Z : Nat → Nat → Int) (p : Nat → Nat) : Prop := La.RowEq n m (fm Z0) (fm Z) ∧ La.Stepped n j (fm Z) r p

theorem stepped_full {n j c : Nat} {W : Nat → Nat → La.F8} {p : Nat → Nat} (h : La.Stepped n j W n p) (hc : j ≤ c) : La.Stepped n c W n p :=
  ⟨h.le, fun i hi => by have := h.lt i hi; omega, h.rise, h.at_, fun k l h1 h2 _ => by omega⟩

/-- the numbers behind the change of rows: row q scaled stands in the row r, row r in the row q -/
def swapZ (Z : Nat → Nat → Int) (r q j : Nat) : Nat → Nat → Int := upd (upd Z q (Z r)) r (fun i => mulI (Z q i) (invR (Z q j)))
/-- i rows are done -/
def doneZ (Z : Nat → Nat → Int) (r j i : Nat) : Nat → Nat → Int := fun k l => if k < i ∧ k ≠ r then addI (Z k l) (mulI (Z k j) (Z r l)) else Z k l

theorem doneZ_zero (Z : Nat → Nat → Int) (r j : Nat) : doneZ Z r j 0 = Z := by
  funext k l; unfold doneZ; rw [if_neg (by omega)]
theorem doneZ_skip (Z : Nat → Nat → Int) (r j : Nat) : doneZ Z r j (r + 1) = doneZ Z r j r := by
  funext k l; unfold doneZ
  by_cases h : k < r
  · rw [if_pos ⟨by omega, by omega⟩, if_pos ⟨h, by omega⟩]
  · rw [if_neg (fun e => by omega), if_neg (fun e => by omega)]
theorem doneZ_at (Z : Nat → Nat → Int) (r j i : Nat) : doneZ Z r j i i = Z i := by
  funext l; unfold doneZ; rw [if_neg (by omega)]
theorem doneZ_piv (Z : Nat → Nat → Int) (r j i : Nat) : doneZ Z r j i r = Z r := by
  funext l; unfold doneZ; rw [if_neg (fun e => e.2 rfl)]
theorem doneZ_next (Z : Nat → Nat → Int) (r j i : Nat) (h : i ≠ r) : doneZ Z r j (i + 1) = upd (doneZ Z r j i) i (fun l => addI (Z i l) (mulI (Z i j) (Z r l))) := by
  funext k l
  unfold upd doneZ
  by_cases e : k = i
  · subst e; rw [if_pos ⟨by omega, h⟩, if_pos rfl]
  · rw [if_neg e]
    by_cases h2 : k < i ∧ k ≠ r
    · rw [if_pos ⟨by omega, h2.2⟩, if_pos h2]
    · rw [if_neg (fun e => h2 ⟨by omega, e.2⟩), if_neg h2]

theorem turn_is {n : Nat} {Z : Nat → Nat → Int} {r q j : Nat} (hZ : ∀ i, i < n → ∀ l, 0 ≤ Z i l ∧ Z i l < 256) (hr : r < n) (hq : q < n) :
    ∀ k l, k < n → fm (doneZ (swapZ Z r q j) r j n) k l = La.turn (fm Z) r q j (fi (invR (Z q j))) k l := by
  intro k l hk
  have hqj := hZ q hq j
  have hinv := invR_bd (Z q j)
  have hpiv : ∀ l, swapZ Z r q j r l = mulI (Z q l) (invR (Z q j)) := fun l => by unfold swapZ; rw [upd_at]
  have hpf : ∀ l, fi (swapZ Z r q j r l) = La.ml (fi (invR (Z q j))) (fm Z q l) := fun l => by
    rw [hpiv, fi_mul (hZ q hq l) hinv, La.mul_comm]; rfl
  have hpb : ∀ l, 0 ≤ swapZ Z r q j r l ∧ swapZ Z r q j r l < 256 := fun l => by rw [hpiv]; exact mulI_bd _ _ (hZ q hq l).2
  unfold La.turn
  by_cases e : k = r
  · subst e
    rw [if_pos rfl]
    show fi (doneZ _ _ _ _ _ _) = _
    rw [doneZ_piv, hpf]
  · rw [if_neg e]
    have hsk : ∀ l, swapZ Z r q j k l = if k = q then Z r l else Z k l := fun l => by
      unfold swapZ; rw [upd_ne _ _ e]; unfold upd
      by_cases e2 : k = q
      · rw [if_pos e2, if_pos e2]
      · rw [if_neg e2, if_neg e2]
    have hkb : ∀ l, 0 ≤ swapZ Z r q j k l ∧ swapZ Z r q j k l < 256 := fun l => by
      rw [hsk]; split
      · exact hZ r hr l
      · exact hZ k hk l
    have hkf : ∀ l, fi (swapZ Z r q j k l) = if k = q then fm Z r l else fm Z k l := fun l => by
      rw [hsk]; split <;> rfl
    show fi (doneZ (swapZ Z r q j) r j n k l) = _
    have e3 : doneZ (swapZ Z r q j) r j n k l = addI (swapZ Z r q j k l) (mulI (swapZ Z r q j k j) (swapZ Z r q j r l)) := by
      unfold doneZ; rw [if_pos ⟨hk, e⟩]
    rw [e3, fi_add (hkb l) (mulI_bd _ _ (hkb j).2), fi_mul (hkb j) (hpb l), hkf, hkf, hpf]

theorem inv_next {n m j r q : Nat} {Z0 Z : Nat → Nat → Int} {p : Nat → Nat} (h : StepInv n m j r Z0 Z p) (hZ : ∀ i, i < n → ∀ l, 0 ≤ Z i l ∧ Z i l < 256) (hr : r < n) (hrq : r ≤ q) (hq : q < n) (hne : Z q j ≠ 0) (hjm : j < m) :
    StepInv n m (j + 1) (r + 1) Z0 (doneZ (swapZ Z r q j) r j n) (fun i => if i = r then j else p i) := by
  have hpos : 0 < Z q j := by have := hZ q hq j; omega
  have hc : La.ml (fm Z q j) (fi (invR (Z q j))) = La.f1 := fi_inv hpos (hZ q hq j).2
  have ht := turn_is (j := j) hZ hr hq
  refine ⟨h.1.trans ((La.turn_eq hr hq hc).trans (La.RowEq.of_eq fun i l hi _ => ht i l hi)), ?_⟩
  have hs := h.2.next hr hrq hq hc
  have hjm' := hjm
  refine ⟨hs.le, hs.lt, hs.rise, fun k i hk hi => ?_, fun k l h1 h2 h3 => ?_⟩
  · rw [ht k _ hk]; exact hs.at_ k i hk hi
  · rw [ht k l h2]; exact hs.none k l h1 h2 h3

theorem inv_skip {n m j r : Nat} {Z0 Z : Nat → Nat → Int} {p : Nat → Nat} (h : StepInv n m j r Z0 Z p) (hz : ∀ k, r ≤ k → k < n → Z k j = 0) : StepInv n m (j + 1) r Z0 Z p :=
  ⟨h.1, h.2.skip (fun k h1 h2 => by show fi (Z k j) = La.f0; rw [hz k h1 h2]; rfl)⟩

theorem cell_bw {W W' : World} (h : Bw W W') {a : Addr} {v : Value} (hc : W.cell? a = some v) : W'.cell? a = some v := by
  rw [h.cell (p := a) (block_lt_of_cell hc)]; exact hc

set_option maxRecDepth 100000 in
set_option maxHeartbeats 4000000 in
theorem rsteps_some (A : Option Addr) (n cap m cols : Nat) (R : Nat → Option Addr) (L C : Nat → Nat) (Z0 : Nat → Nat → Int) (w : World) (h : MatAt w A n R L C Z0) (hC : ∀ r, r < n → R r = none → C r = 0) (hLm : ∀ r, r < n → L r = m)
    (hm : m ≤ 131072) (hcm : cols ≤ m) (hn : n ≤ 32) (hn0 : 0 < n) :
    Calls Try.prog 39 #[.slice A n cap, .int .i64 (cols : Int)] w fun e w' => ∃ g cap' r R' C' Z' p, e = .returned (.tuple #[.slice (some ⟨g, 0, none⟩) n cap', .int .i64 ((r : Nat) : Int)]) ∧ StepInv n m cols r Z0 Z' p ∧ Work w' g n m R' C' Z' ∧ Bw w w' := by
  have hcop := rcopied_any A n cap R L C Z0 w h hC (fun r hr => by rw [hLm r hr]; omega) (by omega)
  go_enter Try.func39, Try.ntmps39
  go_wp2_with (go_at_call 16; refine hcop.mono ?_; rintro e w1 ⟨v, R1, C1, rfl, hown, hw1⟩; obtain ⟨g, cap', rfl, hg, hwork⟩ := Work.of_own hown hn0 hLm)
  go_loopw [7, 8] (fun a b wr => ∃ (r j : Nat) (R' : Nat → Option Addr) (C' : Nat → Nat) (Z : Nat → Nat → Int) (p : Nat → Nat), r ≤ n ∧ j ≤ cols ∧ a = .int .i64 r ∧ b = .int .i64 j ∧ Work wr g n m R' C' Z ∧ Hid (StepInv n m j r Z0 Z p) ∧ Bw w wr) (fun _ b _ => cols - (intOf b).toNat)
  case atStart => exact ⟨0, 0, R1, C1, Z0, fun i => i, Nat.zero_le _, Nat.zero_le _, rfl, rfl, hwork, ⟨La.RowEq.refl _ _ _, ⟨Nat.zero_le _, fun i hi => by omega, fun i k _ hk => by omega, fun k i _ hi => by omega, fun k j _ _ hj => by omega⟩⟩, hw1⟩
  case round =>
    rename World => wo
    obtain ⟨r, j, R', C', Z, p, hrn, hjc, rfl, rfl, hwk, hinv, hwo⟩ := hrel
    by_cases hjl : j < cols
    · by_cases hrl : r < n
      · go_wp2
        go_loop [9] (fun i => ∃ q : Nat, r ≤ q ∧ q ≤ n ∧ i = .int .i64 q ∧ Hid (∀ k, r ≤ k → k < q → Z k j = 0)) (fun i => n - (intOf i).toNat)
        case atStart => exact ⟨r, Nat.le_refl _, hrn, rfl, fun k h1 h2 => by omega⟩
        case round =>
          obtain ⟨q, hrq, hqn, rfl, hno⟩ := hrel
          by_cases hql : q < n
          · have hcq := hwk.cell hql
            obtain ⟨b, o, eR, hc⟩ := (hwk.row q hql).at (k := j) (by omega)
            have hcj := hc j (by omega)
            have hzb := (hwk.row q hql).2 j
            have h1 := hcq.1
            rw [eR] at h1
            have hjm : (j : Int) < (m : Int) := by omega
            by_cases hz : Z q j = 0
            · have hz' : (Z q j == 0) = true := by simpa using hz
              clear hc hcq
              go_wp2
              go_round
              case rel => exact ⟨q + 1, by omega, by omega, by go_num, fun k h1 h2 => by by_cases e : k = q; (subst e; exact hz); exact hno k h1 (by omega)⟩
              case measure => simp [intOf]; omega
            · have hz' : (Z q j == 0) = false := by simpa using hz
              have hqne : ((q : Int) == (n : Int)) = false := by simp; omega
              have hcr := hwk.cell hrl
              have h3 := hcr.1
              have hfq := hcq.2
              have hapq : b ≠ g := hwk.apart q ⟨b, o, none⟩ hql eR
              have hwk1 := hwk.set hql (hwk.row r hrl) (c := C' r) (fun a ha => hwk.apart r a hrl ha) (hwk.room r hrl)
              have hrq1 : RowAt (wo.setCell ⟨g, q, none⟩ (.slice (R' r) m (C' r))) (some ⟨b, o, none⟩) m (Z q) := eR ▸ (hwk.row q hql).set (fun a ha => hwk.apart q a hql ha)
              have hsc := fun i => mulI_bd (Z q i) (invR (Z q j)) ((hwk.row q hql).2 i).2
              have hib := invR_bd (Z q j)
              have hbw1 : Bw w (wo.setCell ⟨g, q, none⟩ (.slice (R' r) m (C' r))) := Below.setCell hwo hg _
              have hgl := hwk1.lt
              have hfr := (hwk1.cell hrl).2
              have hcr1 := (hwk1.cell hrl).1
              obtain ⟨W1, hW1⟩ : ∃ W1, wo.setCell ⟨g, q, none⟩ (.slice (R' r) m (C' r)) = W1 := ⟨_, rfl⟩
              rw [hW1] at hwk1 hrq1 hbw1 hgl hfr hcr1
              have hcj1 : W1.cell? ⟨b, o + j, none⟩ = some (.int .u8 (Z q j)) := by
                obtain ⟨b', o', e', hc'⟩ := hrq1.at (k := j) (by omega)
                cases e'; exact hc' j (by omega)
              clear hc hcq hcr
              go_wp2_with (first | (go_at_call 45; refine (rinv_any _ (by omega) (by omega) _).mono ?_; rintro e w' ⟨rfl, hw'⟩; subst w') | (go_at_call 44; refine (rscaled_any _ m _ (Z q) (fun i => mulI (Z q i) (invR (Z q j))) _ hib.1 hib.2 hm W1 hrq1 (fun i => rfl)).mono ?_; rintro e W2 ⟨v2, rfl, hown2, hbw2⟩; obtain ⟨A2, c2, rfl, hl2, _, hrow2, hA2⟩ := row_of_own hsc hown2; have hwk2 := hwk1.keep hbw2; have hcr2 := (hwk2.cell hrl).1; have hfr2 := (hwk2.cell hrl).2))
              have hwk3 := hwk2.set hrl hrow2 (c := c2) (fun a ha => by have := (hA2 a ha).1; omega) hl2
              have hbw3 : Bw w (W2.setCell ⟨g, r, none⟩ (.slice A2 m c2)) := Below.setCell (hbw1.trans hbw2) hg _
              have hZs : ∀ i, i < n → ∀ l, 0 ≤ Z i l ∧ Z i l < 256 := fun i hi => (hwk.row i hi).2
              have hS : ∀ i, i < n → ∀ l, 0 ≤ swapZ Z r q j i l ∧ swapZ Z r q j i l < 256 := fun i hi => (hwk3.row i hi).2
              have hnext := inv_next hinv.out hZs hrl hrq hql hz (by omega)
              have HN : Hid (StepInv n m (j + 1) (r + 1) Z0 (doneZ (swapZ Z r q j) r j n) (fun i => if i = r then j else p i)) := hnext
              clear hnext hwk1 hrq1 hbw1 hgl hfr hcr1 hcj1 hown2 hrow2 hwk2 hcr2 hfr2 hW1 hcj h1 h3 hfq
              go_loopw [11, 12] (fun i _ wr => ∃ (t : Nat) (Rt : Nat → Option Addr) (Ct : Nat → Nat), t ≤ n ∧ i = .int .i64 t ∧ Work wr g n m Rt Ct (doneZ (swapZ Z r q j) r j t) ∧ Bw w wr) (fun i _ _ => n - (intOf i).toNat)
              case atStart => exact ⟨0, _, _, Nat.zero_le _, rfl, by rw [doneZ_zero]; exact hwk3, hbw3⟩
              case round =>
                obtain ⟨t, Rt, Ct, htn, rfl, hwt, hbt⟩ := hrel
                by_cases htl : t < n
                · by_cases htr : t = r
                  · have htr' : ((t : Int) != (r : Int)) = false := by rw [htr]; simp
                    go_wp2
                    go_roundw
                    case rel => exact ⟨t + 1, Rt, Ct, by omega, by go_num, by rw [htr, doneZ_skip]; rw [htr] at hwt; exact hwt, hbt⟩
                    case measure => simp [intOf]; omega
                  · have htr' : ((t : Int) != (r : Int)) = true := by simp; omega
                    have c1 := (hwt.cell htl).1
                    have c2' := (hwt.cell hrl).1
                    have f1 := (hwt.cell htl).2
                    have rt := hwt.row t htl
                    have rr := hwt.row r hrl
                    rw [doneZ_at] at rt
                    rw [doneZ_piv] at rr
                    obtain ⟨b5, o5, e5, hc5⟩ := rt.at (k := j) (by omega)
                    have c3 := hc5 j (by omega)
                    have x5 := rt.2 j
                    have hh5 := fun i => addI_bd (swapZ Z r q j t i) (mulI (swapZ Z r q j t j) (swapZ Z r q j r i)) (rt.2 i).2 (mulI_bd _ _ x5.2).2
                    have l5 : b5 < wr.heap.size := block_lt_of_cell c3
                    have lg := hwt.lt
                    rw [e5] at c1 rt
                    have it0 : (0 : Int) ≤ (t : Int) := Int.natCast_nonneg _
                    have it1 : (t : Int) < (n : Int) := by omega
                    have ir0 : (0 : Int) ≤ (r : Int) := Int.natCast_nonneg _
                    have ir1 : (r : Int) < (n : Int) := by omega
                    have ij0 : (0 : Int) ≤ (j : Int) := Int.natCast_nonneg _
                    clear hc5
                    go_wp2
                    go_region_held3 (fun w' => w'.cell? ⟨g, t, none⟩ = some (.slice (some ⟨b5, o5, none⟩) m (Ct t)) ∧ w'.cell? ⟨g, r, none⟩ = some (.slice (Rt r) m (Ct r)) ∧ w'.cell? ⟨b5, o5 + j, none⟩ = some (.int .u8 (swapZ Z r q j t j)))
                      (first | go_keep | (go_split_ands; refine ⟨cell_bw hbp (by assumption), cell_bw hbp (by assumption), cell_bw hbp (by assumption)⟩))
                      (first | (go_at_call 13; refine (rplus_ok _ _ m _ _ (swapZ Z r q j t) (swapZ Z r q j r) (fun l => addI (swapZ Z r q j t l) (mulI (swapZ Z r q j t j) (swapZ Z r q j r l))) _ x5.1 x5.2 hm wr.drew rt rr (fun i => rfl)).mono ?_; rintro e w4 ⟨v4, rfl, hown4, hbp⟩; obtain ⟨A4, c4, rfl, hl4, _, hrow4, hA4⟩ := row_of_own hh5 hown4))
                    have hbp' : Bw wr w4 := ⟨hbp.os, hbp.tape, hbp.output, hbp.size, hbp.block⟩
                    have hw4 := hwt.keep hbp'
                    have f4 := (hw4.cell htl).2
                    have c4' := (hw4.cell htl).1
                    have hA4' : ∀ a, A4 = some a → a.block ≠ g := fun a ha => by
                      have h5 : wr.heap.size ≤ a.block := (hA4 a ha).1
                      omega
                    have hw5 := hw4.set htl hrow4 (c := c4) hA4' hl4
                    go_wp2
                    go_roundw
                    case rel => exact ⟨t + 1, _, _, by omega, by go_num, by rw [doneZ_next _ _ _ _ htr]; exact hw5, Below.setCell (hbt.trans hbp') hg _⟩
                    case measure => simp [intOf]; omega
                · have et : n = t := by omega
                  subst et
                  go_wp2
                  go_roundw
                  case rel => exact ⟨r + 1, j + 1, Rt, Ct, _, _, by omega, by omega, by go_num, by go_num, hwt, HN, hbt⟩
                  case measure => simp [intOf]; omega
          · have eq : n = q := by omega
            subst eq
            have hqe : ((n : Int) == (n : Int)) = true := by simp
            go_wp2
            go_roundw
            case rel => exact ⟨r, j + 1, R', C', Z, p, hrn, by omega, rfl, by go_num, hwk, inv_skip hinv.out (fun k h1 h2 => hno k h1 h2), hwo⟩
            case measure => simp [intOf]; omega
      · have er : n = r := by omega
        subst er
        have hrl' : decide ((n : Int) < (n : Int)) = false := by simp
        go_wp2
        go_ret2
        exact ⟨_, _, n, _, _, _, p, rfl, ⟨hinv.out.1, stepped_full hinv.out.2 hjc⟩, hwk, hwo⟩
    · have ej : cols = j := by omega
      subst ej
      have hjl' : decide ((cols : Int) < (cols : Int)) = false := by simp
      go_wp2
      go_ret2
      exact ⟨_, _, r, _, _, _, p, rfl, hinv.out, hwk, hwo⟩

end Go.Proofs.Ytpgjkhlffcomgaa
