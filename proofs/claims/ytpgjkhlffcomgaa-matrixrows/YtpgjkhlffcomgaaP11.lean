/- The program's Inverse. -/
import Derived.Test.YtpgjkhlffcomgaaP10
namespace Go.Proofs.Ytpgjkhlffcomgaa
open Go.RowKit

/-- k rows of the matrix with the one that changes nothing beside it -/
def wideW (n : Nat) (Z : Nat → Nat → Int) (k r c : Nat) : Int := if r < k then wideZ n (capZ n Z) oneZ r c else 0
theorem wideW_bd {w : World} {A : Option Addr} {n : Nat} {R : Nat → Option Addr} {L C : Nat → Nat} {Z : Nat → Nat → Int} (h : MatAt w A n R L C Z) (k r c : Nat) : 0 ≤ wideW n Z k r c ∧ wideW n Z k r c < 256 := by
  unfold wideW; split
  · unfold wideZ; split
    · exact capZ_bd h r c
    · exact oneZ_bd _ _
  · decide

theorem wideW_next {n k : Nat} {Z : Nat → Nat → Int} (hk : k < n) (r c : Nat) (hc : c < n + n) : wideW n Z (k + 1) r c = upd (upd (wideW n Z k) k fun c => if c < n then Z k c else wideW n Z k k c) k (upd (upd (wideW n Z k) k (fun c => if c < n then Z k c else wideW n Z k k c) k) (n + k) 1) r c := by
  by_cases e : r = k
  · subst e
    rw [upd_at, upd_at]
    by_cases e' : c = n + r
    · subst e'; rw [upd_at]; unfold wideW wideZ oneZ; rw [if_pos (by omega), if_neg (by omega), if_pos (by omega)]
    · rw [upd_ne _ _ e']; unfold wideW wideZ oneZ
      rw [if_pos (show r < r + 1 by omega), capZ_at hk]
      by_cases h : c < n
      · rw [if_pos h, if_pos h]
      · rw [if_neg h, if_neg h, if_neg (by omega), if_neg (by omega)]
  · rw [upd_ne _ _ e, upd_ne _ _ e]; unfold wideW
    by_cases h : r < k
    · rw [if_pos h, if_pos (by omega)]
    · rw [if_neg h, if_neg (by omega)]

theorem iv_bad (A : Option Addr) (n ca : Nat) (R : Nat → Option Addr) (L C : Nat → Nat) (Z : Nat → Nat → Int) (w : World) (ha : MatAt w A n R L C Z) (x : Int) (hx : Wrong n L x) (h0 : x ≠ 0) :
    Calls Try.prog 22 #[.slice A n ca] w fun e w' => e = .returned (.tuple #[.slice none 0 0, .int .i64 x]) ∧ w' = w := by
  have e1 : (x != 0) = true := by simpa using h0
  go_enter Try.func22, Try.ntmps22
  go_wp2_with (go_at_call 29; refine (wrong_any _ _ _ _ _ _ _ _ ha).mono ?_; rintro e w' ⟨y, rfl, hx', hw'⟩; subst w'; obtain rfl := Wrong.unique hx' hx)
  go_ret2
  exact ⟨rfl, rfl⟩

theorem iv_shape (A : Option Addr) (n ca : Nat) (R : Nat → Option Addr) (L C : Nat → Nat) (Z : Nat → Nat → Int) (w : World) (ha : MatAt w A n R L C Z) (hx : Wrong n L 0) (h0 : colsN n L ≠ n) :
    Calls Try.prog 22 #[.slice A n ca] w fun e w' => e = .returned (.tuple #[.slice none 0 0, .int .i64 6]) ∧ w' = w := by
  have e1 : (colsI n L != (n : Int)) = true := by rw [colsI_eq]; simp; omega
  go_enter Try.func22, Try.ntmps22
  go_wp2_with (first
    | (go_at_call 29; refine (wrong_any _ _ _ _ _ _ _ _ ha).mono ?_; rintro e w' ⟨y, rfl, hx', hw'⟩; subst w'; obtain rfl := Wrong.unique hx' hx)
    | (go_at_call 35; refine (columns_any _ _ _ _ _ _ _ _ ha).mono ?_; rintro e w' ⟨rfl, hw'⟩; subst w'))
  go_ret2
  exact ⟨rfl, rfl⟩

/-- heads of which k stand on their rows' second halves -/
structure Halves (W : World) (g h n k : Nat) (P : Nat → Nat) (Z : Nat → Nat → Int) : Prop where
  heads : ∃ cur, W.heap[h]? = some (.cells cur 22 (0, 0)) ∧ cur.size = n ∧ ∀ r, r < n → cur[r]? = some (if r < k then .slice (some ⟨g, P r * (n + n) + n, none⟩) n n else .slice (some ⟨g, P r * (n + n), none⟩) (n + n) (n + n))
  rows : ∀ r, r < n → RowAt W (some ⟨g, P r * (n + n), none⟩) (n + n) (Z r)
  ne : g ≠ h
  glt : g < W.heap.size

theorem Halves.of_grid {W : World} {g h n : Nat} {P : Nat → Nat} {Z : Nat → Nat → Int} (d : Grid W g h n (n + n) P Z) : Halves W g h n 0 P Z := by
  obtain ⟨cur, h1, h2, h3⟩ := d.heads
  exact ⟨⟨cur, h1, h2, fun r hr => by rw [if_neg (by omega)]; exact h3 r hr⟩, fun r hr => d.row hr, d.ne, d.glt⟩

theorem Halves.next {W : World} {g h n k : Nat} {P : Nat → Nat} {Z : Nat → Nat → Int} (d : Halves W g h n k P Z) (hk : k < n) : Halves (W.setCell ⟨h, k, none⟩ (.slice (some ⟨g, P k * (n + n) + n, none⟩) n n)) g h n (k + 1) P Z := by
  obtain ⟨cur, h1, h2, h3⟩ := d.heads
  refine ⟨⟨_, heap_setCell_same W h k cur _ _ h1, by simpa using h2, fun r hr => ?_⟩, fun r hr => (d.rows r hr).set (fun a ha => by cases ha; exact d.ne), d.ne, by rw [World.size_setCell]; exact d.glt⟩
  by_cases e : r = k
  · subst e; rw [Array.getElem?_setIfInBounds_self_of_lt (by omega), if_pos (by omega)]
  · rw [Array.getElem?_setIfInBounds_ne (Ne.symm e), h3 r hr]
    by_cases e' : r < k
    · rw [if_pos e', if_pos (by omega)]
    · rw [if_neg e', if_neg (by omega)]

theorem Halves.head {W : World} {g h n k : Nat} {P : Nat → Nat} {Z : Nat → Nat → Int} (d : Halves W g h n k P Z) {r : Nat} (hr : r < n) : W.cell? ⟨h, r, none⟩ = some (if r < k then .slice (some ⟨g, P r * (n + n) + n, none⟩) n n else .slice (some ⟨g, P r * (n + n), none⟩) (n + n) (n + n)) ∧ W.frozen? ⟨h, r, none⟩ = false := by
  obtain ⟨cur, h1, _, h2⟩ := d.heads
  exact ⟨(cell_of_row W h r cur _ _ h1).trans (h2 r hr), frozen_of_row W h r cur _ h1⟩

theorem Halves.new {W : World} {g h n base : Nat} {P : Nat → Nat} {Z : Nat → Nat → Int} (d : Halves W g h n n P Z) (hg : base ≤ g) (hh : base ≤ h) : MatRes W base (.slice (some ⟨h, 0, none⟩) n n) n (fun _ => n) (fun i j => Z i (n + j)) := by
  have hl : h < W.heap.size := by obtain ⟨cur, h1, _⟩ := d.heads; exact (Array.getElem?_eq_some_iff.1 h1).1
  refine ⟨_, _, fun r => some ⟨g, P r * (n + n) + n, none⟩, fun _ => n, rfl, ⟨Or.inr ⟨h, 0, rfl, fun r hr => ?_⟩, fun r hr => ?_⟩, Or.inr ⟨_, _, rfl, hh, hl⟩, fun r hr => Or.inr ⟨_, _, rfl, hg, d.glt⟩⟩
  · rw [Nat.zero_add, (d.head hr).1, if_pos hr]
  · exact RowAt.from_ (d.rows r hr)

theorem space_int (n m : Nat) (mi : Int) (he : mi = (m : Int)) (hn : n ≤ 131072) (hm : n * m ≤ 8388608) (hm' : m ≤ 8388608) (w : World) :
    Calls Try.prog 36 #[.int .i64 n, .int .i64 mi] w fun e w' => ∃ g h, e = .returned (.slice (some ⟨h, 0, none⟩) n n) ∧ Grid w' g h n m (fun r => r) (fun _ _ => 0) ∧ w.heap.size ≤ g ∧ w.heap.size ≤ h ∧ Bw w w' := by
  subst he; exact space_any n m hn hm hm' w

/-- what Inverse says of a square -/
def InvOk (n : Nat) (Z Y : Nat → Nat → Int) (x : Int) (k : Nat) : Prop :=
  (x = 20 ∧ k = 0 ∧ ¬ ∃ B, ∀ i j, i < n → j < n → La.mm n (fm Z) B i j = La.one i j) ∨ (x = 0 ∧ k = n ∧ ∀ i j, i < n → j < n → La.mm n (fm Z) (fm Y) i j = La.one i j)

set_option maxRecDepth 100000 in
set_option maxHeartbeats 1000000 in
theorem iv_ok (A : Option Addr) (n ca : Nat) (R : Nat → Option Addr) (L C : Nat → Nat) (Z : Nat → Nat → Int) (w : World) (ha : MatAt w A n R L C Z) (hx : Wrong n L 0) (hc : colsI n L = (n : Int)) :
    Calls Try.prog 22 #[.slice A n ca] w fun e w' => ∃ v x k Y, e = .returned (.tuple #[v, .int .i64 x]) ∧ MatRes w' w.heap.size v k (fun _ => n) Y ∧ InvOk n Z Y x k ∧ Bw w w' := by
  obtain ⟨hn, -, -⟩ := wrong_ok hx
  obtain ⟨-, hLm⟩ := wrong_cols hx hc
  have hLm' : Hid (∀ r, r < n → L r = n) := hLm
  clear hLm
  have hnq : n * (n + n) ≤ 32 * 64 := Nat.mul_le_mul hn (by omega)
  have hcb := wideW_bd ha
  have e1 : (colsI n L != (n : Int)) = false := by rw [hc]; simp
  have e2 : (2 * (n : Int)) = ((n + n : Nat) : Int) := by omega
  go_enter Try.func22, Try.ntmps22
  go_wp2_with (first
    | (go_at_call 29; refine (wrong_any _ _ _ _ _ _ _ _ ha).mono ?_; rintro e w' ⟨x, rfl, hx', hw'⟩; subst w'; obtain rfl := Wrong.unique hx' hx)
    | (go_at_call 35; refine (columns_any _ _ _ _ _ _ _ _ ha).mono ?_; rintro e w' ⟨rfl, hw'⟩; subst w')
    | (go_at_call 36; refine (space_int n (n + n) _ (by omega) (by omega) (by omega) (by omega) _).mono ?_; rintro e w1 ⟨g, h, rfl, d, hg, hh, hbw⟩))
  obtain ⟨P, d⟩ : ∃ P, Grid w1 g h n (n + n) P (fun _ _ => 0) := ⟨_, d⟩
  go_loopw [28] (fun i wr => ∃ k : Nat, k ≤ n ∧ i = .int .i64 k ∧ Grid wr g h n (n + n) P (wideW n Z k) ∧ Bw w wr) (fun i _ => n - (intOf i).toNat)
  case atStart => exact ⟨0, Nat.zero_le _, rfl, d.congr (fun r c => hcb _ _ _) (fun r c _ _ => by unfold wideW; rw [if_neg (by omega)]), hbw⟩
  case round =>
    obtain ⟨k, hk, rfl, dk, hbk⟩ := hrel
    have hao := ha.keep hbk
    by_cases hlt : k < n
    · have hLk := hLm'.out k hlt
      obtain ⟨b1, o1, e3, hc1⟩ := hao.at hlt
      have h1 := hc1 k hlt
      rw [hLk] at h1
      have hrow := hao.2 k hlt
      rw [hLk] at hrow
      have k0 : (0 : Int) ≤ (k : Int) := Int.natCast_nonneg _
      have k1 : (k : Int) < (n : Int) := by omega
      obtain ⟨c1, -⟩ := dk.head hlt
      obtain ⟨w2, hcp, d2, hx2⟩ := copy_grid (cb := C k) 3 dk hlt (show n ≤ n + n by omega) hrow
      obtain ⟨c2, f2⟩ := d2.cell hlt (c := n + k) (by omega)
      have hb2 : Bw w w2 := Below.trans hbk (hx2.below hbk.size (fun b e => by omega))
      have d3 := d2.set (x := 1) hlt (show n + k < n + n by omega) (by omega)
      have hb3 := Bw.put hb2 hg (P k * (n + n) + (n + k)) (.int .u8 1)
      subst e3
      clear hc1 hLk hao
      go_wp2
      go_roundw
      case rel => exact ⟨k + 1, by omega, by go_num, d3.congr (fun r c => hcb _ _ _) (fun r c _ hc' => wideW_next hlt r c hc'), hb3⟩
      case measure => simp [intOf]; omega
    · have ek : n = k := by omega
      subst ek
      have hfull : ∀ i j, i < n → j < n + n → wideW n Z n i j = wideZ n Z oneZ i j := fun i j hi hj => by
        unfold wideW wideZ; rw [if_pos hi, capZ_at hi]
      go_wp2_with (go_at_call 38; refine (reduce_any g h n (n + n) n P _ _ dk (by omega) (by omega) (by omega)).mono ?_; rintro e w2 ⟨r, p, P2, Z2, rfl, d2, hst, hrn, hx2⟩; (by_cases hrl : r < n))
      · have hs := hst.from_ hfull
        have hb2 : Bw w w2 := Below.trans hbk (hx2.below hbk.size (fun b e => by omega))
        go_wp2
        go_ret2
        exact ⟨_, 20, 0, oneZ, rfl, res_none _ _ _ _, Or.inl ⟨rfl, rfl, inv_none_of hs hrl⟩, hb2⟩
      · have ern : r = n := by omega
        subst ern
        have hs := hst.from_ hfull
        have hb2 : Bw w w2 := Below.trans hbk (hx2.below hbk.size (fun b e => by omega))
        have hh0 := Halves.of_grid d2
        go_loopw [52] (fun i wr => ∃ k : Nat, k ≤ r ∧ i = .int .i64 k ∧ Halves wr g h r k P2 Z2 ∧ Bw w wr) (fun i _ => r - (intOf i).toNat)
        case atStart => exact ⟨0, Nat.zero_le _, rfl, hh0, hb2⟩
        case round =>
          obtain ⟨k, hk, rfl, dh, hbh⟩ := hrel
          by_cases hlt : k < r
          · obtain ⟨c1, f1⟩ := dh.head hlt
            rw [if_neg (Nat.lt_irrefl k)] at c1
            have k0 : (0 : Int) ≤ (k : Int) := Int.natCast_nonneg _
            have k1 : (k : Int) < (r : Int) := by omega
            have dn := dh.next hlt
            have hr0 : ¬ r = 0 := by omega
            have hbn := Bw.put hbh hh k (.slice (some ⟨g, P2 k * (r + r) + r, none⟩) r r)
            go_wp2
            go_roundw
            case rel => exact ⟨k + 1, by omega, by go_num, dn, hbn⟩
            case measure => simp [intOf]; omega
          · have ek : r = k := by omega
            subst ek
            go_wp2
            go_ret2
            exact ⟨_, 0, r, _, rfl, dh.new hg hh, Or.inr ⟨rfl, rfl, inv_some_of hs⟩, hbh⟩

/-- what Inverse says -/
def IvSays (n : Nat) (L : Nat → Nat) (Z Y : Nat → Nat → Int) (x : Int) (k : Nat) : Prop :=
  (Wrong n L x ∧ x ≠ 0 ∧ k = 0) ∨ (Wrong n L 0 ∧ colsN n L ≠ n ∧ x = 6 ∧ k = 0) ∨ (Wrong n L 0 ∧ colsN n L = n ∧ InvOk n Z Y x k)

theorem iv_all (A : Option Addr) (n ca : Nat) (R : Nat → Option Addr) (L C : Nat → Nat) (Z : Nat → Nat → Int) (w : World) (ha : MatAt w A n R L C Z) :
    Calls Try.prog 22 #[.slice A n ca] w fun e w' => ∃ v x k Y, e = .returned (.tuple #[v, .int .i64 x]) ∧ MatRes w' w.heap.size v k (fun _ => n) Y ∧ IvSays n L Z Y x k ∧ Bw w w' := by
  obtain ⟨x, hx⟩ := wrong_some_x n L
  by_cases h1 : x = 0
  · subst h1
    by_cases h2 : colsN n L = n
    · refine (iv_ok A n ca R L C Z w ha hx (by rw [colsI_eq, h2])).mono ?_
      rintro e w' ⟨v, x, k, Y, he, hm, hi, hw⟩
      exact ⟨v, x, k, Y, he, hm, Or.inr (Or.inr ⟨hx, h2, hi⟩), hw⟩
    · refine (iv_shape A n ca R L C Z w ha hx h2).mono ?_
      rintro e w' ⟨he, rfl⟩
      exact ⟨_, 6, 0, oneZ, he, res_none _ _ _ _, Or.inr (Or.inl ⟨hx, h2, rfl, rfl⟩), Bw.refl _⟩
  · refine (iv_bad A n ca R L C Z w ha x hx h1).mono ?_
    rintro e w' ⟨he, rfl⟩
    exact ⟨_, x, 0, oneZ, he, res_none _ _ _ _, Or.inl ⟨hx, h1, rfl⟩, Bw.refl _⟩

end Go.Proofs.Ytpgjkhlffcomgaa
