/- Texts of mine, put together. -/
import Derived.Test.YtbhbdhkifkmkbaaB5
import Derived.ProofKit
import Derived.OpenShut
import Derived.SizedLaws
import Derived.Deep.Matrix

set_option linter.unusedVariables false

/- The program's Inverse. -/
namespace Go.Proofs.Ytbhbdhkifkmkbaa
open Go.RowKit

/-- k rows of the matrix with the one that changes nothing beside it -/
def wideW (n : Nat) (Z : Nat → Nat → Int) (k r c : Nat) : Int := if r < k then wideZ n (capZ n Z) oneZ r c else 0
theorem wideW_bd {w : World} {A : Option Addr} {n : Nat} {R : Nat → Option Addr} {L C : Nat → Nat} {Z : Nat → Nat → Int} (h : MatAt w A n R L C Z) (k r c : Nat) : 0 ≤ wideW n Z k r c ∧ wideW n Z k r c < 256 := by
  unfold wideW; split
  · unfold wideZ; split
    · exact capZ_bd h r c
    · exact oneZ_bd _ _
  · decide

theorem wideW_next {n k : Nat} {Z : Nat → Nat → Int} (hk : k < n) (r c : Nat) (hc : c < n + n) : wideW n Z (k + 1) r c = upd (upd (wideW n Z k) k fun c => if c < n then Z k c else wideW n Z k k c) k (upd (upd (wideW n Z k) k (fun c => if c < n then Z k c else wideW n Z k k c) k) (n + k) 1) r c := by
  by_cases e : r = k
  · subst e
    rw [upd_at, upd_at]
    by_cases e' : c = n + r
    · subst e'; rw [upd_at]; unfold wideW wideZ oneZ; rw [if_pos (by omega), if_neg (by omega), if_pos (by omega)]
    · rw [upd_ne _ _ e']; unfold wideW wideZ oneZ
      rw [if_pos (show r < r + 1 by omega), capZ_at hk]
      by_cases h : c < n
      · rw [if_pos h, if_pos h]
      · rw [if_neg h, if_neg h, if_neg (by omega), if_neg (by omega)]
  · rw [upd_ne _ _ e, upd_ne _ _ e]; unfold wideW
    by_cases h : r < k
    · rw [if_pos h, if_pos (by omega)]
    · rw [if_neg h, if_neg (by omega)]

theorem iv_bad (A : Option Addr) (n ca : Nat) (R : Nat → Option Addr) (L C : Nat → Nat) (Z : Nat → Nat → Int) (w : World) (ha : MatAt w A n R L C Z) (x : Int) (hx : Wrong n L x) (h0 : x ≠ 0) :
    Calls Try.prog 27 #[.slice A n ca] w fun e w' => e = .returned (.tuple #[.slice none 0 0, .int .i64 x]) ∧ w' = w := by
  have e1 : (x != 0) = true := by simpa using h0
  go_enter Try.func27, Try.ntmps27
  go_wp2_with (go_at_call 39; refine (wrong_any _ _ _ _ _ _ _ _ ha).mono ?_; rintro e w' ⟨y, rfl, hx', hw'⟩; subst w'; obtain rfl := Wrong.unique hx' hx)
  go_ret2
  exact ⟨rfl, rfl⟩

theorem iv_shape (A : Option Addr) (n ca : Nat) (R : Nat → Option Addr) (L C : Nat → Nat) (Z : Nat → Nat → Int) (w : World) (ha : MatAt w A n R L C Z) (hx : Wrong n L 0) (h0 : colsN n L ≠ n) :
    Calls Try.prog 27 #[.slice A n ca] w fun e w' => e = .returned (.tuple #[.slice none 0 0, .int .i64 6]) ∧ w' = w := by
  have e1 : (colsI n L != (n : Int)) = true := by rw [colsI_eq]; simp; omega
  go_enter Try.func27, Try.ntmps27
  go_wp2_with (first
    | (go_at_call 39; refine (wrong_any _ _ _ _ _ _ _ _ ha).mono ?_; rintro e w' ⟨y, rfl, hx', hw'⟩; subst w'; obtain rfl := Wrong.unique hx' hx)
    | (go_at_call 40; refine (columns_any _ _ _ _ _ _ _ _ ha).mono ?_; rintro e w' ⟨rfl, hw'⟩; subst w'))
  go_ret2
  exact ⟨rfl, rfl⟩

/-- heads of which k stand on their rows' second halves -/
structure Halves (W : World) (g h n k : Nat) (P : Nat → Nat) (Z : Nat → Nat → Int) : Prop where
  heads : ∃ cur, W.heap[h]? = some (.cells cur 37 (0, 0)) ∧ cur.size = n ∧ ∀ r, r < n → cur[r]? = some (if r < k then .slice (some ⟨g, P r * (n + n) + n, none⟩) n n else .slice (some ⟨g, P r * (n + n), none⟩) (n + n) (n + n))
  rows : ∀ r, r < n → RowAt W (some ⟨g, P r * (n + n), none⟩) (n + n) (Z r)
  ne : g ≠ h
  glt : g < W.heap.size

theorem Halves.of_grid {W : World} {g h n : Nat} {P : Nat → Nat} {Z : Nat → Nat → Int} (d : Grid W g h n (n + n) P Z) : Halves W g h n 0 P Z := by
  obtain ⟨cur, h1, h2, h3⟩ := d.heads
  exact ⟨⟨cur, h1, h2, fun r hr => by rw [if_neg (by omega)]; exact h3 r hr⟩, fun r hr => d.row hr, d.ne, d.glt⟩

theorem Halves.next {W : World} {g h n k : Nat} {P : Nat → Nat} {Z : Nat → Nat → Int} (d : Halves W g h n k P Z) (hk : k < n) : Halves (W.setCell ⟨h, k, none⟩ (.slice (some ⟨g, P k * (n + n) + n, none⟩) n n)) g h n (k + 1) P Z := by
  obtain ⟨cur, h1, h2, h3⟩ := d.heads
  refine ⟨⟨_, heap_setCell_same W h k cur _ _ h1, by simpa using h2, fun r hr => ?_⟩, fun r hr => (d.rows r hr).set (fun a ha => by cases ha; exact d.ne), d.ne, by rw [World.size_setCell]; exact d.glt⟩
  by_cases e : r = k
  · subst e; rw [Array.getElem?_setIfInBounds_self_of_lt (by omega), if_pos (by omega)]
  · rw [Array.getElem?_setIfInBounds_ne (Ne.symm e), h3 r hr]
    by_cases e' : r < k
    · rw [if_pos e', if_pos (by omega)]
    · rw [if_neg e', if_neg (by omega)]

theorem Halves.head {W : World} {g h n k : Nat} {P : Nat → Nat} {Z : Nat → Nat → Int} (d : Halves W g h n k P Z) {r : Nat} (hr : r < n) : W.cell? ⟨h, r, none⟩ = some (if r < k then .slice (some ⟨g, P r * (n + n) + n, none⟩) n n else .slice (some ⟨g, P r * (n + n), none⟩) (n + n) (n + n)) ∧ W.frozen? ⟨h, r, none⟩ = false := by
  obtain ⟨cur, h1, _, h2⟩ := d.heads
  exact ⟨(cell_of_row W h r cur _ _ h1).trans (h2 r hr), frozen_of_row W h r cur _ h1⟩

theorem Halves.new {W : World} {g h n base : Nat} {P : Nat → Nat} {Z : Nat → Nat → Int} (d : Halves W g h n n P Z) (hg : base ≤ g) (hh : base ≤ h) : MatRes W base (.slice (some ⟨h, 0, none⟩) n n) n (fun _ => n) (fun i j => Z i (n + j)) := by
  have hl : h < W.heap.size := by obtain ⟨cur, h1, _⟩ := d.heads; exact (Array.getElem?_eq_some_iff.1 h1).1
  refine ⟨_, _, fun r => some ⟨g, P r * (n + n) + n, none⟩, fun _ => n, rfl, ⟨Or.inr ⟨h, 0, rfl, fun r hr => ?_⟩, fun r hr => ?_⟩, Or.inr ⟨_, _, rfl, hh, hl⟩, fun r hr => Or.inr ⟨_, _, rfl, hg, d.glt⟩⟩
  · rw [Nat.zero_add, (d.head hr).1, if_pos hr]
  · exact RowAt.from_ (d.rows r hr)

theorem space_int (n m : Nat) (mi : Int) (he : mi = (m : Int)) (hn : n ≤ 131072) (hm : n * m ≤ 8388608) (hm' : m ≤ 8388608) (w : World) :
    Calls Try.prog 41 #[.int .i64 n, .int .i64 mi] w fun e w' => ∃ g h, e = .returned (.slice (some ⟨h, 0, none⟩) n n) ∧ Grid w' g h n m (fun r => r) (fun _ _ => 0) ∧ w.heap.size ≤ g ∧ w.heap.size ≤ h ∧ Bw w w' := by
  subst he; exact space_any n m hn hm hm' w

/-- what Inverse says of a square -/
def InvOk (n : Nat) (Z Y : Nat → Nat → Int) (x : Int) (k : Nat) : Prop :=
  (x = 20 ∧ k = 0 ∧ ¬ ∃ B, ∀ i j, i < n → j < n → La.mm n (fm Z) B i j = La.one i j) ∨ (x = 0 ∧ k = n ∧ ∀ i j, i < n → j < n → La.mm n (fm Z) (fm Y) i j = La.one i j)

set_option maxRecDepth 100000 in
set_option maxHeartbeats 1000000 in
theorem iv_ok (A : Option Addr) (n ca : Nat) (R : Nat → Option Addr) (L C : Nat → Nat) (Z : Nat → Nat → Int) (w : World) (ha : MatAt w A n R L C Z) (hx : Wrong n L 0) (hc : colsI n L = (n : Int)) :
    Calls Try.prog 27 #[.slice A n ca] w fun e w' => ∃ v x k Y, e = .returned (.tuple #[v, .int .i64 x]) ∧ MatRes w' w.heap.size v k (fun _ => n) Y ∧ InvOk n Z Y x k ∧ Bw w w' := by
  obtain ⟨hn, -, -⟩ := wrong_ok hx
  obtain ⟨-, hLm⟩ := wrong_cols hx hc
  have hLm' : Hid (∀ r, r < n → L r = n) := hLm
  clear hLm
  have hnq : n * (n + n) ≤ 32 * 64 := Nat.mul_le_mul hn (by omega)
  have hcb := wideW_bd ha
  have e1 : (colsI n L != (n : Int)) = false := by rw [hc]; simp
  have e2 : (2 * (n : Int)) = ((n + n : Nat) : Int) := by omega
  go_enter Try.func27, Try.ntmps27
  go_wp2_with (first
    | (go_at_call 39; refine (wrong_any _ _ _ _ _ _ _ _ ha).mono ?_; rintro e w' ⟨x, rfl, hx', hw'⟩; subst w'; obtain rfl := Wrong.unique hx' hx)
    | (go_at_call 40; refine (columns_any _ _ _ _ _ _ _ _ ha).mono ?_; rintro e w' ⟨rfl, hw'⟩; subst w')
    | (go_at_call 41; refine (space_int n (n + n) _ (by omega) (by omega) (by omega) (by omega) _).mono ?_; rintro e w1 ⟨g, h, rfl, d, hg, hh, hbw⟩))
  obtain ⟨P, d⟩ : ∃ P, Grid w1 g h n (n + n) P (fun _ _ => 0) := ⟨_, d⟩
  go_loopw [28] (fun i wr => ∃ k : Nat, k ≤ n ∧ i = .int .i64 k ∧ Grid wr g h n (n + n) P (wideW n Z k) ∧ Bw w wr) (fun i _ => n - (intOf i).toNat)
  case atStart => exact ⟨0, Nat.zero_le _, rfl, d.congr (fun r c => hcb _ _ _) (fun r c _ _ => by unfold wideW; rw [if_neg (by omega)]), hbw⟩
  case round =>
    obtain ⟨k, hk, rfl, dk, hbk⟩ := hrel
    have hao := ha.keep hbk
    by_cases hlt : k < n
    · have hLk := hLm'.out k hlt
      obtain ⟨b1, o1, e3, hc1⟩ := hao.at hlt
      have h1 := hc1 k hlt
      rw [hLk] at h1
      have hrow := hao.2 k hlt
      rw [hLk] at hrow
      have k0 : (0 : Int) ≤ (k : Int) := Int.natCast_nonneg _
      have k1 : (k : Int) < (n : Int) := by omega
      obtain ⟨c1, -⟩ := dk.head hlt
      obtain ⟨w2, hcp, d2, hx2⟩ := copy_grid (cb := C k) 3 dk hlt (show n ≤ n + n by omega) hrow
      obtain ⟨c2, f2⟩ := d2.cell hlt (c := n + k) (by omega)
      have hb2 : Bw w w2 := Below.trans hbk (hx2.below hbk.size (fun b e => by omega))
      have d3 := d2.set (x := 1) hlt (show n + k < n + n by omega) (by omega)
      have hb3 := Bw.put hb2 hg (P k * (n + n) + (n + k)) (.int .u8 1)
      subst e3
      clear hc1 hLk hao
      go_wp2
      go_roundw
      case rel => exact ⟨k + 1, by omega, by go_num, d3.congr (fun r c => hcb _ _ _) (fun r c _ hc' => wideW_next hlt r c hc'), hb3⟩
      case measure => simp [intOf]; omega
    · have ek : n = k := by omega
      subst ek
      have hfull : ∀ i j, i < n → j < n + n → wideW n Z n i j = wideZ n Z oneZ i j := fun i j hi hj => by
        unfold wideW wideZ; rw [if_pos hi, capZ_at hi]
      go_wp2_with (go_at_call 42; refine (reduce_any g h n (n + n) n P _ _ dk (by omega) (by omega) (by omega)).mono ?_; rintro e w2 ⟨r, p, P2, Z2, rfl, d2, hst, hrn, hx2⟩; (by_cases hrl : r < n))
      · have hs := hst.from_ hfull
        have hb2 : Bw w w2 := Below.trans hbk (hx2.below hbk.size (fun b e => by omega))
        go_wp2
        go_ret2
        exact ⟨_, 20, 0, oneZ, rfl, res_none _ _ _ _, Or.inl ⟨rfl, rfl, inv_none_of hs hrl⟩, hb2⟩
      · have ern : r = n := by omega
        subst ern
        have hs := hst.from_ hfull
        have hb2 : Bw w w2 := Below.trans hbk (hx2.below hbk.size (fun b e => by omega))
        have hh0 := Halves.of_grid d2
        go_loopw [52] (fun i wr => ∃ k : Nat, k ≤ r ∧ i = .int .i64 k ∧ Halves wr g h r k P2 Z2 ∧ Bw w wr) (fun i _ => r - (intOf i).toNat)
        case atStart => exact ⟨0, Nat.zero_le _, rfl, hh0, hb2⟩
        case round =>
          obtain ⟨k, hk, rfl, dh, hbh⟩ := hrel
          by_cases hlt : k < r
          · obtain ⟨c1, f1⟩ := dh.head hlt
            rw [if_neg (Nat.lt_irrefl k)] at c1
            have k0 : (0 : Int) ≤ (k : Int) := Int.natCast_nonneg _
            have k1 : (k : Int) < (r : Int) := by omega
            have dn := dh.next hlt
            have hr0 : ¬ r = 0 := by omega
            have hbn := Bw.put hbh hh k (.slice (some ⟨g, P2 k * (r + r) + r, none⟩) r r)
            go_wp2
            go_roundw
            case rel => exact ⟨k + 1, by omega, by go_num, dn, hbn⟩
            case measure => simp [intOf]; omega
          · have ek : r = k := by omega
            subst ek
            go_wp2
            go_ret2
            exact ⟨_, 0, r, _, rfl, dh.new hg hh, Or.inr ⟨rfl, rfl, inv_some_of hs⟩, hbh⟩

/-- what Inverse says -/
def IvSays (n : Nat) (L : Nat → Nat) (Z Y : Nat → Nat → Int) (x : Int) (k : Nat) : Prop :=
  (Wrong n L x ∧ x ≠ 0 ∧ k = 0) ∨ (Wrong n L 0 ∧ colsN n L ≠ n ∧ x = 6 ∧ k = 0) ∨ (Wrong n L 0 ∧ colsN n L = n ∧ InvOk n Z Y x k)

theorem iv_all (A : Option Addr) (n ca : Nat) (R : Nat → Option Addr) (L C : Nat → Nat) (Z : Nat → Nat → Int) (w : World) (ha : MatAt w A n R L C Z) :
    Calls Try.prog 27 #[.slice A n ca] w fun e w' => ∃ v x k Y, e = .returned (.tuple #[v, .int .i64 x]) ∧ MatRes w' w.heap.size v k (fun _ => n) Y ∧ IvSays n L Z Y x k ∧ Bw w w' := by
  obtain ⟨x, hx⟩ := wrong_some_x n L
  by_cases h1 : x = 0
  · subst h1
    by_cases h2 : colsN n L = n
    · refine (iv_ok A n ca R L C Z w ha hx (by rw [colsI_eq, h2])).mono ?_
      rintro e w' ⟨v, x, k, Y, he, hm, hi, hw⟩
      exact ⟨v, x, k, Y, he, hm, Or.inr (Or.inr ⟨hx, h2, hi⟩), hw⟩
    · refine (iv_shape A n ca R L C Z w ha hx h2).mono ?_
      rintro e w' ⟨he, rfl⟩
      exact ⟨_, 6, 0, oneZ, he, res_none _ _ _ _, Or.inr (Or.inl ⟨hx, h2, rfl, rfl⟩), Bw.refl _⟩
  · refine (iv_bad A n ca R L C Z w ha x hx h1).mono ?_
    rintro e w' ⟨he, rfl⟩
    exact ⟨_, x, 0, oneZ, he, res_none _ _ _ _, Or.inl ⟨hx, h1, rfl⟩, Bw.refl _⟩

end Go.Proofs.Ytbhbdhkifkmkbaa

/- What the document says of a small matrix: the statements' own wakes. -/
namespace Go.Proofs.Ytbhbdhkifkmkbaa
open Go.RowKit

theorem row_lit (W : World) (cs : Array Value) (n : Nat) (f : Nat → Int) (hf : ∀ i, 0 ≤ f i ∧ f i < 256) (h : ∀ i, i < n → cs[i]? = some (.int .u8 (f i))) : RowAt (W.alloc (.cells cs 5)) (some ⟨W.heap.size, 0, none⟩) n f := row_new W cs 5 n f hf h

/-- two rows as a literal -/
theorem mat_lit2 (w : World) (c0 c1 : Array Value) (n0 n1 : Nat) (f0 f1 : Nat → Int) (b0 : ∀ i, 0 ≤ f0 i ∧ f0 i < 256) (b1 : ∀ i, 0 ≤ f1 i ∧ f1 i < 256) (h0 : ∀ i, i < n0 → c0[i]? = some (.int .u8 (f0 i))) (h1 : ∀ i, i < n1 → c1[i]? = some (.int .u8 (f1 i))) :
    MatAt (((w.alloc (.cells c0 5)).alloc (.cells c1 5)).alloc (.cells #[.slice (some ⟨w.heap.size, 0, none⟩) n0 n0, .slice (some ⟨w.heap.size + 1, 0, none⟩) n1 n1] 37)) (some ⟨w.heap.size + 2, 0, none⟩) 2
      (fun r => if r = 0 then some ⟨w.heap.size, 0, none⟩ else some ⟨w.heap.size + 1, 0, none⟩) (fun r => if r = 0 then n0 else n1) (fun r => if r = 0 then n0 else n1) (fun r => if r = 0 then f0 else f1) ∧
    Bw w (((w.alloc (.cells c0 5)).alloc (.cells c1 5)).alloc (.cells #[.slice (some ⟨w.heap.size, 0, none⟩) n0 n0, .slice (some ⟨w.heap.size + 1, 0, none⟩) n1 n1] 37)) := by
  have r0 := row_lit w c0 n0 f0 b0 h0
  have r1 := row_lit (w.alloc (.cells c0 5)) c1 n1 f1 b1 h1
  rw [size_alloc] at r1
  have hb : Bw (w.alloc (.cells c0 5)) ((w.alloc (.cells c0 5)).alloc (.cells c1 5)) := (Below.refl _ _).alloc (Nat.le_refl _) _
  have := mat_two _ _ _ n0 n0 n1 n1 f0 f1 (r0.keep hb) r1
  rw [size_alloc, size_alloc] at this
  exact ⟨this, (((Below.refl _ _).alloc (Nat.le_refl _) _).alloc (by rw [size_alloc]; omega) _).alloc (by rw [size_alloc, size_alloc]; omega) _⟩

theorem mat_lit1 (w : World) (c0 : Array Value) (n0 : Nat) (f0 : Nat → Int) (b0 : ∀ i, 0 ≤ f0 i ∧ f0 i < 256) (h0 : ∀ i, i < n0 → c0[i]? = some (.int .u8 (f0 i))) :
    MatAt ((w.alloc (.cells c0 5)).alloc (.cells #[.slice (some ⟨w.heap.size, 0, none⟩) n0 n0] 37)) (some ⟨w.heap.size + 1, 0, none⟩) 1 (fun _ => some ⟨w.heap.size, 0, none⟩) (fun _ => n0) (fun _ => n0) (fun _ => f0) ∧
    Bw w ((w.alloc (.cells c0 5)).alloc (.cells #[.slice (some ⟨w.heap.size, 0, none⟩) n0 n0] 37)) := by
  have r0 := row_lit w c0 n0 f0 b0 h0
  have hb : Bw (w.alloc (.cells c0 5)) ((w.alloc (.cells c0 5)).alloc (.cells #[.slice (some ⟨w.heap.size, 0, none⟩) n0 n0] 37)) := (Below.refl _ _).alloc (Nat.le_refl _) _
  refine ⟨⟨Or.inr ⟨w.heap.size + 1, 0, rfl, fun r hr => ?_⟩, fun r hr => r0.keep hb⟩, ((Below.refl _ _).alloc (Nat.le_refl _) _).alloc (by rw [size_alloc]; omega) _⟩
  obtain rfl : r = 0 := by omega
  rw [Nat.zero_add, World.cell?_alloc_at _ _ _ 0 (size_alloc _ _).symm]
  rfl

theorem wrong_lit {n c : Nat} {L : Nat → Nat} (hn : n ≤ 32) (hc : c ≤ 131072) (hL : ∀ r, L r = c) : Wrong n L 0 :=
  Or.inr (Or.inr ⟨rfl, hn, fun r _ => by rw [hL]; exact hc, fun r _ => by rw [hL, hL]⟩)

theorem mulsays_ok {n m k q : Nat} {L M : Nat → Nat} {x : Int} (hx : Wrong n L 0) (hy : Wrong m M 0) (hc : colsN n L = m) (h : MulSays n L m M x k q) : x = 0 ∧ k = n ∧ q = colsN m M := by
  rcases h with ⟨h1, h2, _⟩ | ⟨_, h1, h2, _⟩ | ⟨_, _, h1, _⟩ | ⟨_, _, _, h1, h2, h3⟩
  · exact absurd (Wrong.unique h1 hx) h2
  · exact absurd (Wrong.unique h1 hy) h2
  · exact absurd hc h1
  · exact ⟨h1, h2, h3⟩

theorem ivsays_ok {n k : Nat} {L : Nat → Nat} {Z Y : Nat → Nat → Int} {x : Int} (hx : Wrong n L 0) (hc : colsN n L = n) (h : IvSays n L Z Y x k) : InvOk n Z Y x k := by
  rcases h with ⟨h1, h2, _⟩ | ⟨_, h1, _⟩ | ⟨_, _, h1⟩
  · exact absurd (Wrong.unique h1 hx) h2
  · exact absurd hc h1
  · exact h1

/-- Inverse of 2 -/
theorem inv_lit1 {k : Nat} {Y : Nat → Nat → Int} {x : Int} (hb : 0 < k → ∀ j, 0 ≤ Y 0 j ∧ Y 0 j < 256) (h : InvOk 1 (fun _ _ => 2) Y x k) : x = 0 ∧ k = 1 ∧ Y 0 0 = 142 := by
  have e : La.ml (fi 2) (fi 142) = La.f1 := by
    rw [← fi_mul (by omega) (by omega)]
    rfl
  rcases h with ⟨_, _, h⟩ | ⟨h1, h2, h3⟩
  · exfalso
    apply h
    refine ⟨fun _ _ => fi 142, fun i j hi hj => ?_⟩
    obtain rfl : i = 0 := by omega
    obtain rfl : j = 0 := by omega
    show La.ad La.f0 (La.ml (fi 2) (fi 142)) = La.one 0 0
    rw [La.zero_add, e]; rfl
  · refine ⟨h1, h2, ?_⟩
    have h4 := h3 0 0 (by omega) (by omega)
    have h5 : La.ml (fi 2) (fi (Y 0 0)) = La.f1 := by
      have : La.ad La.f0 (La.ml (fi 2) (fi (Y 0 0))) = La.one 0 0 := h4
      rw [La.zero_add] at this; exact this
    apply fi_inj (hb (by omega) 0) (by omega)
    calc fi (Y 0 0) = La.ml La.f1 (fi (Y 0 0)) := (La.one_mul _).symm
      _ = La.ml (La.ml (fi 142) (fi 2)) (fi (Y 0 0)) := by rw [La.mul_comm (fi 142) (fi 2), e]
      _ = La.ml (fi 142) La.f1 := by rw [La.mul_assoc, h5]
      _ = fi 142 := La.mul_one _

/-- a matrix whose rows are alike has none -/
theorem inv_lit2 {k : Nat} {Z Y : Nat → Nat → Int} {x : Int} (hZ : ∀ i j, Z i j = 1) (h : InvOk 2 Z Y x k) : x = 20 ∧ k = 0 := by
  rcases h with ⟨h1, h2, _⟩ | ⟨_, _, h3⟩
  · exact ⟨h1, h2⟩
  · exfalso
    have h4 := h3 0 0 (by omega) (by omega)
    have h5 := h3 1 0 (by omega) (by omega)
    have e : La.mm 2 (fm Z) (fm Y) 0 0 = La.mm 2 (fm Z) (fm Y) 1 0 := by
      unfold La.mm fm
      exact La.sum_congr (fun t _ => by rw [hZ, hZ])
    rw [h4, h5] at e
    have := congrArg La.F8.v e
    revert this; decide

def c1 (_ : Nat) : Int := 1
def c01 (i : Nat) : Int := if i = 0 then 0 else 1
def cc (c : Int) (_ : Nat) : Int := c

theorem lit_col (w : World) (a b : Int) (ha : 0 ≤ a ∧ a < 256) (hb : 0 ≤ b ∧ b < 256) :
    MatAt (((w.alloc (.cells #[.int .u8 a] 5)).alloc (.cells #[.int .u8 b] 5)).alloc (.cells #[.slice (some ⟨w.heap.size, 0, none⟩) 1 1, .slice (some ⟨w.heap.size + 1, 0, none⟩) 1 1] 37)) (some ⟨w.heap.size + 2, 0, none⟩) 2
      (fun r => if r = 0 then some ⟨w.heap.size, 0, none⟩ else some ⟨w.heap.size + 1, 0, none⟩) (fun r => if r = 0 then 1 else 1) (fun r => if r = 0 then 1 else 1) (fun r => if r = 0 then cc a else cc b) ∧
    Bw w (((w.alloc (.cells #[.int .u8 a] 5)).alloc (.cells #[.int .u8 b] 5)).alloc (.cells #[.slice (some ⟨w.heap.size, 0, none⟩) 1 1, .slice (some ⟨w.heap.size + 1, 0, none⟩) 1 1] 37)) :=
  mat_lit2 w #[.int .u8 a] #[.int .u8 b] 1 1 (cc a) (cc b) (fun _ => ha) (fun _ => hb) (fun i hi => by obtain rfl : i = 0 := (by omega); rfl) (fun i hi => by obtain rfl : i = 0 := (by omega); rfl)

theorem lit_sq (w : World) (a b c d : Int) (f g : Nat → Int) (hf : ∀ i, 0 ≤ f i ∧ f i < 256) (hg : ∀ i, 0 ≤ g i ∧ g i < 256) (ha : f 0 = a) (hb : f 1 = b) (hc : g 0 = c) (hd : g 1 = d) :
    MatAt (((w.alloc (.cells #[.int .u8 a, .int .u8 b] 5)).alloc (.cells #[.int .u8 c, .int .u8 d] 5)).alloc (.cells #[.slice (some ⟨w.heap.size, 0, none⟩) 2 2, .slice (some ⟨w.heap.size + 1, 0, none⟩) 2 2] 37)) (some ⟨w.heap.size + 2, 0, none⟩) 2
      (fun r => if r = 0 then some ⟨w.heap.size, 0, none⟩ else some ⟨w.heap.size + 1, 0, none⟩) (fun r => if r = 0 then 2 else 2) (fun r => if r = 0 then 2 else 2) (fun r => if r = 0 then f else g) ∧
    Bw w (((w.alloc (.cells #[.int .u8 a, .int .u8 b] 5)).alloc (.cells #[.int .u8 c, .int .u8 d] 5)).alloc (.cells #[.slice (some ⟨w.heap.size, 0, none⟩) 2 2, .slice (some ⟨w.heap.size + 1, 0, none⟩) 2 2] 37)) := by
  subst ha hb hc hd
  exact mat_lit2 w #[.int .u8 (f 0), .int .u8 (f 1)] #[.int .u8 (g 0), .int .u8 (g 1)] 2 2 f g hf hg (fun i hi => by rcases (show i = 0 ∨ i = 1 by omega) with rfl | rfl <;> rfl) (fun i hi => by rcases (show i = 0 ∨ i = 1 by omega) with rfl | rfl <;> rfl)

theorem lit_one (w : World) (a : Int) (ha : 0 ≤ a ∧ a < 256) :
    MatAt ((w.alloc (.cells #[.int .u8 a] 5)).alloc (.cells #[.slice (some ⟨w.heap.size, 0, none⟩) 1 1] 37)) (some ⟨w.heap.size + 1, 0, none⟩) 1 (fun _ => some ⟨w.heap.size, 0, none⟩) (fun _ => 1) (fun _ => 1) (fun _ => cc a) ∧
    Bw w ((w.alloc (.cells #[.int .u8 a] 5)).alloc (.cells #[.slice (some ⟨w.heap.size, 0, none⟩) 1 1] 37)) :=
  mat_lit1 w #[.int .u8 a] 1 (cc a) (fun _ => ha) (fun i hi => by obtain rfl : i = 0 := (by omega); rfl)

theorem if_same (c : Nat) : ∀ r : Nat, (if r = 0 then c else c) = c := fun r => by split <;> rfl

theorem prod_lit (r : Nat) (hr : r < 2) : prodZ 2 (fun r => if r = 0 then c1 else c01) (fun r => if r = 0 then cc 5 else cc 3) r 0 = if r = 0 then 6 else 3 := by
  rcases (show r = 0 ∨ r = 1 by omega) with rfl | rfl <;> rfl

theorem same_lit : SameM 2 2 (fun _ => colsN 2 (fun r => if r = 0 then 1 else 1)) (fun r => if r = 0 then 1 else 1) (prodZ 2 (fun r => if r = 0 then c1 else c01) (fun r => if r = 0 then cc 5 else cc 3)) (fun r => if r = 0 then cc 6 else cc 3) := by
  refine ⟨rfl, fun r hr => ⟨show 1 = (if r = 0 then 1 else 1) from (if_same 1 r).symm, fun i hi => ?_⟩⟩
  have hi' : i < 1 := hi
  obtain rfl : i = 0 := by omega
  rw [prod_lit r hr]
  show _ = (if r = 0 then cc 6 else cc 3) 0
  split <;> rfl

end Go.Proofs.Ytbhbdhkifkmkbaa

/- What a call is told of rows of bytes and of matrices that came in. -/
namespace Go.Proofs.Ytbhbdhkifkmkbaa
open Go.ChangeShapes Go.WideShapes Go.RowKit Go.Deep

theorem cells_plain {w : World} {a : Addr} {n : Nat} {V : Nat → Value} (h : ∀ i, i < n → w.cell? (a.add i) = some (V i)) (hp : 0 < n) :
    ∃ b off, a = ⟨b, off, none⟩ ∧ ∀ j, j < n → w.cell? ⟨b, off + j, none⟩ = some (V j) := by
  obtain ⟨b, off, spot⟩ := a
  have hspot : spot = none := by simpa [Addr.add] using World.cell?_spot (h 0 hp)
  subst hspot
  exact ⟨b, off, rfl, fun j hj => by rw [← Go.WideShapes.add_plain]; exact h j hj⟩

theorem byte_of (zs : List Int) (h : ∀ n ∈ zs, (Lit.int .u8 n).wf = true) (i : Nat) : 0 ≤ zs.getD i 0 ∧ zs.getD i 0 < 256 := by
  rcases Nat.lt_or_ge i zs.length with hi | hi
  · have := bounds_u8 (h zs[i] (List.getElem_mem hi))
    rw [List.getD_eq_getElem?_getD, List.getElem?_eq_getElem hi]
    simp only [Option.getD_some]
    omega
  · rw [List.getD_eq_getElem?_getD, List.getElem?_eq_none hi]
    decide

/-- a row of bytes that came in -/
structure InRow (w : World) (A : Option Addr) (n cap : Nat) (f : Nat → Int) : Prop where
  row : RowAt w A n f
  le : n ≤ cap
  room : cap ≤ 140737488351232
  nil : A = none → cap = 0

/-- a matrix that came in -/
structure InMat (w : World) (A : Option Addr) (n cap : Nat) (R : Nat → Option Addr) (L C : Nat → Nat) (Z : Nat → Nat → Int) : Prop where
  mat : MatAt w A n R L C Z
  le : n ≤ cap
  room : cap * 24 ≤ 140737488351232
  rows : ∀ r, r < n → L r ≤ C r ∧ C r ≤ 140737488351232 ∧ (R r = none → C r = 0)

theorem open_bytes {H : Type} {enc : TypeId × Value → H} {W : World} {A : Option Addr} {n cap : Nat} {d : DataW H} {p : List MemPlace}
    (h : DataW.Trod enc Try.prog W 0 (fun _ => true) true 37 (.slice A n cap) d p) (hw : ∀ x ∈ d.weights Try.prog 37, x ≤ reachBytes) : ∃ f, InRow W A n cap f := by
  obtain ⟨fuel, hf⟩ := h
  rcases open_ints Try.underlying37 Try.underlying5 (by kernel_rfl) hf with ⟨hcs, _⟩ | ⟨x, l, c, zs, hcs, _, hl, hm, hz, hd, hcell, hwz⟩
  · simp [Value.cells] at hcs
    obtain ⟨rfl, rfl, rfl⟩ := hcs
    exact ⟨fun _ => 0, ⟨Or.inl rfl, fun _ => by show (0 : Int) ≤ 0 ∧ (0 : Int) < 256; decide⟩, Nat.le_refl _, Nat.zero_le _, fun _ => rfl⟩
  · simp [Value.cells] at hcs
    obtain ⟨rfl, rfl, rfl⟩ := hcs
    simp only [Prod.mk.injEq] at hd
    obtain ⟨rfl, _⟩ := hd
    simp only [if_true] at hz
    have hb : Try.prog.bytesOf 5 = 1 := by kernel_rfl
    have hcap : n ≤ cap ∧ cap ≤ 140737488351232 := by
      have := hw ((zs.take n).length * 1 + (zs.drop n).length * 1) (by
        simp only [DataW.weights, Try.underlying37, hb, lits, List.length_map]
        exact List.mem_cons.2 (Or.inl (by omega)))
      simp only [List.length_take, List.length_drop, reachBytes] at this
      omega
    refine ⟨fun i => zs.getD i 0, ⟨?_, byte_of zs hwz⟩, hcap.1, hcap.2, fun e => by cases e⟩
    rcases Nat.eq_zero_or_pos n with h0 | h0
    · exact Or.inl h0
    · obtain ⟨b, off, rfl, hc⟩ := cells_plain (n := zs.length) (V := fun i => .int .u8 (zs.getD i 0)) hcell (by omega)
      exact Or.inr ⟨b, off, rfl, fun i hi => hc i (by omega)⟩

theorem open_rows {H : Type} {enc : TypeId × Value → H} {W : World} {A : Option Addr} {n cap : Nat} {d : DataW H} {p : List MemPlace}
    (h : DataW.Trod enc Try.prog W 0 (fun _ => true) true 22 (.slice A n cap) d p) (hw : ∀ x ∈ d.weights Try.prog 22, x ≤ reachBytes) : ∃ R L C Z, InMat W A n cap R L C Z := by
  obtain ⟨fuel, hf⟩ := h
  rcases open_int_rows Try.underlying22 Try.underlying37 Try.underlying5 (by kernel_rfl) (by kernel_rfl) hf with ⟨hcs, _⟩ | ⟨x, l, c, R, L, C, Z, hcs, _, hl, hm, hd, hcell⟩
  · simp [Value.cells] at hcs
    obtain ⟨rfl, rfl, rfl⟩ := hcs
    exact ⟨fun _ => none, fun _ => 0, fun _ => 0, fun _ _ => 0, ⟨Or.inl rfl, fun r hr => by omega⟩, Nat.le_refl _, Nat.zero_le _, fun r hr => by omega⟩
  · simp [Value.cells] at hcs
    obtain ⟨rfl, rfl, rfl⟩ := hcs
    simp only [Prod.mk.injEq] at hd
    obtain ⟨rfl, _⟩ := hd
    have hb : Try.prog.bytesOf 5 = 1 := by kernel_rfl
    have hb2 : Try.prog.bytesOf 37 = 24 := by kernel_rfl
    have hcap : cap * 24 ≤ 140737488351232 := by
      have := hw ((n + (cap - n)) * 24) (by
        simp only [DataW.weights, Try.underlying22, hb2, List.length_map, List.length_range]
        exact List.mem_cons_self)
      simp only [reachBytes] at this
      omega
    have hin : ∀ (e : TypeId) (ds : List (DataW H)) (y : DataW H), y ∈ ds → ∀ u ∈ y.weights Try.prog e, u ∈ DataW.weightsAll Try.prog e ds := by
      intro e ds
      induction ds with
      | nil => intro y hy; cases hy
      | cons d0 ds ih =>
        intro y hy u hu
        simp only [DataW.weightsAll, List.mem_append]
        rcases List.mem_cons.1 hy with rfl | hy
        · exact Or.inl hu
        · exact Or.inr (ih y hy u hu)
    have hrow : ∀ r, r < n → C r ≤ 140737488351232 := fun r hr => by
      obtain ⟨_, hLC, _, hZ, _, hnil, _⟩ := hcell r (by omega)
      cases hR : R r with
      | none => rw [hnil hR]; omega
      | some a' =>
        have := hw (((Z r).take (L r)).length * 1 + ((Z r).drop (L r)).length * 1) (by
          simp only [DataW.weights, Try.underlying22]
          refine List.mem_cons.2 (Or.inr (List.mem_append.2 (Or.inl ?_)))
          refine hin _ _ (intRow .u8 (R r) (L r) (Z r)) (List.mem_map.2 ⟨r, List.mem_range.2 hr, rfl⟩) _ ?_
          simp only [intRow, hR, DataW.weights, Try.underlying37, hb, lits, List.length_map]
          exact List.mem_cons.2 (Or.inl (by omega)))
        simp only [List.length_take, List.length_drop, reachBytes] at this
        omega
    refine ⟨R, L, C, fun r i => (Z r).getD i 0, ⟨?_, fun r hr => ?_⟩, hl, hcap, fun r hr => ?_⟩
    · rcases Nat.eq_zero_or_pos n with h0 | h0
      · exact Or.inl h0
      · obtain ⟨b, off, rfl, hc⟩ := cells_plain (n := cap) (V := fun r => .slice (R r) (L r) (C r)) (fun i hi => (hcell i hi).1) (by omega)
        exact Or.inr ⟨b, off, rfl, fun i hi => hc i (by omega)⟩
    · obtain ⟨_, hLC, _, hZ, hwz, hnil, hc⟩ := hcell r (by omega)
      refine ⟨?_, byte_of (Z r) hwz⟩
      rcases Nat.eq_zero_or_pos (L r) with h0 | h0
      · exact Or.inl h0
      · cases hR : R r with
        | none => have := hnil hR; omega
        | some a' =>
          obtain ⟨b, off, rfl, hc'⟩ := cells_plain (n := C r) (V := fun i => .int .u8 ((Z r).getD i 0)) ((hc a' hR).2) (by omega)
          exact Or.inr ⟨b, off, rfl, fun i hi => hc' i (by omega)⟩
    · obtain ⟨_, hLC, _, hZ, hwz, hnil, hc⟩ := hcell r (by omega)
      exact ⟨hLC, hrow r hr, hnil⟩

theorem laidOut : laidOutB Try.prog = true := by kernel_rfl
theorem own : ownKnob Try.prog.godebug = none := by kernel_rfl

end Go.Proofs.Ytbhbdhkifkmkbaa

/- Sums of products as numbers of the field; what came in, and whether it is great. -/
namespace Go.Proofs.Ytbhbdhkifkmkbaa
open Go.RowKit

theorem dot_fi (f g : Nat → Int) (hf : ∀ i, 0 ≤ f i ∧ f i < 256) : ∀ k, (∀ i, i < k → 0 ≤ g i ∧ g i < 256) → fi (dotU f g k) = La.sum k fun t => La.ml (fi (f t)) (fi (g t))
  | 0, _ => rfl
  | k + 1, hg => by
    show fi (addI (dotU f g k) (mulI (f k) (g k))) = La.ad (La.sum k _) _
    rw [fi_add (dotU_bd f g hf k) (mulI_bd _ _ (hf k).2), fi_mul (hf k) (hg k (by omega)), dot_fi f g hf k (fun i hi => hg i (by omega))]

theorem mulI_one (x : Int) (h : 0 ≤ x ∧ x < 256) : mulI 1 x = x := by
  apply fi_inj (mulI_bd 1 x (by omega)) h
  rw [fi_mul (by omega) h, fi_one, La.one_mul]

theorem dot_sum (f g h s : Nat → Int) (n : Nat) (hf : ∀ i, 0 ≤ f i ∧ f i < 256) (hg : ∀ i, 0 ≤ g i ∧ g i < 256) (hh : ∀ i, 0 ≤ h i ∧ h i < 256) (e : ∀ i, i < n → s i = addI (g i) (mulI 1 (h i))) :
    dotU f s n = addI (dotU f g n) (dotU f h n) := by
  have hs : ∀ i, i < n → 0 ≤ s i ∧ s i < 256 := fun i hi => by rw [e i hi]; exact addI_bd _ _ (hg i).2 (mulI_bd _ _ (by omega)).2
  apply fi_inj (dotU_bd f s hf n) (addI_bd _ _ (dotU_bd f g hf n).2 (dotU_bd f h hf n).2)
  rw [fi_add (dotU_bd f g hf n) (dotU_bd f h hf n), dot_fi f s hf n hs, dot_fi f g hf n (fun i _ => hg i), dot_fi f h hf n (fun i _ => hh i), ← La.sum_add]
  apply La.sum_congr
  intro i hi
  rw [e i hi, mulI_one _ (hh i), fi_add (hg i) (hh i), La.mul_add]

theorem prod_bd {m : Nat} {Z Y : Nat → Nat → Int} {i : Nat} (hZ : ∀ t, 0 ≤ Z i t ∧ Z i t < 256) (j : Nat) : 0 ≤ prodZ m Z Y i j ∧ prodZ m Z Y i j < 256 := dotU_bd _ _ hZ m

theorem prod_fm {m : Nat} {Z Y : Nat → Nat → Int} {i j : Nat} (hZ : ∀ t, 0 ≤ Z i t ∧ Z i t < 256) (hY : ∀ t, t < m → 0 ≤ Y t j ∧ Y t j < 256) : fm (prodZ m Z Y) i j = La.mm m (fm Z) (fm Y) i j := dot_fi (Z i) (fun t => Y t j) hZ m hY

/-- brackets go either way -/
theorem prod_assoc {m q : Nat} {Z Y X : Nat → Nat → Int} {i j : Nat} (hZ : ∀ t, 0 ≤ Z i t ∧ Z i t < 256) (hY : ∀ t, t < m → ∀ c, 0 ≤ Y t c ∧ Y t c < 256) (hX : ∀ t, t < q → 0 ≤ X t j ∧ X t j < 256) :
    prodZ q (prodZ m Z Y) X i j = prodZ m Z (prodZ q Y X) i j := by
  have hp : ∀ t, 0 ≤ prodZ m Z Y i t ∧ prodZ m Z Y i t < 256 := prod_bd hZ
  apply fi_inj (prod_bd hp j) (prod_bd hZ j)
  have e1 := prod_fm (m := q) (Z := prodZ m Z Y) (Y := X) (i := i) (j := j) hp hX
  have e2 := prod_fm (m := m) (Z := Z) (Y := prodZ q Y X) (i := i) (j := j) hZ (fun t ht => prod_bd (hY t ht) j)
  show fm (prodZ q (prodZ m Z Y) X) i j = fm (prodZ m Z (prodZ q Y X)) i j
  rw [e1, e2]
  have e3 : La.mm q (fm (prodZ m Z Y)) (fm X) i j = La.mm q (La.mm m (fm Z) (fm Y)) (fm X) i j := La.mm_congr (fun t _ => prod_fm hZ (fun s hs => hY s hs t)) (fun _ _ => rfl)
  have e4 : La.mm m (fm Z) (fm (prodZ q Y X)) i j = La.mm m (fm Z) (La.mm q (fm Y) (fm X)) i j := La.mm_congr (fun _ _ => rfl) (fun t ht => prod_fm (hY t ht) hX)
  rw [e3, e4, La.mm_assoc]

theorem one_fm (i j : Nat) : fm oneZ i j = La.one i j := by
  unfold fm oneZ La.one; split <;> rfl

theorem cols_self (n : Nat) : colsN n (fun _ => n) = n := by
  unfold colsN; split
  · omega
  · rfl

end Go.Proofs.Ytbhbdhkifkmkbaa

/- The table's numbers, and what inverses of its rows give; nothing of the program is named here but what Inverse and Mul answer. -/
namespace Go.Proofs.Ytbhbdhkifkmkbaa
open Go.RowKit

/-- the number of the table in row i, column j -/
def tabI (k i j : Nat) : Int := ((La.lag ptF ivF j (ptF i) k).v : Int)
theorem tabI_bd (k i j : Nat) : 0 ≤ tabI k i j ∧ tabI k i j < 256 := by
  unfold tabI
  have := (La.lag ptF ivF j (ptF i) k).h
  omega
theorem tabI_fi (k i j : Nat) : fi (tabI k i j) = La.lag ptF ivF j (ptF i) k := fi_self _
/-- .. as the document reckons it -/
theorem tab_wgt {k i j : Nat} (hk : k ≤ 256) (hi : i < 256) (hj : j < k) : wgtI (fun i => (i : Int)) j (i : Int) k = tabI k i j := by
  apply fi_inj (wgtI_bd _ _ _ _) (tabI_bd _ _ _)
  rw [tabI_fi, wgt_fi (fun i => (i : Int)) j (i : Int) (by omega) (by omega) k (fun i hi => by omega)]
  rfl

/-- powers -/
def pwrI (x : Int) : Nat → Int
  | 0 => 1
  | t + 1 => mulI (pwrI x t) x
theorem pwrI_bd (x : Int) : ∀ t, 0 ≤ pwrI x t ∧ pwrI x t < 256
  | 0 => by show (0 : Int) ≤ 1 ∧ (1 : Int) < 256; decide
  | t + 1 => mulI_bd _ _ (pwrI_bd x t).2
theorem pwrI_fi {i : Nat} (hi : i < 256) : ∀ t, fi (pwrI (i : Int) t) = La.pw (ptF i) t
  | 0 => rfl
  | t + 1 => by
    show fi (mulI (pwrI (i : Int) t) (i : Int)) = La.ml (La.pw (ptF i) t) (ptF i)
    rw [fi_mul (pwrI_bd _ t) (by omega), pwrI_fi hi t]; rfl

theorem lag_one {k i j : Nat} (hk : k ≤ 256) (hi : i < k) (hj : j < k) : La.lag ptF ivF j (ptF i) k = La.one i j := by
  unfold La.one
  by_cases e : i = j
  · subst e
    rw [if_pos rfl]
    exact La.lag_own ptF ivF i ivF_ok k (fun t ht hne => pts_apart hk t i ht hi hne)
  · rw [if_neg e]
    exact La.lag_other ptF ivF j i e k hi

/-- the coefficients of the polynomials that are 1 at one point -/
theorem coeffs (k : Nat) (p : Nat → La.F8) : ∃ C : Nat → Nat → La.F8, ∀ j, j < k → ∀ x, La.ev k (fun t => C t j) x = La.lag p ivF j x k := by
  have h : ∀ j, ∃ c, j < k → ∀ x, La.lag p ivF j x k = La.ev k c x := fun j => by
    obtain ⟨c, hc⟩ := La.lag_ev p ivF j k
    exact ⟨c, fun hj x => by rw [hc x, if_pos hj]⟩
  exact ⟨fun t j => Classical.choose (h j) t, fun j hj x => (Classical.choose_spec (h j) hj x).symm⟩

/-- powers times the inverse of their first rows are the table -/
theorem table_math {k n kk : Nat} {V Y : Nat → Nat → Int} {x : Int} (hk : k ≤ 256) (hn : n ≤ 256) (hkn : k ≤ n) (hV : ∀ i, i < n → ∀ j, j < k → V i j = pwrI (i : Int) j) (hVb : ∀ i, i < n → ∀ j, 0 ≤ V i j ∧ V i j < 256) (hInv : InvOk k V Y x kk) (hY : ∀ t, t < kk → ∀ c, 0 ≤ Y t c ∧ Y t c < 256) :
    x = 0 ∧ kk = k ∧ ∀ i, i < n → ∀ j, j < k → prodZ k V Y i j = tabI k i j := by
  obtain ⟨C, hC⟩ := coeffs k ptF
  have hm : ∀ i, i < n → ∀ j, j < k → La.mm k (fm V) C i j = La.lag ptF ivF j (ptF i) k := by
    intro i hi j hj
    rw [← hC j hj]
    unfold La.mm La.ev
    refine La.sum_congr fun t ht => ?_
    show La.ml (fi (V i t)) (C t j) = La.ml (C t j) (La.pw (ptF i) t)
    rw [hV i hi t ht, pwrI_fi (by omega), La.mul_comm]
  have hone : ∀ i j, i < k → j < k → La.mm k (fm V) C i j = La.one i j := fun i j hi hj => by rw [hm i (by omega) j hj, lag_one hk hi hj]
  rcases hInv with ⟨_, _, hno⟩ | ⟨h0, h1, hinv⟩
  · exact absurd ⟨C, hone⟩ hno
  · refine ⟨h0, h1, fun i hi j hj => ?_⟩
    have hu := La.inv_unique k (fm V) (fm Y) C hinv hone
    apply fi_inj (prod_bd (hVb i hi) j) (tabI_bd _ _ _)
    rw [tabI_fi]
    have e := prod_fm (m := k) (Z := V) (Y := Y) (i := i) (j := j) (hVb i hi) (fun t ht => hY t (by omega) j)
    show fm (prodZ k V Y) i j = _
    rw [e, ← hm i hi j hj]
    exact La.mm_congr (fun _ _ => rfl) (fun t ht => hu t j ht hj)

/-- a row of the table times data is the word's shard -/
theorem word_math {k i r c : Nat} {T D : Nat → Nat → Int} (hT : ∀ j, j < k → T r j = tabI k i j) (hTb : ∀ j, 0 ≤ T r j ∧ T r j < 256) (hD : ∀ j, j < k → 0 ≤ D j c ∧ D j c < 256) : prodZ k T D r c = wordI k D i c := by
  apply fi_inj (prod_bd hTb c) (wordI_bd _ _ _ _)
  rw [wordI_fi]
  have e := prod_fm (m := k) (Z := T) (Y := D) (i := r) (j := c) hTb hD
  show fm (prodZ k T D) r c = _
  rw [e]
  unfold La.mm La.thro
  refine La.sum_congr fun j hj => ?_
  show La.ml (fi (T r j)) _ = _
  rw [hT j hj, tabI_fi]

/-- rows of the table at unlike numbers can be taken back, and times shards at these numbers that gives the data -/
theorem back_math {k kk : Nat} {M Y : Nat → Nat → Int} {x : Int} {f : Nat → Int} (hk : k ≤ 256) (hf : ∀ i, i < k → 0 ≤ f i ∧ f i < 256) (hd : ∀ a b, a < k → b < k → a ≠ b → f a ≠ f b) (hM : ∀ i, i < k → ∀ j, j < k → M i j = tabI k (f i).toNat j) (hInv : InvOk k M Y x kk) (hY : ∀ t, t < kk → ∀ c, 0 ≤ Y t c ∧ Y t c < 256) :
    x = 0 ∧ kk = k ∧ ∀ (Z : Nat → Nat → Int) (j c : Nat), j < k → (∀ t, t < k → 0 ≤ Z t c ∧ Z t c < 256) → prodZ k Y Z j c = atZ k f Z (j : Int) c := by
  have hone : ∀ a b, a < k → b < k → La.mm k (fm M) (fun j i => La.lag (fun i => fi (f i)) ivF i (ptF j) k) a b = La.one a b := by
    intro a b ha hb
    obtain ⟨c, hc⟩ := La.lag_ev (fun i => fi (f i)) ivF b k
    rw [if_pos hb] at hc
    have e1 : La.mm k (fm M) (fun j i => La.lag (fun i => fi (f i)) ivF i (ptF j) k) a b = La.thro k ptF ivF (fun j => La.ev k c (ptF j)) (fi (f a)) := by
      unfold La.mm La.thro
      refine La.sum_congr fun j hj => ?_
      show La.ml (fi (M a j)) (La.lag (fun i => fi (f i)) ivF b (ptF j) k) = _
      rw [hM a ha j hj, tabI_fi, hc (ptF j)]
      have e2 : ptF (f a).toNat = fi (f a) := by
        show fi (((f a).toNat : Nat) : Int) = _
        rw [Int.toNat_of_nonneg (hf a ha).1]
      rw [e2]
    rw [e1, La.thro_of_ev k ptF ivF ivF_ok (pts_apart hk) c, ← hc]
    unfold La.one
    by_cases e : a = b
    · subst e
      rw [if_pos rfl]
      exact La.lag_own (fun i => fi (f i)) ivF a ivF_ok k (fun t ht hne h => hd t a ht ha hne (fi_inj (hf t ht) (hf a ha) h))
    · rw [if_neg e]
      exact La.lag_other (fun i => fi (f i)) ivF b a e k ha
  rcases hInv with ⟨_, _, hno⟩ | ⟨h0, h1, hinv⟩
  · exact absurd ⟨_, hone⟩ hno
  · refine ⟨h0, h1, fun Z j c hj hZ => ?_⟩
    have hu := La.inv_unique k (fm M) (fm Y) _ hinv hone
    apply fi_inj (prod_bd (fun t => hY j (by omega) t) c) (atZ_bd _ _ _ _ _)
    rw [at_fi (by omega) hf hZ]
    have e := prod_fm (m := k) (Z := Y) (Y := Z) (i := j) (j := c) (fun t => hY j (by omega) t) hZ
    show fm (prodZ k Y Z) j c = _
    rw [e]
    unfold La.mm La.thro
    exact La.sum_congr fun i hi => by rw [hu j i hj hi]; rfl

end Go.Proofs.Ytbhbdhkifkmkbaa

/- What the program finds wrong with k and n, with rows, with numbers and with shards. -/
namespace Go.Proofs.Ytbhbdhkifkmkbaa
open Go.RowKit

theorem kn_any (k n : Int) (w : World) : Calls Try.prog 25 #[.int .i64 k, .int .i64 n] w fun e w' => ∃ x, e = .returned (.int .i64 x) ∧ KnWrong k n x ∧ w' = w := by
  rcases (show k < 1 ∨ (¬ k < 1 ∧ n < k) ∨ (¬ k < 1 ∧ ¬ n < k ∧ 32 < n) ∨ (¬ k < 1 ∧ ¬ n < k ∧ ¬ 32 < n) by omega) with h | ⟨h, h2⟩ | ⟨h, h2, h3⟩ | ⟨h, h2, h3⟩
  · go_enter Try.func25, Try.ntmps25
    go_wp2
    go_ret
    exact ⟨1, rfl, Or.inl ⟨rfl, Or.inl h⟩, rfl⟩
  · go_enter Try.func25, Try.ntmps25
    go_wp2
    go_ret
    exact ⟨1, rfl, Or.inl ⟨rfl, Or.inr h2⟩, rfl⟩
  · go_enter Try.func25, Try.ntmps25
    go_wp2
    go_ret
    exact ⟨2, rfl, Or.inr (Or.inl ⟨rfl, by omega, by omega, h3⟩), rfl⟩
  · go_enter Try.func25, Try.ntmps25
    go_wp2
    go_ret
    exact ⟨0, rfl, Or.inr (Or.inr ⟨rfl, by omega, by omega, by omega⟩), rfl⟩

theorem rows_any (A : Option Addr) (n cap : Nat) (R : Nat → Option Addr) (L C : Nat → Nat) (Z : Nat → Nat → Int) (hn : n ≤ 140737488355328) (w : World) (h : MatAt w A n R L C Z) :
    Calls Try.prog 32 #[.slice A n cap] w fun e w' => ∃ x, e = .returned (.int .i64 x) ∧ RowsWrong n L x ∧ w' = w := by
  go_enter Try.func32, Try.ntmps32
  go_wp2
  go_loopw [3, 8] (fun b i wr => ∃ (k : Nat) (ev : Bool), k ≤ n ∧ i = .int .i64 k ∧ b = .bool ev ∧ Hid (∀ r, r < k → L r ≤ 131072) ∧ Hid (ev = true ↔ ∀ r, r < k → L r = L 0) ∧ wr = w) (fun _ i _ => n - (intOf i).toNat)
  case atStart => exact ⟨0, true, Nat.zero_le _, rfl, rfl, (fun r hr => by omega), (show _ ↔ _ from ⟨fun _ r hr => by omega, fun _ => rfl⟩), rfl⟩
  case round =>
    obtain ⟨k, ev, hk, rfl, rfl, hno, hev, e⟩ := hrel
    subst e
    by_cases hlt : k < n
    · obtain ⟨b, off, rfl, hc⟩ := h.at hlt
      have h1 := hc k hlt
      have h2 := hc 0 (by omega)
      rw [Nat.add_zero] at h2
      have hk2 : (0 : Int) < (n : Int) := by omega
      clear hc
      by_cases hl : 131072 < L k
      · go_wp2
        go_ret
        exact ⟨2, rfl, Or.inl ⟨rfl, k, hlt, hl⟩, rfl⟩
      · have hno' : Hid (∀ r, r < k + 1 → L r ≤ 131072) := fun r hr => by by_cases e : r = k; (subst e; omega); exact hno r (by omega)
        cases ev with
        | false =>
          go_wp2
          go_roundw
          case rel =>
            refine ⟨k + 1, false, by omega, by go_num, rfl, hno', (show _ ↔ _ from ⟨fun e => by (cases e), fun e => hev.out.2 (fun r hr => e r (by omega))⟩), by first | rfl | trivial⟩
          case measure => simp [intOf]; omega
        | true =>
          by_cases hl3 : L k = L 0
          · have hl2 : ((L k : Int) == (L 0 : Int)) = true := by rw [hl3]; simp
            go_wp2
            go_roundw
            case rel =>
              refine ⟨k + 1, true, by omega, by go_num, rfl, hno', (show _ ↔ _ from ⟨fun _ r hr => by by_cases e : r = k; (subst e; exact hl3); exact hev.out.1 rfl r (by omega), fun _ => rfl⟩), by first | rfl | trivial⟩
            case measure => simp [intOf]; omega
          · have hl2 : ((L k : Int) == (L 0 : Int)) = false := by simp; omega
            go_wp2
            go_roundw
            case rel =>
              refine ⟨k + 1, false, by omega, by go_num, rfl, hno', (show _ ↔ _ from ⟨fun e => by (cases e), fun e => absurd (e k (by omega)) hl3⟩), by first | rfl | trivial⟩
            case measure => simp [intOf]; omega
    · have ek : n = k := by omega
      subst ek
      cases ev with
      | false =>
        go_wp2
        go_ret
        refine ⟨6, rfl, Or.inr (Or.inl ⟨rfl, hno.out, ?_⟩), rfl⟩
        apply Classical.byContradiction
        intro hne
        have := hev.out.2 (fun r hr => Classical.byContradiction fun e => hne ⟨r, hr, e⟩)
        cases this
      | true =>
        go_wp2
        go_ret
        exact ⟨0, rfl, Or.inr (Or.inr ⟨rfl, hno.out, fun r hr => hev.out.1 (by first | rfl | trivial) r hr⟩), rfl⟩

/-- which numbers were met -/
def MetIs (w : World) (g : Nat) (m : Nat → Bool) : Prop := ∃ cur, w.heap[g]? = some (.cells cur 59 (0, 0)) ∧ cur.size = 32 ∧ ∀ c, c < 32 → cur[c]? = some (.bool (m c))
theorem MetIs.cell {w : World} {g : Nat} {m : Nat → Bool} (h : MetIs w g m) {c : Nat} (hc : c < 32) : w.cell? ⟨g, c, none⟩ = some (.bool (m c)) ∧ w.frozen? ⟨g, c, none⟩ = false := by
  obtain ⟨cur, h1, h2, h3⟩ := h
  exact ⟨(cell_of_row w g c cur _ _ h1).trans (h3 c hc), frozen_of_row w g c cur _ h1⟩
theorem MetIs.set {w : World} {g : Nat} {m : Nat → Bool} (h : MetIs w g m) {j : Nat} (hj : j < 32) : MetIs (w.setCell ⟨g, j, none⟩ (.bool true)) g (upd m j true) := by
  obtain ⟨cur, h1, h2, h3⟩ := h
  refine ⟨_, heap_setCell_same w g j cur _ _ h1, by simpa using h2, fun c hc => ?_⟩
  by_cases hcj : c = j
  · subst hcj; rw [Array.getElem?_setIfInBounds_self_of_lt (by omega), upd_at]
  · rw [Array.getElem?_setIfInBounds_ne (Ne.symm hcj), h3 c hc, upd_ne _ _ hcj]
theorem met_new (w : World) : MetIs (w.alloc (.cells (Array.replicate 32 (.bool false)) 59)) w.heap.size (fun _ => false) :=
  ⟨_, heap_alloc_new _ _, by simp, fun c hc => by rw [Array.getElem?_replicate, if_pos hc]⟩

set_option maxRecDepth 100000 in
theorem num_any (n : Int) (A : Option Addr) (l ca : Nat) (f : Nat → Int) (w : World) (ha : IntsAt w A l f) (hl : l ≤ 140737488355328) (hn : n ≤ 32) :
    Calls Try.prog 55 #[.int .i64 n, .slice A l ca] w fun e w' => ∃ x, e = .returned (.int .i64 x) ∧ ((x = 0 ∧ Good l n f) ∨ (x = 1 ∧ ¬ Good l n f)) ∧ Bw w w' := by
  have hnew := met_new w
  have hbw : Bw w (w.alloc (.cells (Array.replicate 32 (.bool false)) 59)) := (Below.refl _ _).alloc (Nat.le_refl _) _
  go_enter Try.func55, Try.ntmps55
  go_wp2
  go_loopw [10] (fun i wr => ∃ (t : Nat) (m : Nat → Bool), t ≤ l ∧ i = .int .i64 t ∧ MetIs wr w.heap.size m ∧ Hid (Good t n f) ∧ Hid (∀ j, j < 32 → (m j = true ↔ ∃ s, s < t ∧ f s = (j : Int))) ∧ Bw w wr) (fun i _ => l - (intOf i).toNat)
  case atStart => exact ⟨0, _, Nat.zero_le _, rfl, hnew, (show Good 0 n f from fun i hi => by omega), (fun j hj => ⟨fun h => (by cases h), fun ⟨s, hs, _⟩ => by omega⟩), hbw⟩
  case round =>
    obtain ⟨t, m, ht, rfl, hmet, hg, hm, hw⟩ := hrel
    by_cases hlt : t < l
    · obtain ⟨b, o, rfl, hc⟩ := (ha.keep hw).resolve_left (by omega)
      have h1 := hc t hlt
      clear hc
      rcases (show f t < 0 ∨ (¬ f t < 0 ∧ n ≤ f t) ∨ (¬ f t < 0 ∧ ¬ n ≤ f t) by omega) with h2 | ⟨h2, h3⟩ | ⟨h2, h3⟩
      · go_wp2
        go_ret
        exact ⟨1, rfl, Or.inr ⟨rfl, fun hh => by have := hh t hlt; omega⟩, hw⟩
      · go_wp2
        go_ret
        exact ⟨1, rfl, Or.inr ⟨rfl, fun hh => by have := hh t hlt; omega⟩, hw⟩
      · obtain ⟨y, hy⟩ : ∃ y : Nat, f t = (y : Int) := ⟨(f t).toNat, by omega⟩
        have hy32 : y < 32 := by omega
        obtain ⟨g1, g2⟩ := hmet.cell hy32
        have hmy := hm.out y hy32
        rw [hy] at h1 h2 h3
        have y0 : (0 : Int) ≤ (y : Int) := Int.natCast_nonneg _
        have y1 : (y : Int) < 32 := by omega
        have HY : Hid (f t = (y : Int)) := hy
        clear hy
        cases hv : m y with
        | true =>
          rw [hv] at g1
          go_wp2
          go_ret
          obtain ⟨s, hs, hfs⟩ := hmy.1 hv
          exact ⟨1, rfl, Or.inr ⟨rfl, fun hh => (hh t hlt).2 s hs (by rw [hfs, HY.out])⟩, hw⟩
        | false =>
          rw [hv] at g1
          go_wp2
          go_roundw
          case rel =>
            refine ⟨t + 1, _, by omega, by go_num, hmet.set hy32, (show Good (t + 1) n f from fun i hi => ?_), (fun j hj => ?_), Bw.put hw (Nat.le_refl _) _ _⟩
            · by_cases e : i = t
              · subst e
                refine ⟨by rw [HY.out]; omega, fun j hj he => ?_⟩
                have := hmy.2 ⟨j, hj, by rw [he, HY.out]⟩
                rw [hv] at this; cases this
              · exact hg.out i (by omega)
            · by_cases e : j = y
              · subst e
                rw [upd_at]
                exact ⟨fun _ => ⟨t, by omega, HY.out⟩, fun _ => rfl⟩
              · rw [upd_ne _ _ e]
                refine ⟨fun h => ?_, fun ⟨s, hs, hfs⟩ => ?_⟩
                · obtain ⟨s, hs, hfs⟩ := (hm.out j hj).1 h
                  exact ⟨s, by omega, hfs⟩
                · by_cases e2 : s = t
                  · subst e2; rw [HY.out] at hfs; omega
                  · exact (hm.out j hj).2 ⟨s, by omega, hfs⟩
          case measure => simp [intOf]; omega
    · have ek : l = t := by omega
      subst ek
      go_wp2
      go_ret
      exact ⟨0, rfl, Or.inl ⟨rfl, hg.out⟩, hw⟩

theorem sh_any (k n : Int) (B A : Option Addr) (m l cb ca : Nat) (R : Nat → Option Addr) (L C : Nat → Nat) (Z : Nat → Nat → Int) (f : Nat → Int) (w : World) (hb : MatAt w B m R L C Z) (ha : IntsAt w A l f) (hl : l ≤ 140737488355328) (hm : m ≤ 140737488355328) :
    Calls Try.prog 46 #[.int .i64 k, .int .i64 n, .slice B m cb, .slice A l ca] w fun e w' => ∃ x, e = .returned (.int .i64 x) ∧ ShWrong k n m l L f x ∧ Bw w w' := by
  obtain ⟨x, hx⟩ := kn_some k n
  by_cases h0 : x = 0
  · subst h0
    obtain ⟨n1, n2, n3⟩ := kn_ok hx
    by_cases h1 : m = l
    · subst h1
      have ell : ((m : Int) != (m : Int)) = false := by simp
      by_cases h2 : Good m n f
      · by_cases h3 : (m : Int) < k
        · go_enter Try.func46, Try.ntmps46
          go_wp2_with (first
            | (go_at_call 25; refine (kn_any _ _ _).mono ?_; rintro e w' ⟨y, rfl, hy, hw'⟩; subst w'; obtain rfl := hy.unique hx)
            | (go_at_call 55; refine (num_any n A m ca f _ ha hl n3).mono ?_; rintro e w1 ⟨y, rfl, hy, hw1⟩; obtain rfl : y = 0 := (by rcases hy with ⟨e, _⟩ | ⟨_, e⟩; (exact e); exact absurd h2 e); clear hy))
          go_ret
          exact ⟨30, rfl, Or.inr (Or.inr (Or.inr (Or.inl ⟨hx, rfl, h2, h3, rfl⟩))), hw1⟩
        · go_enter Try.func46, Try.ntmps46
          go_wp2_with (first
            | (go_at_call 25; refine (kn_any _ _ _).mono ?_; rintro e w' ⟨y, rfl, hy, hw'⟩; subst w'; obtain rfl := hy.unique hx)
            | (go_at_call 55; refine (num_any n A m ca f _ ha hl n3).mono ?_; rintro e w1 ⟨y, rfl, hy, hw1⟩; obtain rfl : y = 0 := (by rcases hy with ⟨e, _⟩ | ⟨_, e⟩; (exact e); exact absurd h2 e); clear hy)
            | (go_at_call 32; refine (rows_any B m cb R L C Z hm _ (hb.keep hw1)).mono ?_; rintro e w' ⟨z, rfl, hz, hw'⟩; subst w'))
          go_ret
          exact ⟨z, rfl, Or.inr (Or.inr (Or.inr (Or.inr ⟨hx, rfl, h2, by omega, hz⟩))), hw1⟩
      · go_enter Try.func46, Try.ntmps46
        go_wp2_with (first
          | (go_at_call 25; refine (kn_any _ _ _).mono ?_; rintro e w' ⟨y, rfl, hy, hw'⟩; subst w'; obtain rfl := hy.unique hx)
          | (go_at_call 55; refine (num_any n A m ca f _ ha hl n3).mono ?_; rintro e w1 ⟨y, rfl, hy, hw1⟩; obtain rfl : y = 1 := (by rcases hy with ⟨_, e⟩ | ⟨e, _⟩; (exact absurd e h2); exact e); clear hy))
        go_ret
        exact ⟨1, rfl, Or.inr (Or.inr (Or.inl ⟨hx, rfl, h2, rfl⟩)), hw1⟩
    · have e2 : ((m : Int) != (l : Int)) = true := by simp; omega
      go_enter Try.func46, Try.ntmps46
      go_wp2_with (go_at_call 25; refine (kn_any _ _ _).mono ?_; rintro e w' ⟨y, rfl, hy, hw'⟩; subst w'; obtain rfl := hy.unique hx)
      go_ret
      exact ⟨6, rfl, Or.inr (Or.inl ⟨hx, h1, rfl⟩), Bw.refl _⟩
  · have e2 : (x != 0) = true := by simpa using h0
    go_enter Try.func46, Try.ntmps46
    go_wp2_with (go_at_call 25; refine (kn_any _ _ _).mono ?_; rintro e w' ⟨y, rfl, hy, hw'⟩; subst w'; obtain rfl := hy.unique hx)
    go_ret
    exact ⟨_, rfl, Or.inl ⟨hx, h0⟩, Bw.refl _⟩

end Go.Proofs.Ytbhbdhkifkmkbaa
