/- Texts of mine, put together. -/
import Derived.Test.YtbhbdhkifkmkbaaB5
import Derived.BigRegion
import Derived.WalkMore

set_option linter.unusedVariables false

/- Contracts of the program's One, Mul and Turned. -/
namespace Go.Proofs.Ytbhbdhkifkmkbaa
open Go.RowKit

attribute [local go_sem ↓] Go.wp_at_zero Go.wp_at_succ

/-- a matrix that was made since the block base -/
structure NewMat (w : World) (base : Nat) (A : Option Addr) (n : Nat) (R : Nat → Option Addr) (L C : Nat → Nat) (Z : Nat → Nat → Int) : Prop where
  mat : MatAt w A n R L C Z
  head : n = 0 ∨ ∃ g o, A = some ⟨g, o, none⟩ ∧ base ≤ g ∧ g < w.heap.size
  rows : ∀ r, r < n → L r = 0 ∨ ∃ g o, R r = some ⟨g, o, none⟩ ∧ base ≤ g ∧ g < w.heap.size

/-- .. as a value -/
def MatRes (w : World) (base : Nat) (v : Value) (n : Nat) (L : Nat → Nat) (Z : Nat → Nat → Int) : Prop :=
  ∃ A cap R C, v = .slice A n cap ∧ NewMat w base A n R L C Z

theorem Grid.new {w : World} {g h n m base : Nat} {P : Nat → Nat} {Z : Nat → Nat → Int} (d : Grid w g h n m P Z) (hg : base ≤ g) (hh : base ≤ h) : MatRes w base (.slice (some ⟨h, 0, none⟩) n n) n (fun _ => m) Z :=
  ⟨_, _, _, _, rfl, d.mat, Or.inr ⟨_, _, rfl, hh, d.hlt⟩, fun _ _ => Or.inr ⟨_, _, rfl, hg, d.glt⟩⟩

theorem MatRes.congr {w : World} {base n : Nat} {v : Value} {L : Nat → Nat} {Z Z' : Nat → Nat → Int} (h : MatRes w base v n L Z) (e : ∀ r, r < n → Z' r = Z r) : MatRes w base v n L Z' := by
  obtain ⟨A, cap, R, C, hv, hm⟩ := h
  exact ⟨A, cap, R, C, hv, ⟨hm.mat.1, fun r hr => by rw [e r hr]; exact hm.mat.2 r hr⟩, hm.head, hm.rows⟩

theorem res_none (w : World) (base : Nat) (L : Nat → Nat) (Z : Nat → Nat → Int) : MatRes w base (.slice none 0 0) 0 L Z :=
  ⟨_, _, fun _ => none, fun _ => 0, rfl, ⟨Or.inl rfl, fun r hr => by omega⟩, Or.inl rfl, fun r hr => by omega⟩

/-- a cell of a work space set -/
theorem Grid.set {W : World} {g h n m : Nat} {P : Nat → Nat} {Z : Nat → Nat → Int} (d : Grid W g h n m P Z) {r c : Nat} {x : Int} (hr : r < n) (hc : c < m) (hx : 0 ≤ x ∧ x < 256) :
    Grid (W.setCell ⟨g, P r * m + c, none⟩ (.int .u8 x)) g h n m P (upd Z r (upd (Z r) c x)) := by
  obtain ⟨F, hb, hF, hZ⟩ := d.cells
  have hle := cut_le (m := m) (c := c + 1) (d.lt r hr) (by omega)
  refine d.turned (F := F) (F' := upd F (P r * m + c) x) (Bx.put (Bx.refl (· = g) W) rfl) hr hZ (hb.set (by omega) (upd_at _ _ _) (fun k _ hk => upd_ne _ _ hk)) (fun i => ?_) (fun i => ?_) (fun i hi => ?_) (fun i hi => upd_ne _ _ (fun e => hi (by omega)))
  · unfold upd; split
    · exact hx
    · exact hF i
  · unfold upd; split
    · exact hx
    · exact d.bd r i
  · by_cases e : i = c
    · subst e; rw [upd_at, upd_at]
    · rw [upd_ne _ _ e, upd_ne _ _ (fun e' => e (by omega))]; exact hZ r i hr hi

/-- k rows of the matrix that changes nothing -/
def oneW (k i j : Nat) : Int := if i < k then oneZ i j else 0
theorem oneW_bd (k i j : Nat) : 0 ≤ oneW k i j ∧ oneW k i j < 256 := by
  unfold oneW; split
  · exact oneZ_bd i j
  · decide
theorem oneW_next (k i j : Nat) : oneW (k + 1) i j = upd (oneW k) k (upd (oneW k k) k 1) i j := by
  by_cases e : i = k
  · subst e; rw [upd_at]
    by_cases e' : j = i
    · subst e'; rw [upd_at]; unfold oneW oneZ; rw [if_pos (by omega), if_pos rfl]
    · rw [upd_ne _ _ e']; unfold oneW oneZ; rw [if_pos (by omega), if_neg (fun e => e' e.symm), if_neg (by omega)]
  · rw [upd_ne _ _ e]; unfold oneW
    by_cases h : i < k
    · rw [if_pos h, if_pos (by omega)]
    · rw [if_neg h, if_neg (by omega)]

/-- the product under way: i rows are there, t terms of the next one -/
def wayM (m : Nat) (Z Y : Nat → Nat → Int) (i t r c : Nat) : Int := if r < i then prodZ m Z Y r c else if r = i then dotU (Z r) (fun s => Y s c) t else 0
theorem wayM_bd {m : Nat} {Z Y : Nat → Nat → Int} (hZ : ∀ r c, 0 ≤ Z r c ∧ Z r c < 256) (i t r c : Nat) : 0 ≤ wayM m Z Y i t r c ∧ wayM m Z Y i t r c < 256 := by
  unfold wayM; split
  · exact dotU_bd _ _ (hZ r) m
  · split
    · exact dotU_bd _ _ (hZ r) t
    · decide
theorem wayM_term (m : Nat) (Z Y : Nat → Nat → Int) (i t r c : Nat) : wayM m Z Y i (t + 1) r c = upd (wayM m Z Y i t) i (fun l => addI (wayM m Z Y i t i l) (mulI (Z i t) (Y t l))) r c := by
  by_cases e : r = i
  · subst e; rw [upd_at]; unfold wayM; rw [if_neg (by omega), if_pos rfl, if_neg (by omega), if_pos rfl]; rfl
  · rw [upd_ne _ _ e]; unfold wayM; rw [if_neg e, if_neg e]
theorem wayM_row (m : Nat) (Z Y : Nat → Nat → Int) (i r c : Nat) : wayM m Z Y (i + 1) 0 r c = wayM m Z Y i m r c := by
  unfold wayM
  by_cases h1 : r < i
  · rw [if_pos h1, if_pos (by omega)]
  · by_cases h2 : r = i
    · subst h2; rw [if_pos (by omega), if_neg h1, if_pos rfl]; rfl
    · rw [if_neg (by omega), if_neg h1, if_neg h2]; split <;> rfl

/-- numbers that a matrix has, and noughts beside them -/
def capZ (n : Nat) (Z : Nat → Nat → Int) (r : Nat) : Nat → Int := if r < n then Z r else fun _ => 0
theorem capZ_bd {w : World} {A : Option Addr} {n : Nat} {R : Nat → Option Addr} {L C : Nat → Nat} {Z : Nat → Nat → Int} (h : MatAt w A n R L C Z) (r c : Nat) : 0 ≤ capZ n Z r c ∧ capZ n Z r c < 256 := by
  unfold capZ; split
  · rename_i hr; exact (h.2 r hr).2 c
  · exact ⟨Int.le_refl 0, show (0 : Int) < 256 by decide⟩
theorem capZ_at {n r : Nat} {Z : Nat → Nat → Int} (h : r < n) : capZ n Z r = Z r := by unfold capZ; rw [if_pos h]

theorem wrong_ok {n : Nat} {L : Nat → Nat} (h : Wrong n L 0) : n ≤ 32 ∧ (∀ r, r < n → L r ≤ 131072) ∧ ∀ r, r < n → L r = L 0 := by
  rcases h with ⟨h, _⟩ | ⟨h, _⟩ | ⟨_, h⟩
  · cases h
  · cases h
  · exact h

theorem wrong_cols {n : Nat} {L : Nat → Nat} {q : Nat} (h : Wrong n L 0) (hc : colsI n L = (q : Int)) : q ≤ 131072 ∧ ∀ r, r < n → L r = q := by
  obtain ⟨h1, h2, h3⟩ := wrong_ok h
  unfold colsI at hc
  by_cases h0 : n = 0
  · rw [if_pos h0] at hc; exact ⟨by omega, fun r hr => by omega⟩
  · rw [if_neg h0] at hc
    exact ⟨by have := h2 0 (by omega); omega, fun r hr => by have := h3 r hr; omega⟩

set_option maxRecDepth 100000 in
set_option maxHeartbeats 1000000 in
theorem mul_ok (A B : Option Addr) (n m q ca cb : Nat) (R S : Nat → Option Addr) (L C M D : Nat → Nat) (Z Y : Nat → Nat → Int) (w : World) (ha : MatAt w A n R L C Z) (hb : MatAt w B m S M D Y)
    (hx : Wrong n L 0) (hy : Wrong m M 0) (hcA : colsI n L = (m : Int)) (hcB : colsI m M = (q : Int)) :
    Calls Try.prog 28 #[.slice A n ca, .slice B m cb] w fun e w' => ∃ v, e = .returned (.tuple #[v, .int .i64 0]) ∧ MatRes w' w.heap.size v n (fun _ => q) (prodZ m Z Y) ∧ Bw w w' := by
  obtain ⟨hn, -, -⟩ := wrong_ok hx
  obtain ⟨hm, -, -⟩ := wrong_ok hy
  obtain ⟨-, hLm⟩ := wrong_cols hx hcA
  obtain ⟨hq, hMq⟩ := wrong_cols hy hcB
  have hLm' : Hid (∀ r, r < n → L r = m) := hLm
  have hMq' : Hid (∀ r, r < m → M r = q) := hMq
  clear hLm hMq
  have hnq : n * q ≤ 32 * 131072 := Nat.mul_le_mul hn hq
  have e1 : (colsI n L != (m : Int)) = false := by rw [hcA]; simp
  have hcb := capZ_bd ha
  go_enter Try.func28, Try.ntmps28
  go_wp2_with (first
    | (go_at_call_of 39 (Value.slice A n ca); refine (wrong_any _ _ _ _ _ _ _ _ ha).mono ?_; rintro e w' ⟨x, rfl, hx', hw'⟩; subst w'; obtain rfl := Wrong.unique hx' hx)
    | (go_at_call_of 39 (Value.slice B m cb); refine (wrong_any _ _ _ _ _ _ _ _ hb).mono ?_; rintro e w' ⟨x, rfl, hx', hw'⟩; subst w'; obtain rfl := Wrong.unique hx' hy)
    | (go_at_call_of 40 (Value.slice A n ca); refine (columns_any _ _ _ _ _ _ _ _ ha).mono ?_; rintro e w' ⟨rfl, hw'⟩; subst w')
    | (go_at_call_of 40 (Value.slice B m cb); refine (columns_any _ _ _ _ _ _ _ _ hb).mono ?_; rintro e w' ⟨rfl, hw'⟩; subst w'; rw [hcB])
    | (go_at_call 41; refine (space_any n q (by omega) (by omega) (by omega) _).mono ?_; rintro e w1 ⟨g, h, rfl, d, hg, hh, hbw⟩))
  obtain ⟨P, d⟩ : ∃ P, Grid w1 g h n q P (fun _ _ => 0) := ⟨_, d⟩
  go_loopw [35] (fun i wr => ∃ k : Nat, k ≤ n ∧ i = .int .i64 k ∧ Grid wr g h n q P (wayM m (capZ n Z) Y k 0) ∧ Bw w wr) (fun i _ => n - (intOf i).toNat)
  case atStart => exact ⟨0, Nat.zero_le _, rfl, d.congr (fun r c => wayM_bd hcb _ _ _ _) (fun r c _ _ => by unfold wayM; rw [if_neg (by omega)]; split <;> rfl), hbw⟩
  case round =>
    rename World => wo
    obtain ⟨k, hk, rfl, dk, hbk⟩ := hrel
    have hao := ha.keep hbk
    by_cases hlt : k < n
    · have hLk := hLm'.out k hlt
      obtain ⟨b1, o1, e2, hc1⟩ := hao.at hlt
      have h1 := hc1 k hlt
      rw [hLk] at h1
      have hrow := ha.2 k hlt
      rw [hLk] at hrow
      have k0 : (0 : Int) ≤ (k : Int) := Int.natCast_nonneg _
      have k1 : (k : Int) < (n : Int) := by omega
      subst e2
      clear hc1 hLk hao
      generalize R k = RK at h1 hrow
      go_wp2
      go_loopw [42] (fun i wr => ∃ t : Nat, t ≤ m ∧ i = .int .i64 t ∧ Grid wr g h n q P (wayM m (capZ n Z) Y k t) ∧ Bw w wr) (fun i _ => m - (intOf i).toNat)
      case atStart => exact ⟨0, Nat.zero_le _, rfl, dk, hbk⟩
      case round =>
        obtain ⟨t, ht, rfl, dt, hbt⟩ := hrel
        by_cases htm : t < m
        · obtain ⟨b3, o3, e3, hc3⟩ := (hrow.keep hbt).at htm
          have h3 := hc3 t htm
          have z3 := hrow.2 t
          have hMt := hMq'.out t htm
          obtain ⟨b4, o4, e4, hc4⟩ := (hb.keep hbt).at htm
          have h4 := hc4 t htm
          rw [hMt] at h4
          have hr4 := hb.2 t htm
          rw [hMt] at hr4
          have hdis : ∀ a, S t = some a → a.block ≠ g ∨ a.off + q ≤ P k * q ∨ P k * q + q ≤ a.off := by
            intro a e
            by_cases h0 : q = 0
            · subst h0; right; right; rw [Nat.mul_zero]; omega
            · left
              obtain ⟨b, o, e', hc⟩ := hr4.at (k := 0) (by omega)
              have := block_lt_of_cell (hc 0 (by omega))
              rw [e] at e'; cases e'; simp only at this ⊢; omega
          obtain ⟨c1, -⟩ := dt.head hlt
          have hrb := hr4.keep hbt
          have t0 : (0 : Int) ≤ (t : Int) := Int.natCast_nonneg _
          have t1 : (t : Int) < (m : Int) := by omega
          subst e3
          subst e4
          clear hc3 hc4 hMt
          have dt' : Grid wr.drew g h n q P (wayM m (capZ n Z) Y k t) := ⟨dt.heads, dt.cells, dt.lt, dt.inj, dt.ne, dt.bd⟩
          have hbt' : Bw w wr.drew := hbt.drew
          go_wp2
          go_region_with (go_at_call 43; refine (add_grid (by omega) (by omega) dt' hlt (by omega) hrb.drew hdis).mono ?_; rintro e w3 ⟨rfl, d3, hx3⟩)
          all_goals
            go_wp2
            go_roundw
            case rel =>
              refine ⟨t + 1, by omega, by go_num, d3.congr (fun r c => wayM_bd hcb _ _ _ _) (fun r c _ _ => ?_), Below.trans hbt' (hx3.below hbt'.size (fun b e => by omega))⟩
              rw [wayM_term, capZ_at hlt]
            case measure => simp [intOf]; omega
        · have ek : m = t := by omega
          subst ek
          go_wp2
          go_roundw
          case rel => exact ⟨k + 1, by omega, by go_num, dt.congr (fun r c => wayM_bd hcb _ _ _ _) (fun r c _ _ => wayM_row _ _ _ _ _ _), hbt⟩
          case measure => simp [intOf]; omega
    · have ek : n = k := by omega
      subst ek
      go_wp2
      go_ret2
      refine ⟨_, rfl, (dk.new hg hh).congr (fun r hr => ?_), hbk⟩
      funext c
      unfold wayM prodZ
      rw [if_pos hr, capZ_at hr]

end Go.Proofs.Ytbhbdhkifkmkbaa

/- Contract of the closure in the program's reduce: one turn of the reckoning. -/
namespace Go.Proofs.Ytbhbdhkifkmkbaa
open Go.RowKit

/-- rows changed about, one of them multiplied: the document's own way to say it -/
theorem swap_scaled {Z : Nat → Nat → Int} {r q j : Nat} (hZ : ∀ r c, 0 ≤ Z r c ∧ Z r c < 256) :
    upd (upd (upd Z r (Z q)) q (Z r)) r (fun l => mulI (invR (upd (upd Z r (Z q)) q (Z r) r j)) (upd (upd Z r (Z q)) q (Z r) r l)) = swapZ Z r q j := by
  have e : upd (upd Z r (Z q)) q (Z r) r = Z q := by
    by_cases h : r = q
    · subst h; rw [upd_at]
    · rw [upd_ne _ _ h, upd_at]
  rw [e]
  funext k l
  unfold swapZ
  by_cases hk : k = r
  · subst hk; rw [upd_at, upd_at, mul_comm _ _ (invR_bd _).2 (hZ q l).2]
  · rw [upd_ne _ _ hk, upd_ne _ _ hk]
    by_cases hq : k = q
    · subst hq; rw [upd_at, upd_at]
    · rw [upd_ne _ _ hq, upd_ne _ _ hq, upd_ne _ _ hk]

theorem cut_sep {a b m : Nat} (h : a ≠ b) : a * m + m ≤ b * m ∨ b * m + m ≤ a * m := by
  rcases Nat.lt_or_gt_of_ne h with h | h
  · have := Nat.mul_le_mul_right m (show a + 1 ≤ b from h)
    rw [Nat.succ_mul] at this; omega
  · have := Nat.mul_le_mul_right m (show b + 1 ≤ a from h)
    rw [Nat.succ_mul] at this; omega

theorem doneZ_bd {Z : Nat → Nat → Int} {r j i : Nat} (hZ : ∀ r c, 0 ≤ Z r c ∧ Z r c < 256) (k l : Nat) : 0 ≤ doneZ Z r j i k l ∧ doneZ Z r j i k l < 256 := by
  unfold doneZ; split
  · exact addI_bd _ _ (hZ k l).2 (mulI_bd _ _ (hZ k j).2).2
  · exact hZ k l

theorem swapZ_bd {Z : Nat → Nat → Int} {r q j : Nat} (hZ : ∀ r c, 0 ≤ Z r c ∧ Z r c < 256) (k l : Nat) : 0 ≤ swapZ Z r q j k l ∧ swapZ Z r q j k l < 256 := by
  unfold swapZ upd
  split
  · exact mulI_bd _ _ (hZ q l).2
  · split
    · exact hZ r l
    · exact hZ k l

set_option maxRecDepth 100000 in
set_option maxHeartbeats 1000000 in
theorem settle_any (g h n m r q j bw br : Nat) (P : Nat → Nat) (Z : Nat → Nat → Int) (w : World) (d : Grid w g h n m P Z) (hw : w.heap[bw]? = some (.cells #[.slice (some ⟨h, 0, none⟩) n n] 22 (0, 0)))
    (hr : w.heap[br]? = some (.cells #[.int .i64 (r : Int)] 3 (0, 0))) (n1 : bw ≠ g) (n2 : bw ≠ h) (n3 : br ≠ g) (n4 : br ≠ h) (n5 : bw ≠ br) (hrn : r < n) (hqn : q < n) (hj : j < m) (hn : n ≤ 131072) (hm : m ≤ 1048576) :
    Calls Try.prog 52 #[.int .i64 (q : Int), .int .i64 (j : Int), .pointer (some ⟨bw, 0, none⟩), .pointer (some ⟨br, 0, none⟩)] w fun e w' => e = .returned (.tuple #[]) ∧
      (∃ P', Grid w' g h n m P' (doneZ (swapZ Z r q j) r j n)) ∧ w'.heap[br]? = some (.cells #[.int .i64 ((r : Int) + 1)] 3 (0, 0)) ∧ Bx (fun b => b = g ∨ b = h ∨ b = br) w w' := by
  have cw := cell_of_one hw
  have cr := cell_of_one hr
  obtain ⟨c1, f1⟩ := d.head hrn
  obtain ⟨c2, f2⟩ := d.head hqn
  have d1 := d.swap hrn hqn
  have i1 : (0 : Int) ≤ (r : Int) := Int.natCast_nonneg _
  have i2 : (r : Int) < (n : Int) := by omega
  have i3 : (0 : Int) ≤ (q : Int) := Int.natCast_nonneg _
  have i4 : (q : Int) < (n : Int) := by omega
  obtain ⟨v3, c3⟩ : ∃ v, (w.setCell ⟨h, r, none⟩ (.slice (some ⟨g, P q * m, none⟩) m m)).cell? ⟨h, q, none⟩ = some v := by
    by_cases e : r = q
    · subst e; exact ⟨_, World.cell?_setCell_same' _ _ _ (by rw [c1]; rfl)⟩
    · exact ⟨_, (cell_other' (fun e' => by simp only [Addr.mk.injEq] at e'; omega)).trans c2⟩
  have hx1 : Bx (fun b => b = g ∨ b = h ∨ b = br) w ((w.setCell ⟨h, r, none⟩ (.slice (some ⟨g, P q * m, none⟩) m m)).setCell ⟨h, q, none⟩ (.slice (some ⟨g, P r * m, none⟩) m m)).drew := (Bx.put (Bx.put (Bx.refl _ w) (Or.inr (Or.inl rfl))) (Or.inr (Or.inl rfl))).drew
  have lw : bw < w.heap.size := (Array.getElem?_eq_some_iff.1 hw).1
  have lr : br < w.heap.size := (Array.getElem?_eq_some_iff.1 hr).1
  have hxh : Bx (· = h) w ((w.setCell ⟨h, r, none⟩ (.slice (some ⟨g, P q * m, none⟩) m m)).setCell ⟨h, q, none⟩ (.slice (some ⟨g, P r * m, none⟩) m m)).drew := (Bx.put (Bx.put (Bx.refl (· = h) w) rfl) rfl).drew
  have hw1 := (hxh.block bw lw n2).trans hw
  have hr1 := (hxh.block br lr n4).trans hr
  have dd : Grid ((w.setCell ⟨h, r, none⟩ (.slice (some ⟨g, P q * m, none⟩) m m)).setCell ⟨h, q, none⟩ (.slice (some ⟨g, P r * m, none⟩) m m)).drew g h n m (upd (upd P r (P q)) q (P r)) (upd (upd Z r (Z q)) q (Z r)) := ⟨d1.heads, d1.cells, d1.lt, d1.inj, d1.ne, d1.bd⟩
  have hsw := swap_scaled (r := r) (q := q) (j := j) d.bd
  go_enter Try.func52, Try.ntmps52
  go_wp2
  rename_i K hK
  have hrest : K { tmps := #[.int .i64 (q : Int), .int .i64 (j : Int), .pointer (some ⟨bw, 0, none⟩), .pointer (some ⟨br, 0, none⟩), undef, undef, undef, undef, undef, Value.slice (some ⟨h, 0, none⟩) n n, .int .i64 (r : Int), Value.slice (some ⟨h, 0, none⟩) n n, .int .i64 (q : Int), Value.slice (some ⟨h, 0, none⟩) n n, .int .i64 (q : Int), .pointer (some ⟨h, q, none⟩), .slice (some ⟨g, P q * m, none⟩) m m, Value.slice (some ⟨h, 0, none⟩) n n, .int .i64 (r : Int), .pointer (some ⟨h, r, none⟩), .slice (some ⟨g, P r * m, none⟩) m m, .pointer (some ⟨h, r, none⟩), .pointer (some ⟨h, q, none⟩), undef, undef, undef, undef, undef, undef, undef, undef, undef, undef, undef, undef, undef, undef, undef, undef, undef, undef, undef, undef, undef, undef, undef, undef, undef, undef, undef, undef, undef, undef], defers := [] } ((w.setCell ⟨h, r, none⟩ (.slice (some ⟨g, P q * m, none⟩) m m)).setCell ⟨h, q, none⟩ (.slice (some ⟨g, P r * m, none⟩) m m)).drew := by
    refine hK _ _ ?_
    clear hK
    generalize ((w.setCell ⟨h, r, none⟩ (.slice (some ⟨g, P q * m, none⟩) m m)).setCell ⟨h, q, none⟩ (.slice (some ⟨g, P r * m, none⟩) m m)).drew = W1 at *
    generalize upd (upd P r (P q)) q (P r) = P1 at *
    generalize upd (upd Z r (Z q)) q (Z r) = Z1 at *
    clear c1 c2 c3 cw cr d1
    have cw := cell_of_one hw1
    have cr := cell_of_one hr1
    obtain ⟨c1, -⟩ := dd.head hrn
    obtain ⟨c2, -⟩ := dd.cell hrn hj
    have z1 := dd.bd r j
    have j0 : (0 : Int) ≤ (j : Int) := Int.natCast_nonneg _
    have j1 : (j : Int) < (m : Int) := by omega
    go_wp2_with (go_at_call 53; refine (scale_grid (by omega) (by omega) dd hrn hm).mono ?_; rintro e W2 ⟨rfl, d2, hx2⟩; have cw2 := cell_of_one ((hx2.block bw (Nat.lt_of_lt_of_le lw hx1.size) n1).trans hw1))
    rw [hsw] at d2
    generalize hZ2 : swapZ Z r q j = Z2 at *
    have hx2' : Bx (fun b => b = g ∨ b = h ∨ b = br) w W2 := hx1.trans (hx2.more (fun b e => Or.inl e))
    have hw2 := (hx2.block bw (Nat.lt_of_lt_of_le lw hx1.size) n1).trans hw1
    have hr2 := (hx2.block br (Nat.lt_of_lt_of_le lr hx1.size) n3).trans hr1
    have hd0 : Grid W2 g h n m P1 (doneZ Z2 r j 0) := by rw [doneZ_zero]; exact d2
    clear c1 c2 cw cr cw2 hx1 hx2 hxh hw1 hr1 dd hsw z1 d
    go_loopw [35] (fun i wr => ∃ k : Nat, k ≤ n ∧ i = .int .i64 k ∧ Grid wr g h n m P1 (doneZ Z2 r j k) ∧ wr.heap[bw]? = some (.cells #[.slice (some ⟨h, 0, none⟩) n n] 22 (0, 0)) ∧ wr.heap[br]? = some (.cells #[.int .i64 (r : Int)] 3 (0, 0)) ∧ Bx (fun b => b = g ∨ b = h ∨ b = br) w wr) (fun i _ => n - (intOf i).toNat)
    case atStart => exact ⟨0, Nat.zero_le _, rfl, hd0, hw2, hr2, hx2'⟩
    case round =>
      obtain ⟨k, hk, rfl, dk, hwk, hrk, hxk⟩ := hrel
      have cr := cell_of_one hrk
      have fr := free_of_one hrk
      by_cases hlt : k < n
      · obtain ⟨c1, -⟩ := dk.head hlt
        obtain ⟨c2, -⟩ := dk.cell hlt hj
        rw [doneZ_at] at c2
        have z2 := d2.bd k j
        have k0 : (0 : Int) ≤ (k : Int) := Int.natCast_nonneg _
        have k1 : (k : Int) < (n : Int) := by omega
        by_cases hkr : k = r
        · subst hkr
          have e1 : ((k : Int) != (k : Int)) = false := by simp
          go_wp2
          go_roundw
          case rel => exact ⟨k + 1, by omega, by go_num, by rw [doneZ_skip]; exact dk, hwk, hrk, hxk⟩
          case measure => simp [intOf]; omega
        · have e1 : ((k : Int) != (r : Int)) = true := by simp; omega
          have hrow := dk.row hrn
          rw [doneZ_piv] at hrow
          go_wp2_with (go_at_call 43; refine (add_grid (by omega) (by omega) dk hlt hm hrow (fun a ha => by cases ha; exact Or.inr (cut_sep (fun e => hkr (dk.inj k r hlt hrn e.symm))))).mono ?_; rintro e w3 ⟨rfl, d3, hx3⟩)
          go_roundw
          case rel =>
            have lk := hxk.size
            refine ⟨k + 1, by omega, by go_num, ?_, (hx3.block bw (Nat.lt_of_lt_of_le lw lk) n1).trans hwk, (hx3.block br (Nat.lt_of_lt_of_le lr lk) n3).trans hrk, hxk.trans (hx3.more (fun b e => Or.inl e))⟩
            rw [doneZ_next _ _ _ _ hkr]
            rw [doneZ_at] at d3
            exact d3
          case measure => simp [intOf]; omega
      · have ek : n = k := by omega
        subst ek
        go_wp2
        go_end0
        refine ⟨rfl, ⟨P1, hZ2 ▸ dk.keepx ((Bx.refl (· = br) wr).put rfl) (fun e => n3 e.symm) (fun e => n4 e.symm)⟩, ?_, Bx.put hxk (Or.inr (Or.inr rfl))⟩
        exact one_setCell hrk
  go_region
  exact hrest

end Go.Proofs.Ytbhbdhkifkmkbaa

/- Contract of the program's reduce: rows brought to steps. -/
namespace Go.Proofs.Ytbhbdhkifkmkbaa
open Go.RowKit

theorem Bx.new {S T : Nat → Prop} {a b c : World} (h : Bx S a b) (k : Bx T b c) (hT : ∀ x, x < a.heap.size → T x → S x) : Bx S a c :=
  ⟨k.os.trans h.os, k.tape.trans h.tape, k.output.trans h.output, Nat.le_trans h.size k.size, fun x hx hs => (k.block x (Nat.lt_of_lt_of_le hx h.size) (fun e => hs (hT x hx e))).trans (h.block x hx hs)⟩

set_option maxRecDepth 100000 in
set_option maxHeartbeats 2000000 in
theorem reduce_any (g h n m cols : Nat) (P0 : Nat → Nat) (Z0 : Nat → Nat → Int) (w : World) (d : Grid w g h n m P0 Z0) (hc : cols ≤ m) (hn : n ≤ 131072) (hm : m ≤ 1048576) :
    Calls Try.prog 42 #[.slice (some ⟨h, 0, none⟩) n n, .int .i64 (cols : Int)] w fun e w' => ∃ (r : Nat) (p P : Nat → Nat) (Z : Nat → Nat → Int), e = .returned (.int .i64 (r : Int)) ∧ Grid w' g h n m P Z ∧ StepInv n m cols r Z0 Z p ∧ r ≤ n ∧ Bx (fun b => b = g ∨ b = h) w w' := by
  have hgl := d.glt
  have hhl := d.hlt
  have hs0 : StepInv n m 0 0 Z0 Z0 (fun _ => 0) := ⟨La.RowEq.refl _ _ _, ⟨Nat.zero_le _, fun i hi => by omega, fun i k _ hk => by omega, fun k i _ hi => by omega, fun k j _ _ hj => by omega⟩⟩
  have hbw : Bw w ((w.alloc (.cells #[.slice (some ⟨h, 0, none⟩) n n] 22)).alloc (.cells #[.int .i64 0] 3)) := ((Below.refl _ _).alloc (Nat.le_refl _) _).alloc (by rw [size_alloc]; omega) _
  go_enter Try.func42, Try.ntmps42
  go_wp2
  go_loopw [7, 8] (fun c _ wr => ∃ (j r : Nat) (p P : Nat → Nat) (Z : Nat → Nat → Int), j ≤ cols ∧ c = .int .i64 j ∧ r ≤ n ∧ Grid wr g h n m P Z ∧ StepInv n m j r Z0 Z p ∧ wr.heap[w.heap.size]? = some (.cells #[.slice (some ⟨h, 0, none⟩) n n] 22 (0, 0)) ∧ wr.heap[w.heap.size + 1]? = some (.cells #[.int .i64 (r : Int)] 3 (0, 0)) ∧ Bx (fun b => b = g ∨ b = h) w wr) (fun c _ _ => cols - (intOf c).toNat)
  case atStart => exact ⟨0, 0, _, _, _, Nat.zero_le _, rfl, Nat.zero_le _, d.keep hbw, hs0, heap_alloc2_old _ _ _, heap_alloc2_new _ _ _, Bx.of_bw hbw⟩
  case round =>
    rename World => wo
    obtain ⟨j, r, p, P, Z, hj, rfl, hrn, dk, hst, hw, hr, hx⟩ := hrel
    have cw := cell_of_one hw
    have cr := cell_of_one hr
    by_cases hlt : r < n
    · have r1 : (r : Int) < (n : Int) := by omega
      go_wp2
      go_step3
      go_wp2
      go_step3
      go_wp2
      go_loopw [7, 8] (fun c _ wr => ∃ l : Nat, j ≤ l ∧ l ≤ cols ∧ c = .int .i64 l ∧ StepInv n m l r Z0 Z p ∧ wr = wo) (fun c _ _ => cols - (intOf c).toNat)
      case atStart => exact ⟨j, Nat.le_refl _, hj, rfl, hst, rfl⟩
      case round =>
        rename World => wp
        obtain ⟨l, hjl, hl, rfl, hsl, e⟩ := hrel
        subst e
        by_cases hlc : l < cols
        · have l0 : (0 : Int) ≤ (l : Int) := Int.natCast_nonneg _
          have l1 : (l : Int) < (cols : Int) := by omega
          have l2 : (l : Int) < (m : Int) := by omega
          go_wp2
          go_loopw [8] (fun c wr => ∃ t : Nat, r ≤ t ∧ t ≤ n ∧ c = .int .i64 t ∧ (∀ k, r ≤ k → k < t → Z k l = 0) ∧ wr = wp) (fun c _ => n - (intOf c).toNat)
          case atStart => exact ⟨r, Nat.le_refl _, hrn, rfl, fun k _ _ => by omega, rfl⟩
          case round =>
            rename World => wq
            obtain ⟨t, hrt, htn, rfl, hz, e⟩ := hrel
            subst e
            by_cases htl : t < n
            · obtain ⟨c1, -⟩ := dk.head htl
              obtain ⟨c2, -⟩ := dk.cell htl (c := l) (by omega)
              have t0 : (0 : Int) ≤ (t : Int) := Int.natCast_nonneg _
              have t1 : (t : Int) < (n : Int) := by omega
              by_cases hzt : Z t l = 0
              · have e1 : (Z t l != 0) = false := by simp [hzt]
                go_wp2
                go_roundw
                case rel => exact ⟨t + 1, by omega, by omega, by go_num, fun k h1 h2 => by (by_cases e : k = t); · { subst e; exact hzt }; · { exact hz k h1 (by omega) }, by first | rfl | trivial⟩
                case measure => simp [intOf]; omega
              · have e1 : (Z t l != 0) = true := by simp [hzt]
                have e2 : ((l : Int) == (cols : Int)) = false := by simp; omega
                go_wp2_with (go_at_call 52; refine (settle_any g h n m r t l _ _ P Z _ dk hw hr (by omega) (by omega) (by omega) (by omega) (by omega) hlt htl (by omega) hn hm).mono ?_; rintro e w3 ⟨rfl, ⟨P3, d3⟩, hr3, hx3⟩)
                try simp only [Exit.noGoto_normal]
                go_wp2
                have lq := (Array.getElem?_eq_some_iff.1 hw).1
                go_roundw
                case rel => exact ⟨l + 1, r + 1, _, P3, _, by omega, by go_num, hlt, d3, inv_next hsl (fun i _ l => dk.bd i l) hlt hrt htl hzt (by omega), (hx3.block _ lq (by omega)).trans hw, by rw [hr3]; rfl, hx.new hx3 (fun b hb e => by omega)⟩
                case measure => simp [intOf]; omega
            · have ek : n = t := by omega
              subst ek
              go_wp2
              go_roundw
              case rel => exact ⟨l + 1, by omega, by omega, by go_num, inv_skip hsl (fun k h1 h2 => hz k h1 h2), by first | rfl | trivial⟩
              case measure => simp [intOf]; omega
        · have ek : cols = l := by omega
          subst ek
          have e2 : ((cols : Int) == (cols : Int)) = true := by simp
          go_wp2
          simp only [Exit.noGoto_exit]
          go_wp2
          go_ret
          exact ⟨r, p, P, Z, rfl, dk, hsl, hrn, hx⟩
    · have ek : n = r := by omega
      subst ek
      go_wp2
      go_ret
      exact ⟨n, p, P, Z, rfl, dk, ⟨hst.1, stepped_full hst.2 hj⟩, Nat.le_refl _, hx⟩

end Go.Proofs.Ytbhbdhkifkmkbaa

/- The program's Mul for whatever matrices; Turned; Rank. -/
namespace Go.Proofs.Ytbhbdhkifkmkbaa
open Go.RowKit

/-- what Mul's errors and shape are -/
def MulSays (n : Nat) (L : Nat → Nat) (m : Nat) (M : Nat → Nat) (x : Int) (k q : Nat) : Prop :=
  (Wrong n L x ∧ x ≠ 0 ∧ k = 0) ∨ (Wrong n L 0 ∧ Wrong m M x ∧ x ≠ 0 ∧ k = 0) ∨ (Wrong n L 0 ∧ Wrong m M 0 ∧ colsN n L ≠ m ∧ x = 6 ∧ k = 0) ∨
  (Wrong n L 0 ∧ Wrong m M 0 ∧ colsN n L = m ∧ x = 0 ∧ k = n ∧ q = colsN m M)

theorem wrong_some_x (n : Nat) (L : Nat → Nat) : ∃ x, Wrong n L x := by
  by_cases h1 : 32 < n ∨ ∃ r, r < n ∧ 131072 < L r
  · exact ⟨2, Or.inl ⟨rfl, h1⟩⟩
  · have hn : n ≤ 32 := Nat.le_of_not_lt (fun e => h1 (Or.inl e))
    have hl : ∀ r, r < n → L r ≤ 131072 := fun r hr => Nat.le_of_not_lt (fun e => h1 (Or.inr ⟨r, hr, e⟩))
    by_cases h2 : ∃ r, r < n ∧ L r ≠ L 0
    · exact ⟨6, Or.inr (Or.inl ⟨rfl, hn, hl, h2⟩)⟩
    · exact ⟨0, Or.inr (Or.inr ⟨rfl, hn, hl, fun r hr => Classical.byContradiction fun e => h2 ⟨r, hr, e⟩⟩)⟩

theorem mul_bad1 (A B : Option Addr) (n m ca cb : Nat) (R : Nat → Option Addr) (L C : Nat → Nat) (Z : Nat → Nat → Int) (w : World) (ha : MatAt w A n R L C Z) (x : Int) (hx : Wrong n L x) (h0 : x ≠ 0) :
    Calls Try.prog 28 #[.slice A n ca, .slice B m cb] w fun e w' => e = .returned (.tuple #[.slice none 0 0, .int .i64 x]) ∧ w' = w := by
  have e1 : (x != 0) = true := by simpa using h0
  go_enter Try.func28, Try.ntmps28
  go_wp2_with (go_at_call_of 39 (Value.slice A n ca); refine (wrong_any _ _ _ _ _ _ _ _ ha).mono ?_; rintro e w' ⟨y, rfl, hx', hw'⟩; subst w'; obtain rfl := Wrong.unique hx' hx)
  go_ret2
  exact ⟨rfl, rfl⟩

theorem mul_bad2 (A B : Option Addr) (n m ca cb : Nat) (R S : Nat → Option Addr) (L C M D : Nat → Nat) (Z Y : Nat → Nat → Int) (w : World) (ha : MatAt w A n R L C Z) (hb : MatAt w B m S M D Y) (hx : Wrong n L 0) (x : Int) (hy : Wrong m M x) (h0 : x ≠ 0) :
    Calls Try.prog 28 #[.slice A n ca, .slice B m cb] w fun e w' => e = .returned (.tuple #[.slice none 0 0, .int .i64 x]) ∧ w' = w := by
  have e1 : (x != 0) = true := by simpa using h0
  go_enter Try.func28, Try.ntmps28
  go_wp2_with (first
    | (go_at_call_of 39 (Value.slice A n ca); refine (wrong_any _ _ _ _ _ _ _ _ ha).mono ?_; rintro e w' ⟨y, rfl, hx', hw'⟩; subst w'; obtain rfl := Wrong.unique hx' hx)
    | (go_at_call_of 39 (Value.slice B m cb); refine (wrong_any _ _ _ _ _ _ _ _ hb).mono ?_; rintro e w' ⟨y, rfl, hx', hw'⟩; subst w'; obtain rfl := Wrong.unique hx' hy))
  go_ret2
  exact ⟨rfl, rfl⟩

theorem mul_bad3 (A B : Option Addr) (n m ca cb : Nat) (R S : Nat → Option Addr) (L C M D : Nat → Nat) (Z Y : Nat → Nat → Int) (w : World) (ha : MatAt w A n R L C Z) (hb : MatAt w B m S M D Y) (hx : Wrong n L 0) (hy : Wrong m M 0) (h0 : colsN n L ≠ m) :
    Calls Try.prog 28 #[.slice A n ca, .slice B m cb] w fun e w' => e = .returned (.tuple #[.slice none 0 0, .int .i64 6]) ∧ w' = w := by
  have e1 : (colsI n L != (m : Int)) = true := by rw [colsI_eq]; simp; omega
  go_enter Try.func28, Try.ntmps28
  go_wp2_with (first
    | (go_at_call_of 39 (Value.slice A n ca); refine (wrong_any _ _ _ _ _ _ _ _ ha).mono ?_; rintro e w' ⟨y, rfl, hx', hw'⟩; subst w'; obtain rfl := Wrong.unique hx' hx)
    | (go_at_call_of 39 (Value.slice B m cb); refine (wrong_any _ _ _ _ _ _ _ _ hb).mono ?_; rintro e w' ⟨y, rfl, hx', hw'⟩; subst w'; obtain rfl := Wrong.unique hx' hy)
    | (go_at_call_of 40 (Value.slice A n ca); refine (columns_any _ _ _ _ _ _ _ _ ha).mono ?_; rintro e w' ⟨rfl, hw'⟩; subst w'))
  go_ret2
  exact ⟨rfl, rfl⟩

theorem mul_all (A B : Option Addr) (n m ca cb : Nat) (R S : Nat → Option Addr) (L C M D : Nat → Nat) (Z Y : Nat → Nat → Int) (w : World) (ha : MatAt w A n R L C Z) (hb : MatAt w B m S M D Y) :
    Calls Try.prog 28 #[.slice A n ca, .slice B m cb] w fun e w' => ∃ v x k q, e = .returned (.tuple #[v, .int .i64 x]) ∧ MatRes w' w.heap.size v k (fun _ => q) (prodZ m Z Y) ∧ MulSays n L m M x k q ∧ Bw w w' := by
  obtain ⟨x, hx⟩ := wrong_some_x n L
  obtain ⟨y, hy⟩ := wrong_some_x m M
  by_cases h1 : x = 0
  · subst h1
    by_cases h2 : y = 0
    · subst h2
      by_cases h3 : colsN n L = m
      · refine (mul_ok A B n m (colsN m M) ca cb R S L C M D Z Y w ha hb hx hy (by rw [colsI_eq, h3]) (colsI_eq _ _)).mono ?_
        rintro e w' ⟨v, he, hm, hw⟩
        exact ⟨v, 0, n, colsN m M, he, hm, Or.inr (Or.inr (Or.inr ⟨hx, hy, h3, rfl, rfl, rfl⟩)), hw⟩
      · refine (mul_bad3 A B n m ca cb R S L C M D Z Y w ha hb hx hy h3).mono ?_
        rintro e w' ⟨he, rfl⟩
        exact ⟨_, 6, 0, 0, he, res_none _ _ _ _, Or.inr (Or.inr (Or.inl ⟨hx, hy, h3, rfl, rfl⟩)), Bw.refl _⟩
    · refine (mul_bad2 A B n m ca cb R S L C M D Z Y w ha hb hx y hy h2).mono ?_
      rintro e w' ⟨he, rfl⟩
      exact ⟨_, y, 0, 0, he, res_none _ _ _ _, Or.inr (Or.inl ⟨hx, hy, h2, rfl⟩), Bw.refl _⟩
  · refine (mul_bad1 A B n m ca cb R L C Z w ha x hx h1).mono ?_
    rintro e w' ⟨he, rfl⟩
    exact ⟨_, x, 0, 0, he, res_none _ _ _ _, Or.inl ⟨hx, h1, rfl⟩, Bw.refl _⟩

/-- rows and columns changed about, under way: i rows are done, j numbers of the next one -/
def tW (n : Nat) (Z : Nat → Nat → Int) (i j r c : Nat) : Int := if c < i ∨ (c = i ∧ r < j) then capZ n Z c r else 0
theorem tW_bd {w : World} {A : Option Addr} {n : Nat} {R : Nat → Option Addr} {L C : Nat → Nat} {Z : Nat → Nat → Int} (h : MatAt w A n R L C Z) (i j r c : Nat) : 0 ≤ tW n Z i j r c ∧ tW n Z i j r c < 256 := by
  unfold tW; split
  · exact capZ_bd h c r
  · decide
theorem tW_next {n : Nat} {Z : Nat → Nat → Int} {i j : Nat} (hi : i < n) (r c : Nat) : tW n Z i (j + 1) r c = upd (tW n Z i j) j (upd (tW n Z i j j) i (Z i j)) r c := by
  by_cases e : r = j
  · subst e; rw [upd_at]
    by_cases e' : c = i
    · subst e'; rw [upd_at]; unfold tW; rw [if_pos (by omega), capZ_at hi]
    · rw [upd_ne _ _ e']; unfold tW
      by_cases h : c < i
      · rw [if_pos (by omega), if_pos (by omega)]
      · rw [if_neg (by omega), if_neg (by omega)]
  · rw [upd_ne _ _ e]; unfold tW
    by_cases h : c < i ∨ (c = i ∧ r < j)
    · rw [if_pos h, if_pos (by omega)]
    · rw [if_neg h, if_neg (by omega)]
theorem tW_row {n : Nat} {Z : Nat → Nat → Int} {i m r c : Nat} (hr : r < m) : tW n Z (i + 1) 0 r c = tW n Z i m r c := by
  unfold tW
  by_cases h : c < i ∨ (c = i ∧ r < m)
  · rw [if_pos h, if_pos (by omega)]
  · rw [if_neg h, if_neg (by omega)]

/-- what Turned's errors and shape are -/
def TurnSays (n : Nat) (L : Nat → Nat) (x : Int) (k : Nat) : Prop :=
  (Wrong n L x ∧ x ≠ 0 ∧ k = 0) ∨ (Wrong n L 0 ∧ 32 < colsN n L ∧ x = 2 ∧ k = 0) ∨ (Wrong n L 0 ∧ colsN n L ≤ 32 ∧ x = 0 ∧ k = colsN n L)

end Go.Proofs.Ytbhbdhkifkmkbaa

/- The program's Rank and Inverse. -/
namespace Go.Proofs.Ytbhbdhkifkmkbaa
open Go.RowKit

theorem copy_grid {g h n m r L cb : Nat} {P : Nat → Nat} {Z : Nat → Nat → Int} {f : Nat → Int} {B : Option Addr} (ty : TypeId) {w : World} (d : Grid w g h n m P Z) (hr : r < n) (hL : L ≤ m) (hB : RowAt w B L f) :
    ∃ w', (Builtin.copy_ #[37, 37] ty #[.slice (some ⟨g, P r * m, none⟩) m m, .slice B L cb]).run Try.prog w = .ok (goInt L) w' ∧ Grid w' g h n m P (upd Z r (fun c => if c < L then f c else Z r c)) ∧ Bx (· = g) w w' := by
  obtain ⟨F, hb, hF, hZ⟩ := d.cells
  have hle := cut_le (m := m) (c := m) (d.lt r hr) (Nat.le_refl _)
  obtain ⟨w', h1, h2, h3⟩ := copy_ok g (P r * m) m m (n * m) L cb ty F f B w hb (by omega) hL hB
  refine ⟨w', h1, d.turned h3 hr hZ h2 (cpyF_bd hF hB.2) (fun i => ?_) (fun i hi => ?_) (fun i hi => ?_), h3⟩
  · split
    · exact hB.2 i
    · exact d.bd r i
  · unfold cpyF
    by_cases e : i < L
    · rw [if_pos (by omega), if_pos e, Nat.add_sub_cancel_left]
    · rw [if_neg (by omega), if_neg e, hZ r i hr hi]
  · unfold cpyF; rw [if_neg (by omega)]

/-- k rows laid over -/
def rowsW (n : Nat) (Z : Nat → Nat → Int) (k r c : Nat) : Int := if r < k then capZ n Z r c else 0
theorem rowsW_bd {w : World} {A : Option Addr} {n : Nat} {R : Nat → Option Addr} {L C : Nat → Nat} {Z : Nat → Nat → Int} (h : MatAt w A n R L C Z) (k r c : Nat) : 0 ≤ rowsW n Z k r c ∧ rowsW n Z k r c < 256 := by
  unfold rowsW; split
  · exact capZ_bd h r c
  · decide

theorem StepInv.from_ {n m j r : Nat} {Z0 Z1 Z : Nat → Nat → Int} {p : Nat → Nat} (h : StepInv n m j r Z0 Z p) (e : ∀ i j, i < n → j < m → Z0 i j = Z1 i j) : StepInv n m j r Z1 Z p :=
  ⟨(La.RowEq.of_eq (A := fm Z1) (W := fm Z0) (fun i j hi hj => by unfold fm; rw [e i j hi hj])).trans h.1, h.2⟩

/-- what Rank says -/
def RankSays (n : Nat) (L : Nat → Nat) (Z : Nat → Nat → Int) (x : Int) (r : Nat) : Prop :=
  (Wrong n L x ∧ x ≠ 0 ∧ r = 0) ∨ (Wrong n L 0 ∧ x = 0 ∧ La.IsRank n (colsN n L) (fm Z) r)

end Go.Proofs.Ytbhbdhkifkmkbaa

/- The program's Inverse. -/
namespace Go.Proofs.Ytbhbdhkifkmkbaa
open Go.RowKit

/-- k rows of the matrix with the one that changes nothing beside it -/
def wideW (n : Nat) (Z : Nat → Nat → Int) (k r c : Nat) : Int := if r < k then wideZ n (capZ n Z) oneZ r c else 0
theorem wideW_bd {w : World} {A : Option Addr} {n : Nat} {R : Nat → Option Addr} {L C : Nat → Nat} {Z : Nat → Nat → Int} (h : MatAt w A n R L C Z) (k r c : Nat) : 0 ≤ wideW n Z k r c ∧ wideW n Z k r c < 256 := by
  unfold wideW; split
  · unfold wideZ; split
    · exact capZ_bd h r c
    · exact oneZ_bd _ _
  · decide

theorem wideW_next {n k : Nat} {Z : Nat → Nat → Int} (hk : k < n) (r c : Nat) (hc : c < n + n) : wideW n Z (k + 1) r c = upd (upd (wideW n Z k) k fun c => if c < n then Z k c else wideW n Z k k c) k (upd (upd (wideW n Z k) k (fun c => if c < n then Z k c else wideW n Z k k c) k) (n + k) 1) r c := by
  by_cases e : r = k
  · subst e
    rw [upd_at, upd_at]
    by_cases e' : c = n + r
    · subst e'; rw [upd_at]; unfold wideW wideZ oneZ; rw [if_pos (by omega), if_neg (by omega), if_pos (by omega)]
    · rw [upd_ne _ _ e']; unfold wideW wideZ oneZ
      rw [if_pos (show r < r + 1 by omega), capZ_at hk]
      by_cases h : c < n
      · rw [if_pos h, if_pos h]
      · rw [if_neg h, if_neg h, if_neg (by omega), if_neg (by omega)]
  · rw [upd_ne _ _ e, upd_ne _ _ e]; unfold wideW
    by_cases h : r < k
    · rw [if_pos h, if_pos (by omega)]
    · rw [if_neg h, if_neg (by omega)]

theorem iv_bad (A : Option Addr) (n ca : Nat) (R : Nat → Option Addr) (L C : Nat → Nat) (Z : Nat → Nat → Int) (w : World) (ha : MatAt w A n R L C Z) (x : Int) (hx : Wrong n L x) (h0 : x ≠ 0) :
    Calls Try.prog 27 #[.slice A n ca] w fun e w' => e = .returned (.tuple #[.slice none 0 0, .int .i64 x]) ∧ w' = w := by
  have e1 : (x != 0) = true := by simpa using h0
  go_enter Try.func27, Try.ntmps27
  go_wp2_with (go_at_call 39; refine (wrong_any _ _ _ _ _ _ _ _ ha).mono ?_; rintro e w' ⟨y, rfl, hx', hw'⟩; subst w'; obtain rfl := Wrong.unique hx' hx)
  go_ret2
  exact ⟨rfl, rfl⟩

theorem iv_shape (A : Option Addr) (n ca : Nat) (R : Nat → Option Addr) (L C : Nat → Nat) (Z : Nat → Nat → Int) (w : World) (ha : MatAt w A n R L C Z) (hx : Wrong n L 0) (h0 : colsN n L ≠ n) :
    Calls Try.prog 27 #[.slice A n ca] w fun e w' => e = .returned (.tuple #[.slice none 0 0, .int .i64 6]) ∧ w' = w := by
  have e1 : (colsI n L != (n : Int)) = true := by rw [colsI_eq]; simp; omega
  go_enter Try.func27, Try.ntmps27
  go_wp2_with (first
    | (go_at_call 39; refine (wrong_any _ _ _ _ _ _ _ _ ha).mono ?_; rintro e w' ⟨y, rfl, hx', hw'⟩; subst w'; obtain rfl := Wrong.unique hx' hx)
    | (go_at_call 40; refine (columns_any _ _ _ _ _ _ _ _ ha).mono ?_; rintro e w' ⟨rfl, hw'⟩; subst w'))
  go_ret2
  exact ⟨rfl, rfl⟩

/-- heads of which k stand on their rows' second halves -/
structure Halves (W : World) (g h n k : Nat) (P : Nat → Nat) (Z : Nat → Nat → Int) : Prop where
  heads : ∃ cur, W.heap[h]? = some (.cells cur 37 (0, 0)) ∧ cur.size = n ∧ ∀ r, r < n → cur[r]? = some (if r < k then .slice (some ⟨g, P r * (n + n) + n, none⟩) n n else .slice (some ⟨g, P r * (n + n), none⟩) (n + n) (n + n))
  rows : ∀ r, r < n → RowAt W (some ⟨g, P r * (n + n), none⟩) (n + n) (Z r)
  ne : g ≠ h
  glt : g < W.heap.size

theorem Halves.of_grid {W : World} {g h n : Nat} {P : Nat → Nat} {Z : Nat → Nat → Int} (d : Grid W g h n (n + n) P Z) : Halves W g h n 0 P Z := by
  obtain ⟨cur, h1, h2, h3⟩ := d.heads
  exact ⟨⟨cur, h1, h2, fun r hr => by rw [if_neg (by omega)]; exact h3 r hr⟩, fun r hr => d.row hr, d.ne, d.glt⟩

theorem Halves.next {W : World} {g h n k : Nat} {P : Nat → Nat} {Z : Nat → Nat → Int} (d : Halves W g h n k P Z) (hk : k < n) : Halves (W.setCell ⟨h, k, none⟩ (.slice (some ⟨g, P k * (n + n) + n, none⟩) n n)) g h n (k + 1) P Z := by
  obtain ⟨cur, h1, h2, h3⟩ := d.heads
  refine ⟨⟨_, heap_setCell_same W h k cur _ _ h1, by simpa using h2, fun r hr => ?_⟩, fun r hr => (d.rows r hr).set (fun a ha => by cases ha; exact d.ne), d.ne, by rw [World.size_setCell]; exact d.glt⟩
  by_cases e : r = k
  · subst e; rw [Array.getElem?_setIfInBounds_self_of_lt (by omega), if_pos (by omega)]
  · rw [Array.getElem?_setIfInBounds_ne (Ne.symm e), h3 r hr]
    by_cases e' : r < k
    · rw [if_pos e', if_pos (by omega)]
    · rw [if_neg e', if_neg (by omega)]

theorem Halves.head {W : World} {g h n k : Nat} {P : Nat → Nat} {Z : Nat → Nat → Int} (d : Halves W g h n k P Z) {r : Nat} (hr : r < n) : W.cell? ⟨h, r, none⟩ = some (if r < k then .slice (some ⟨g, P r * (n + n) + n, none⟩) n n else .slice (some ⟨g, P r * (n + n), none⟩) (n + n) (n + n)) ∧ W.frozen? ⟨h, r, none⟩ = false := by
  obtain ⟨cur, h1, _, h2⟩ := d.heads
  exact ⟨(cell_of_row W h r cur _ _ h1).trans (h2 r hr), frozen_of_row W h r cur _ h1⟩

theorem Halves.new {W : World} {g h n base : Nat} {P : Nat → Nat} {Z : Nat → Nat → Int} (d : Halves W g h n n P Z) (hg : base ≤ g) (hh : base ≤ h) : MatRes W base (.slice (some ⟨h, 0, none⟩) n n) n (fun _ => n) (fun i j => Z i (n + j)) := by
  have hl : h < W.heap.size := by obtain ⟨cur, h1, _⟩ := d.heads; exact (Array.getElem?_eq_some_iff.1 h1).1
  refine ⟨_, _, fun r => some ⟨g, P r * (n + n) + n, none⟩, fun _ => n, rfl, ⟨Or.inr ⟨h, 0, rfl, fun r hr => ?_⟩, fun r hr => ?_⟩, Or.inr ⟨_, _, rfl, hh, hl⟩, fun r hr => Or.inr ⟨_, _, rfl, hg, d.glt⟩⟩
  · rw [Nat.zero_add, (d.head hr).1, if_pos hr]
  · exact RowAt.from_ (d.rows r hr)

theorem space_int (n m : Nat) (mi : Int) (he : mi = (m : Int)) (hn : n ≤ 131072) (hm : n * m ≤ 8388608) (hm' : m ≤ 8388608) (w : World) :
    Calls Try.prog 41 #[.int .i64 n, .int .i64 mi] w fun e w' => ∃ g h, e = .returned (.slice (some ⟨h, 0, none⟩) n n) ∧ Grid w' g h n m (fun r => r) (fun _ _ => 0) ∧ w.heap.size ≤ g ∧ w.heap.size ≤ h ∧ Bw w w' := by
  subst he; exact space_any n m hn hm hm' w

/-- what Inverse says of a square -/
def InvOk (n : Nat) (Z Y : Nat → Nat → Int) (x : Int) (k : Nat) : Prop :=
  (x = 20 ∧ k = 0 ∧ ¬ ∃ B, ∀ i j, i < n → j < n → La.mm n (fm Z) B i j = La.one i j) ∨ (x = 0 ∧ k = n ∧ ∀ i j, i < n → j < n → La.mm n (fm Z) (fm Y) i j = La.one i j)

set_option maxRecDepth 100000 in
set_option maxHeartbeats 1000000 in
theorem iv_ok (A : Option Addr) (n ca : Nat) (R : Nat → Option Addr) (L C : Nat → Nat) (Z : Nat → Nat → Int) (w : World) (ha : MatAt w A n R L C Z) (hx : Wrong n L 0) (hc : colsI n L = (n : Int)) :
    Calls Try.prog 27 #[.slice A n ca] w fun e w' => ∃ v x k Y, e = .returned (.tuple #[v, .int .i64 x]) ∧ MatRes w' w.heap.size v k (fun _ => n) Y ∧ InvOk n Z Y x k ∧ Bw w w' := by
  obtain ⟨hn, -, -⟩ := wrong_ok hx
  obtain ⟨-, hLm⟩ := wrong_cols hx hc
  have hLm' : Hid (∀ r, r < n → L r = n) := hLm
  clear hLm
  have hnq : n * (n + n) ≤ 32 * 64 := Nat.mul_le_mul hn (by omega)
  have hcb := wideW_bd ha
  have e1 : (colsI n L != (n : Int)) = false := by rw [hc]; simp
  have e2 : (2 * (n : Int)) = ((n + n : Nat) : Int) := by omega
  go_enter Try.func27, Try.ntmps27
  go_wp2_with (first
    | (go_at_call 39; refine (wrong_any _ _ _ _ _ _ _ _ ha).mono ?_; rintro e w' ⟨x, rfl, hx', hw'⟩; subst w'; obtain rfl := Wrong.unique hx' hx)
    | (go_at_call 40; refine (columns_any _ _ _ _ _ _ _ _ ha).mono ?_; rintro e w' ⟨rfl, hw'⟩; subst w')
    | (go_at_call 41; refine (space_int n (n + n) _ (by omega) (by omega) (by omega) (by omega) _).mono ?_; rintro e w1 ⟨g, h, rfl, d, hg, hh, hbw⟩))
  obtain ⟨P, d⟩ : ∃ P, Grid w1 g h n (n + n) P (fun _ _ => 0) := ⟨_, d⟩
  go_loopw [28] (fun i wr => ∃ k : Nat, k ≤ n ∧ i = .int .i64 k ∧ Grid wr g h n (n + n) P (wideW n Z k) ∧ Bw w wr) (fun i _ => n - (intOf i).toNat)
  case atStart => exact ⟨0, Nat.zero_le _, rfl, d.congr (fun r c => hcb _ _ _) (fun r c _ _ => by unfold wideW; rw [if_neg (by omega)]), hbw⟩
  case round =>
    obtain ⟨k, hk, rfl, dk, hbk⟩ := hrel
    have hao := ha.keep hbk
    by_cases hlt : k < n
    · have hLk := hLm'.out k hlt
      obtain ⟨b1, o1, e3, hc1⟩ := hao.at hlt
      have h1 := hc1 k hlt
      rw [hLk] at h1
      have hrow := hao.2 k hlt
      rw [hLk] at hrow
      have k0 : (0 : Int) ≤ (k : Int) := Int.natCast_nonneg _
      have k1 : (k : Int) < (n : Int) := by omega
      obtain ⟨c1, -⟩ := dk.head hlt
      obtain ⟨w2, hcp, d2, hx2⟩ := copy_grid (cb := C k) 3 dk hlt (show n ≤ n + n by omega) hrow
      obtain ⟨c2, f2⟩ := d2.cell hlt (c := n + k) (by omega)
      have hb2 : Bw w w2 := Below.trans hbk (hx2.below hbk.size (fun b e => by omega))
      have d3 := d2.set (x := 1) hlt (show n + k < n + n by omega) (by omega)
      have hb3 := Bw.put hb2 hg (P k * (n + n) + (n + k)) (.int .u8 1)
      subst e3
      clear hc1 hLk hao
      go_wp2
      go_roundw
      case rel => exact ⟨k + 1, by omega, by go_num, d3.congr (fun r c => hcb _ _ _) (fun r c _ hc' => wideW_next hlt r c hc'), hb3⟩
      case measure => simp [intOf]; omega
    · have ek : n = k := by omega
      subst ek
      have hfull : ∀ i j, i < n → j < n + n → wideW n Z n i j = wideZ n Z oneZ i j := fun i j hi hj => by
        unfold wideW wideZ; rw [if_pos hi, capZ_at hi]
      go_wp2_with (go_at_call 42; refine (reduce_any g h n (n + n) n P _ _ dk (by omega) (by omega) (by omega)).mono ?_; rintro e w2 ⟨r, p, P2, Z2, rfl, d2, hst, hrn, hx2⟩; (by_cases hrl : r < n))
      · have hs := hst.from_ hfull
        have hb2 : Bw w w2 := Below.trans hbk (hx2.below hbk.size (fun b e => by omega))
        go_wp2
        go_ret2
        exact ⟨_, 20, 0, oneZ, rfl, res_none _ _ _ _, Or.inl ⟨rfl, rfl, inv_none_of hs hrl⟩, hb2⟩
      · have ern : r = n := by omega
        subst ern
        have hs := hst.from_ hfull
        have hb2 : Bw w w2 := Below.trans hbk (hx2.below hbk.size (fun b e => by omega))
        have hh0 := Halves.of_grid d2
        go_loopw [52] (fun i wr => ∃ k : Nat, k ≤ r ∧ i = .int .i64 k ∧ Halves wr g h r k P2 Z2 ∧ Bw w wr) (fun i _ => r - (intOf i).toNat)
        case atStart => exact ⟨0, Nat.zero_le _, rfl, hh0, hb2⟩
        case round =>
          obtain ⟨k, hk, rfl, dh, hbh⟩ := hrel
          by_cases hlt : k < r
          · obtain ⟨c1, f1⟩ := dh.head hlt
            rw [if_neg (Nat.lt_irrefl k)] at c1
            have k0 : (0 : Int) ≤ (k : Int) := Int.natCast_nonneg _
            have k1 : (k : Int) < (r : Int) := by omega
            have dn := dh.next hlt
            have hr0 : ¬ r = 0 := by omega
            have hbn := Bw.put hbh hh k (.slice (some ⟨g, P2 k * (r + r) + r, none⟩) r r)
            go_wp2
            go_roundw
            case rel => exact ⟨k + 1, by omega, by go_num, dn, hbn⟩
            case measure => simp [intOf]; omega
          · have ek : r = k := by omega
            subst ek
            go_wp2
            go_ret2
            exact ⟨_, 0, r, _, rfl, dh.new hg hh, Or.inr ⟨rfl, rfl, inv_some_of hs⟩, hbh⟩

/-- what Inverse says -/
def IvSays (n : Nat) (L : Nat → Nat) (Z Y : Nat → Nat → Int) (x : Int) (k : Nat) : Prop :=
  (Wrong n L x ∧ x ≠ 0 ∧ k = 0) ∨ (Wrong n L 0 ∧ colsN n L ≠ n ∧ x = 6 ∧ k = 0) ∨ (Wrong n L 0 ∧ colsN n L = n ∧ InvOk n Z Y x k)

theorem iv_all (A : Option Addr) (n ca : Nat) (R : Nat → Option Addr) (L C : Nat → Nat) (Z : Nat → Nat → Int) (w : World) (ha : MatAt w A n R L C Z) :
    Calls Try.prog 27 #[.slice A n ca] w fun e w' => ∃ v x k Y, e = .returned (.tuple #[v, .int .i64 x]) ∧ MatRes w' w.heap.size v k (fun _ => n) Y ∧ IvSays n L Z Y x k ∧ Bw w w' := by
  obtain ⟨x, hx⟩ := wrong_some_x n L
  by_cases h1 : x = 0
  · subst h1
    by_cases h2 : colsN n L = n
    · refine (iv_ok A n ca R L C Z w ha hx (by rw [colsI_eq, h2])).mono ?_
      rintro e w' ⟨v, x, k, Y, he, hm, hi, hw⟩
      exact ⟨v, x, k, Y, he, hm, Or.inr (Or.inr ⟨hx, h2, hi⟩), hw⟩
    · refine (iv_shape A n ca R L C Z w ha hx h2).mono ?_
      rintro e w' ⟨he, rfl⟩
      exact ⟨_, 6, 0, oneZ, he, res_none _ _ _ _, Or.inr (Or.inl ⟨hx, h2, rfl, rfl⟩), Bw.refl _⟩
  · refine (iv_bad A n ca R L C Z w ha x hx h1).mono ?_
    rintro e w' ⟨he, rfl⟩
    exact ⟨_, x, 0, oneZ, he, res_none _ _ _ _, Or.inl ⟨hx, h1, rfl⟩, Bw.refl _⟩

end Go.Proofs.Ytbhbdhkifkmkbaa

/- What the document says of a small matrix: the statements' own wakes. -/
namespace Go.Proofs.Ytbhbdhkifkmkbaa
open Go.RowKit

theorem row_lit (W : World) (cs : Array Value) (n : Nat) (f : Nat → Int) (hf : ∀ i, 0 ≤ f i ∧ f i < 256) (h : ∀ i, i < n → cs[i]? = some (.int .u8 (f i))) : RowAt (W.alloc (.cells cs 5)) (some ⟨W.heap.size, 0, none⟩) n f := row_new W cs 5 n f hf h

/-- two rows as a literal -/
theorem mat_lit2 (w : World) (c0 c1 : Array Value) (n0 n1 : Nat) (f0 f1 : Nat → Int) (b0 : ∀ i, 0 ≤ f0 i ∧ f0 i < 256) (b1 : ∀ i, 0 ≤ f1 i ∧ f1 i < 256) (h0 : ∀ i, i < n0 → c0[i]? = some (.int .u8 (f0 i))) (h1 : ∀ i, i < n1 → c1[i]? = some (.int .u8 (f1 i))) :
    MatAt (((w.alloc (.cells c0 5)).alloc (.cells c1 5)).alloc (.cells #[.slice (some ⟨w.heap.size, 0, none⟩) n0 n0, .slice (some ⟨w.heap.size + 1, 0, none⟩) n1 n1] 37)) (some ⟨w.heap.size + 2, 0, none⟩) 2
      (fun r => if r = 0 then some ⟨w.heap.size, 0, none⟩ else some ⟨w.heap.size + 1, 0, none⟩) (fun r => if r = 0 then n0 else n1) (fun r => if r = 0 then n0 else n1) (fun r => if r = 0 then f0 else f1) ∧
    Bw w (((w.alloc (.cells c0 5)).alloc (.cells c1 5)).alloc (.cells #[.slice (some ⟨w.heap.size, 0, none⟩) n0 n0, .slice (some ⟨w.heap.size + 1, 0, none⟩) n1 n1] 37)) := by
  have r0 := row_lit w c0 n0 f0 b0 h0
  have r1 := row_lit (w.alloc (.cells c0 5)) c1 n1 f1 b1 h1
  rw [size_alloc] at r1
  have hb : Bw (w.alloc (.cells c0 5)) ((w.alloc (.cells c0 5)).alloc (.cells c1 5)) := (Below.refl _ _).alloc (Nat.le_refl _) _
  have := mat_two _ _ _ n0 n0 n1 n1 f0 f1 (r0.keep hb) r1
  rw [size_alloc, size_alloc] at this
  exact ⟨this, (((Below.refl _ _).alloc (Nat.le_refl _) _).alloc (by rw [size_alloc]; omega) _).alloc (by rw [size_alloc, size_alloc]; omega) _⟩

theorem mat_lit1 (w : World) (c0 : Array Value) (n0 : Nat) (f0 : Nat → Int) (b0 : ∀ i, 0 ≤ f0 i ∧ f0 i < 256) (h0 : ∀ i, i < n0 → c0[i]? = some (.int .u8 (f0 i))) :
    MatAt ((w.alloc (.cells c0 5)).alloc (.cells #[.slice (some ⟨w.heap.size, 0, none⟩) n0 n0] 37)) (some ⟨w.heap.size + 1, 0, none⟩) 1 (fun _ => some ⟨w.heap.size, 0, none⟩) (fun _ => n0) (fun _ => n0) (fun _ => f0) ∧
    Bw w ((w.alloc (.cells c0 5)).alloc (.cells #[.slice (some ⟨w.heap.size, 0, none⟩) n0 n0] 37)) := by
  have r0 := row_lit w c0 n0 f0 b0 h0
  have hb : Bw (w.alloc (.cells c0 5)) ((w.alloc (.cells c0 5)).alloc (.cells #[.slice (some ⟨w.heap.size, 0, none⟩) n0 n0] 37)) := (Below.refl _ _).alloc (Nat.le_refl _) _
  refine ⟨⟨Or.inr ⟨w.heap.size + 1, 0, rfl, fun r hr => ?_⟩, fun r hr => r0.keep hb⟩, ((Below.refl _ _).alloc (Nat.le_refl _) _).alloc (by rw [size_alloc]; omega) _⟩
  obtain rfl : r = 0 := by omega
  rw [Nat.zero_add, World.cell?_alloc_at _ _ _ 0 (size_alloc _ _).symm]
  rfl

theorem wrong_lit {n c : Nat} {L : Nat → Nat} (hn : n ≤ 32) (hc : c ≤ 131072) (hL : ∀ r, L r = c) : Wrong n L 0 :=
  Or.inr (Or.inr ⟨rfl, hn, fun r _ => by rw [hL]; exact hc, fun r _ => by rw [hL, hL]⟩)

theorem mulsays_ok {n m k q : Nat} {L M : Nat → Nat} {x : Int} (hx : Wrong n L 0) (hy : Wrong m M 0) (hc : colsN n L = m) (h : MulSays n L m M x k q) : x = 0 ∧ k = n ∧ q = colsN m M := by
  rcases h with ⟨h1, h2, _⟩ | ⟨_, h1, h2, _⟩ | ⟨_, _, h1, _⟩ | ⟨_, _, _, h1, h2, h3⟩
  · exact absurd (Wrong.unique h1 hx) h2
  · exact absurd (Wrong.unique h1 hy) h2
  · exact absurd hc h1
  · exact ⟨h1, h2, h3⟩

theorem ivsays_ok {n k : Nat} {L : Nat → Nat} {Z Y : Nat → Nat → Int} {x : Int} (hx : Wrong n L 0) (hc : colsN n L = n) (h : IvSays n L Z Y x k) : InvOk n Z Y x k := by
  rcases h with ⟨h1, h2, _⟩ | ⟨_, h1, _⟩ | ⟨_, _, h1⟩
  · exact absurd (Wrong.unique h1 hx) h2
  · exact absurd hc h1
  · exact h1

/-- Inverse of 2 -/
theorem inv_lit1 {k : Nat} {Y : Nat → Nat → Int} {x : Int} (hb : 0 < k → ∀ j, 0 ≤ Y 0 j ∧ Y 0 j < 256) (h : InvOk 1 (fun _ _ => 2) Y x k) : x = 0 ∧ k = 1 ∧ Y 0 0 = 142 := by
  have e : La.ml (fi 2) (fi 142) = La.f1 := by
    rw [← fi_mul (by omega) (by omega)]
    rfl
  rcases h with ⟨_, _, h⟩ | ⟨h1, h2, h3⟩
  · exfalso
    apply h
    refine ⟨fun _ _ => fi 142, fun i j hi hj => ?_⟩
    obtain rfl : i = 0 := by omega
    obtain rfl : j = 0 := by omega
    show La.ad La.f0 (La.ml (fi 2) (fi 142)) = La.one 0 0
    rw [La.zero_add, e]; rfl
  · refine ⟨h1, h2, ?_⟩
    have h4 := h3 0 0 (by omega) (by omega)
    have h5 : La.ml (fi 2) (fi (Y 0 0)) = La.f1 := by
      have : La.ad La.f0 (La.ml (fi 2) (fi (Y 0 0))) = La.one 0 0 := h4
      rw [La.zero_add] at this; exact this
    apply fi_inj (hb (by omega) 0) (by omega)
    calc fi (Y 0 0) = La.ml La.f1 (fi (Y 0 0)) := (La.one_mul _).symm
      _ = La.ml (La.ml (fi 142) (fi 2)) (fi (Y 0 0)) := by rw [La.mul_comm (fi 142) (fi 2), e]
      _ = La.ml (fi 142) La.f1 := by rw [La.mul_assoc, h5]
      _ = fi 142 := La.mul_one _

/-- a matrix whose rows are alike has none -/
theorem inv_lit2 {k : Nat} {Z Y : Nat → Nat → Int} {x : Int} (hZ : ∀ i j, Z i j = 1) (h : InvOk 2 Z Y x k) : x = 20 ∧ k = 0 := by
  rcases h with ⟨h1, h2, _⟩ | ⟨_, _, h3⟩
  · exact ⟨h1, h2⟩
  · exfalso
    have h4 := h3 0 0 (by omega) (by omega)
    have h5 := h3 1 0 (by omega) (by omega)
    have e : La.mm 2 (fm Z) (fm Y) 0 0 = La.mm 2 (fm Z) (fm Y) 1 0 := by
      unfold La.mm fm
      exact La.sum_congr (fun t _ => by rw [hZ, hZ])
    rw [h4, h5] at e
    have := congrArg La.F8.v e
    revert this; decide

def c1 (_ : Nat) : Int := 1
def c01 (i : Nat) : Int := if i = 0 then 0 else 1
def cc (c : Int) (_ : Nat) : Int := c

theorem lit_col (w : World) (a b : Int) (ha : 0 ≤ a ∧ a < 256) (hb : 0 ≤ b ∧ b < 256) :
    MatAt (((w.alloc (.cells #[.int .u8 a] 5)).alloc (.cells #[.int .u8 b] 5)).alloc (.cells #[.slice (some ⟨w.heap.size, 0, none⟩) 1 1, .slice (some ⟨w.heap.size + 1, 0, none⟩) 1 1] 37)) (some ⟨w.heap.size + 2, 0, none⟩) 2
      (fun r => if r = 0 then some ⟨w.heap.size, 0, none⟩ else some ⟨w.heap.size + 1, 0, none⟩) (fun r => if r = 0 then 1 else 1) (fun r => if r = 0 then 1 else 1) (fun r => if r = 0 then cc a else cc b) ∧
    Bw w (((w.alloc (.cells #[.int .u8 a] 5)).alloc (.cells #[.int .u8 b] 5)).alloc (.cells #[.slice (some ⟨w.heap.size, 0, none⟩) 1 1, .slice (some ⟨w.heap.size + 1, 0, none⟩) 1 1] 37)) :=
  mat_lit2 w #[.int .u8 a] #[.int .u8 b] 1 1 (cc a) (cc b) (fun _ => ha) (fun _ => hb) (fun i hi => by obtain rfl : i = 0 := (by omega); rfl) (fun i hi => by obtain rfl : i = 0 := (by omega); rfl)

theorem lit_sq (w : World) (a b c d : Int) (f g : Nat → Int) (hf : ∀ i, 0 ≤ f i ∧ f i < 256) (hg : ∀ i, 0 ≤ g i ∧ g i < 256) (ha : f 0 = a) (hb : f 1 = b) (hc : g 0 = c) (hd : g 1 = d) :
    MatAt (((w.alloc (.cells #[.int .u8 a, .int .u8 b] 5)).alloc (.cells #[.int .u8 c, .int .u8 d] 5)).alloc (.cells #[.slice (some ⟨w.heap.size, 0, none⟩) 2 2, .slice (some ⟨w.heap.size + 1, 0, none⟩) 2 2] 37)) (some ⟨w.heap.size + 2, 0, none⟩) 2
      (fun r => if r = 0 then some ⟨w.heap.size, 0, none⟩ else some ⟨w.heap.size + 1, 0, none⟩) (fun r => if r = 0 then 2 else 2) (fun r => if r = 0 then 2 else 2) (fun r => if r = 0 then f else g) ∧
    Bw w (((w.alloc (.cells #[.int .u8 a, .int .u8 b] 5)).alloc (.cells #[.int .u8 c, .int .u8 d] 5)).alloc (.cells #[.slice (some ⟨w.heap.size, 0, none⟩) 2 2, .slice (some ⟨w.heap.size + 1, 0, none⟩) 2 2] 37)) := by
  subst ha hb hc hd
  exact mat_lit2 w #[.int .u8 (f 0), .int .u8 (f 1)] #[.int .u8 (g 0), .int .u8 (g 1)] 2 2 f g hf hg (fun i hi => by rcases (show i = 0 ∨ i = 1 by omega) with rfl | rfl <;> rfl) (fun i hi => by rcases (show i = 0 ∨ i = 1 by omega) with rfl | rfl <;> rfl)

theorem lit_one (w : World) (a : Int) (ha : 0 ≤ a ∧ a < 256) :
    MatAt ((w.alloc (.cells #[.int .u8 a] 5)).alloc (.cells #[.slice (some ⟨w.heap.size, 0, none⟩) 1 1] 37)) (some ⟨w.heap.size + 1, 0, none⟩) 1 (fun _ => some ⟨w.heap.size, 0, none⟩) (fun _ => 1) (fun _ => 1) (fun _ => cc a) ∧
    Bw w ((w.alloc (.cells #[.int .u8 a] 5)).alloc (.cells #[.slice (some ⟨w.heap.size, 0, none⟩) 1 1] 37)) :=
  mat_lit1 w #[.int .u8 a] 1 (cc a) (fun _ => ha) (fun i hi => by obtain rfl : i = 0 := (by omega); rfl)

theorem if_same (c : Nat) : ∀ r : Nat, (if r = 0 then c else c) = c := fun r => by split <;> rfl

theorem prod_lit (r : Nat) (hr : r < 2) : prodZ 2 (fun r => if r = 0 then c1 else c01) (fun r => if r = 0 then cc 5 else cc 3) r 0 = if r = 0 then 6 else 3 := by
  rcases (show r = 0 ∨ r = 1 by omega) with rfl | rfl <;> rfl

theorem same_lit : SameM 2 2 (fun _ => colsN 2 (fun r => if r = 0 then 1 else 1)) (fun r => if r = 0 then 1 else 1) (prodZ 2 (fun r => if r = 0 then c1 else c01) (fun r => if r = 0 then cc 5 else cc 3)) (fun r => if r = 0 then cc 6 else cc 3) := by
  refine ⟨rfl, fun r hr => ⟨show 1 = (if r = 0 then 1 else 1) from (if_same 1 r).symm, fun i hi => ?_⟩⟩
  have hi' : i < 1 := hi
  obtain rfl : i = 0 := by omega
  rw [prod_lit r hr]
  show _ = (if r = 0 then cc 6 else cc 3) 0
  split <;> rfl

end Go.Proofs.Ytbhbdhkifkmkbaa
