/- Contracts of the program's One, Mul and Turned. -/
import Derived.Test.YtpgjkhlffcomgaaP7
namespace Go.Proofs.Ytpgjkhlffcomgaa
open Go.RowKit

attribute [local go_sem ↓] Go.wp_at_zero Go.wp_at_succ

/-- a matrix that was made since the block base -/
structure NewMat (w : World) (base : Nat) (A : Option Addr) (n : Nat) (R : Nat → Option Addr) (L C : Nat → Nat) (Z : Nat → Nat → Int) : Prop where
  mat : MatAt w A n R L C Z
  head : n = 0 ∨ ∃ g o, A = some ⟨g, o, none⟩ ∧ base ≤ g ∧ g < w.heap.size
  rows : ∀ r, r < n → L r = 0 ∨ ∃ g o, R r = some ⟨g, o, none⟩ ∧ base ≤ g ∧ g < w.heap.size

/-- .. as a value -/
def MatRes (w : World) (base : Nat) (v : Value) (n : Nat) (L : Nat → Nat) (Z : Nat → Nat → Int) : Prop :=
  ∃ A cap R C, v = .slice A n cap ∧ NewMat w base A n R L C Z

theorem Grid.new {w : World} {g h n m base : Nat} {P : Nat → Nat} {Z : Nat → Nat → Int} (d : Grid w g h n m P Z) (hg : base ≤ g) (hh : base ≤ h) : MatRes w base (.slice (some ⟨h, 0, none⟩) n n) n (fun _ => m) Z :=
  ⟨_, _, _, _, rfl, d.mat, Or.inr ⟨_, _, rfl, hh, d.hlt⟩, fun _ _ => Or.inr ⟨_, _, rfl, hg, d.glt⟩⟩

theorem MatRes.congr {w : World} {base n : Nat} {v : Value} {L : Nat → Nat} {Z Z' : Nat → Nat → Int} (h : MatRes w base v n L Z) (e : ∀ r, r < n → Z' r = Z r) : MatRes w base v n L Z' := by
  obtain ⟨A, cap, R, C, hv, hm⟩ := h
  exact ⟨A, cap, R, C, hv, ⟨hm.mat.1, fun r hr => by rw [e r hr]; exact hm.mat.2 r hr⟩, hm.head, hm.rows⟩

theorem res_none (w : World) (base : Nat) (L : Nat → Nat) (Z : Nat → Nat → Int) : MatRes w base (.slice none 0 0) 0 L Z :=
  ⟨_, _, fun _ => none, fun _ => 0, rfl, ⟨Or.inl rfl, fun r hr => by omega⟩, Or.inl rfl, fun r hr => by omega⟩

/-- a cell of a work space set -/
theorem Grid.set {W : World} {g h n m : Nat} {P : Nat → Nat} {Z : Nat → Nat → Int} (d : Grid W g h n m P Z) {r c : Nat} {x : Int} (hr : r < n) (hc : c < m) (hx : 0 ≤ x ∧ x < 256) :
    Grid (W.setCell ⟨g, P r * m + c, none⟩ (.int .u8 x)) g h n m P (upd Z r (upd (Z r) c x)) := by
  obtain ⟨F, hb, hF, hZ⟩ := d.cells
  have hle := cut_le (m := m) (c := c + 1) (d.lt r hr) (by omega)
  refine d.turned (F := F) (F' := upd F (P r * m + c) x) (Bx.put (Bx.refl (· = g) W) rfl) hr hZ (hb.set (by omega) (upd_at _ _ _) (fun k _ hk => upd_ne _ _ hk)) (fun i => ?_) (fun i => ?_) (fun i hi => ?_) (fun i hi => upd_ne _ _ (fun e => hi (by omega)))
  · unfold upd; split
    · exact hx
    · exact hF i
  · unfold upd; split
    · exact hx
    · exact d.bd r i
  · by_cases e : i = c
    · subst e; rw [upd_at, upd_at]
    · rw [upd_ne _ _ e, upd_ne _ _ (fun e' => e (by omega))]; exact hZ r i hr hi

theorem one_neg (n : Int) (h : n < 0) (w : World) : Calls Try.prog 20 #[.int .i64 n] w fun e w' => e = .returned (.tuple #[.slice none 0 0, .int .i64 1]) ∧ w' = w := by
  go_enter Try.func20, Try.ntmps20
  go_wp2
  go_ret2
  exact ⟨rfl, rfl⟩

theorem one_long (n : Int) (h : 32 < n) (w : World) : Calls Try.prog 20 #[.int .i64 n] w fun e w' => e = .returned (.tuple #[.slice none 0 0, .int .i64 2]) ∧ w' = w := by
  go_enter Try.func20, Try.ntmps20
  go_wp2
  go_ret2
  exact ⟨rfl, rfl⟩

/-- k rows of the matrix that changes nothing -/
def oneW (k i j : Nat) : Int := if i < k then oneZ i j else 0
theorem oneW_bd (k i j : Nat) : 0 ≤ oneW k i j ∧ oneW k i j < 256 := by
  unfold oneW; split
  · exact oneZ_bd i j
  · decide
theorem oneW_next (k i j : Nat) : oneW (k + 1) i j = upd (oneW k) k (upd (oneW k k) k 1) i j := by
  by_cases e : i = k
  · subst e; rw [upd_at]
    by_cases e' : j = i
    · subst e'; rw [upd_at]; unfold oneW oneZ; rw [if_pos (by omega), if_pos rfl]
    · rw [upd_ne _ _ e']; unfold oneW oneZ; rw [if_pos (by omega), if_neg (fun e => e' e.symm), if_neg (by omega)]
  · rw [upd_ne _ _ e]; unfold oneW
    by_cases h : i < k
    · rw [if_pos h, if_pos (by omega)]
    · rw [if_neg h, if_neg (by omega)]

theorem one_ok (n : Nat) (hn : n ≤ 32) (w : World) : Calls Try.prog 20 #[.int .i64 (n : Int)] w fun e w' => ∃ v, e = .returned (.tuple #[v, .int .i64 0]) ∧ MatRes w' w.heap.size v n (fun _ => n) oneZ ∧ Bw w w' := by
  have hnn : n * n ≤ 1024 := Nat.mul_le_mul hn hn
  go_enter Try.func20, Try.ntmps20
  go_wp2_with (go_at_call 36; refine (space_any n n (by omega) (by omega) (by omega) _).mono ?_; rintro e w1 ⟨g, h, rfl, d, hg, hh, hb⟩)
  obtain ⟨P, d⟩ : ∃ P, Grid w1 g h n n P (fun _ _ => 0) := ⟨_, d⟩
  go_loopw [15] (fun i wr => ∃ k : Nat, k ≤ n ∧ i = .int .i64 k ∧ Grid wr g h n n P (oneW k) ∧ Bw w wr) (fun i _ => n - (intOf i).toNat)
  case atStart => exact ⟨0, Nat.zero_le _, rfl, d.congr (fun r c => oneW_bd _ _ _) (fun r c _ _ => by unfold oneW; rw [if_neg (by omega)]), hb⟩
  case round =>
    obtain ⟨k, hk, rfl, dk, hbk⟩ := hrel
    by_cases hlt : k < n
    · obtain ⟨c1, -⟩ := dk.head hlt
      obtain ⟨c2, f2⟩ := dk.cell hlt hlt
      have k0 : (0 : Int) ≤ (k : Int) := Int.natCast_nonneg _
      have k1 : (k : Int) < (n : Int) := by omega
      go_wp2
      go_roundw
      case rel => exact ⟨k + 1, by omega, by go_num, (dk.set hlt hlt (by omega)).congr (fun r c => oneW_bd _ _ _) (fun r c _ _ => oneW_next k r c), Bw.put hbk hg _ _⟩
      case measure => simp [intOf]; omega
    · have ek : n = k := by omega
      subst ek
      go_wp2
      go_ret2
      exact ⟨_, rfl, (dk.congr (fun r c => oneZ_bd r c) (fun r c hr _ => by unfold oneW; rw [if_pos hr])).new hg hh, hbk⟩

/-- the product under way: i rows are there, t terms of the next one -/
def wayM (m : Nat) (Z Y : Nat → Nat → Int) (i t r c : Nat) : Int := if r < i then prodZ m Z Y r c else if r = i then dotU (Z r) (fun s => Y s c) t else 0
theorem wayM_bd {m : Nat} {Z Y : Nat → Nat → Int} (hZ : ∀ r c, 0 ≤ Z r c ∧ Z r c < 256) (i t r c : Nat) : 0 ≤ wayM m Z Y i t r c ∧ wayM m Z Y i t r c < 256 := by
  unfold wayM; split
  · exact dotU_bd _ _ (hZ r) m
  · split
    · exact dotU_bd _ _ (hZ r) t
    · decide
theorem wayM_term (m : Nat) (Z Y : Nat → Nat → Int) (i t r c : Nat) : wayM m Z Y i (t + 1) r c = upd (wayM m Z Y i t) i (fun l => addI (wayM m Z Y i t i l) (mulI (Z i t) (Y t l))) r c := by
  by_cases e : r = i
  · subst e; rw [upd_at]; unfold wayM; rw [if_neg (by omega), if_pos rfl, if_neg (by omega), if_pos rfl]; rfl
  · rw [upd_ne _ _ e]; unfold wayM; rw [if_neg e, if_neg e]
theorem wayM_row (m : Nat) (Z Y : Nat → Nat → Int) (i r c : Nat) : wayM m Z Y (i + 1) 0 r c = wayM m Z Y i m r c := by
  unfold wayM
  by_cases h1 : r < i
  · rw [if_pos h1, if_pos (by omega)]
  · by_cases h2 : r = i
    · subst h2; rw [if_pos (by omega), if_neg h1, if_pos rfl]; rfl
    · rw [if_neg (by omega), if_neg h1, if_neg h2]; split <;> rfl

/-- numbers that a matrix has, and noughts beside them -/
def capZ (n : Nat) (Z : Nat → Nat → Int) (r : Nat) : Nat → Int := if r < n then Z r else fun _ => 0
theorem capZ_bd {w : World} {A : Option Addr} {n : Nat} {R : Nat → Option Addr} {L C : Nat → Nat} {Z : Nat → Nat → Int} (h : MatAt w A n R L C Z) (r c : Nat) : 0 ≤ capZ n Z r c ∧ capZ n Z r c < 256 := by
  unfold capZ; split
  · rename_i hr; exact (h.2 r hr).2 c
  · exact ⟨Int.le_refl 0, show (0 : Int) < 256 by decide⟩
theorem capZ_at {n r : Nat} {Z : Nat → Nat → Int} (h : r < n) : capZ n Z r = Z r := by unfold capZ; rw [if_pos h]

theorem wrong_ok {n : Nat} {L : Nat → Nat} (h : Wrong n L 0) : n ≤ 32 ∧ (∀ r, r < n → L r ≤ 131072) ∧ ∀ r, r < n → L r = L 0 := by
  rcases h with ⟨h, _⟩ | ⟨h, _⟩ | ⟨_, h⟩
  · cases h
  · cases h
  · exact h

theorem wrong_cols {n : Nat} {L : Nat → Nat} {q : Nat} (h : Wrong n L 0) (hc : colsI n L = (q : Int)) : q ≤ 131072 ∧ ∀ r, r < n → L r = q := by
  obtain ⟨h1, h2, h3⟩ := wrong_ok h
  unfold colsI at hc
  by_cases h0 : n = 0
  · rw [if_pos h0] at hc; exact ⟨by omega, fun r hr => by omega⟩
  · rw [if_neg h0] at hc
    exact ⟨by have := h2 0 (by omega); omega, fun r hr => by have := h3 r hr; omega⟩

set_option maxRecDepth 100000 in
set_option maxHeartbeats 1000000 in
theorem mul_ok (A B : Option Addr) (n m q ca cb : Nat) (R S : Nat → Option Addr) (L C M D : Nat → Nat) (Z Y : Nat → Nat → Int) (w : World) (ha : MatAt w A n R L C Z) (hb : MatAt w B m S M D Y)
    (hx : Wrong n L 0) (hy : Wrong m M 0) (hcA : colsI n L = (m : Int)) (hcB : colsI m M = (q : Int)) :
    Calls Try.prog 17 #[.slice A n ca, .slice B m cb] w fun e w' => ∃ v, e = .returned (.tuple #[v, .int .i64 0]) ∧ MatRes w' w.heap.size v n (fun _ => q) (prodZ m Z Y) ∧ Bw w w' := by
  obtain ⟨hn, -, -⟩ := wrong_ok hx
  obtain ⟨hm, -, -⟩ := wrong_ok hy
  obtain ⟨-, hLm⟩ := wrong_cols hx hcA
  obtain ⟨hq, hMq⟩ := wrong_cols hy hcB
  have hLm' : Hid (∀ r, r < n → L r = m) := hLm
  have hMq' : Hid (∀ r, r < m → M r = q) := hMq
  clear hLm hMq
  have hnq : n * q ≤ 32 * 131072 := Nat.mul_le_mul hn hq
  have e1 : (colsI n L != (m : Int)) = false := by rw [hcA]; simp
  have hcb := capZ_bd ha
  go_enter Try.func17, Try.ntmps17
  go_wp2_with (first
    | (go_at_call_of 29 (Value.slice A n ca); refine (wrong_any _ _ _ _ _ _ _ _ ha).mono ?_; rintro e w' ⟨x, rfl, hx', hw'⟩; subst w'; obtain rfl := Wrong.unique hx' hx)
    | (go_at_call_of 29 (Value.slice B m cb); refine (wrong_any _ _ _ _ _ _ _ _ hb).mono ?_; rintro e w' ⟨x, rfl, hx', hw'⟩; subst w'; obtain rfl := Wrong.unique hx' hy)
    | (go_at_call_of 35 (Value.slice A n ca); refine (columns_any _ _ _ _ _ _ _ _ ha).mono ?_; rintro e w' ⟨rfl, hw'⟩; subst w')
    | (go_at_call_of 35 (Value.slice B m cb); refine (columns_any _ _ _ _ _ _ _ _ hb).mono ?_; rintro e w' ⟨rfl, hw'⟩; subst w'; rw [hcB])
    | (go_at_call 36; refine (space_any n q (by omega) (by omega) (by omega) _).mono ?_; rintro e w1 ⟨g, h, rfl, d, hg, hh, hbw⟩))
  obtain ⟨P, d⟩ : ∃ P, Grid w1 g h n q P (fun _ _ => 0) := ⟨_, d⟩
  go_loopw [35] (fun i wr => ∃ k : Nat, k ≤ n ∧ i = .int .i64 k ∧ Grid wr g h n q P (wayM m (capZ n Z) Y k 0) ∧ Bw w wr) (fun i _ => n - (intOf i).toNat)
  case atStart => exact ⟨0, Nat.zero_le _, rfl, d.congr (fun r c => wayM_bd hcb _ _ _ _) (fun r c _ _ => by unfold wayM; rw [if_neg (by omega)]; split <;> rfl), hbw⟩
  case round =>
    rename World => wo
    obtain ⟨k, hk, rfl, dk, hbk⟩ := hrel
    have hao := ha.keep hbk
    by_cases hlt : k < n
    · have hLk := hLm'.out k hlt
      obtain ⟨b1, o1, e2, hc1⟩ := hao.at hlt
      have h1 := hc1 k hlt
      rw [hLk] at h1
      have hrow := ha.2 k hlt
      rw [hLk] at hrow
      have k0 : (0 : Int) ≤ (k : Int) := Int.natCast_nonneg _
      have k1 : (k : Int) < (n : Int) := by omega
      subst e2
      clear hc1 hLk hao
      generalize R k = RK at h1 hrow
      go_wp2
      go_loopw [42] (fun i wr => ∃ t : Nat, t ≤ m ∧ i = .int .i64 t ∧ Grid wr g h n q P (wayM m (capZ n Z) Y k t) ∧ Bw w wr) (fun i _ => m - (intOf i).toNat)
      case atStart => exact ⟨0, Nat.zero_le _, rfl, dk, hbk⟩
      case round =>
        obtain ⟨t, ht, rfl, dt, hbt⟩ := hrel
        by_cases htm : t < m
        · obtain ⟨b3, o3, e3, hc3⟩ := (hrow.keep hbt).at htm
          have h3 := hc3 t htm
          have z3 := hrow.2 t
          have hMt := hMq'.out t htm
          obtain ⟨b4, o4, e4, hc4⟩ := (hb.keep hbt).at htm
          have h4 := hc4 t htm
          rw [hMt] at h4
          have hr4 := hb.2 t htm
          rw [hMt] at hr4
          have hdis : ∀ a, S t = some a → a.block ≠ g ∨ a.off + q ≤ P k * q ∨ P k * q + q ≤ a.off := by
            intro a e
            by_cases h0 : q = 0
            · subst h0; right; right; rw [Nat.mul_zero]; omega
            · left
              obtain ⟨b, o, e', hc⟩ := hr4.at (k := 0) (by omega)
              have := block_lt_of_cell (hc 0 (by omega))
              rw [e] at e'; cases e'; simp only at this ⊢; omega
          obtain ⟨c1, -⟩ := dt.head hlt
          have hrb := hr4.keep hbt
          have t0 : (0 : Int) ≤ (t : Int) := Int.natCast_nonneg _
          have t1 : (t : Int) < (m : Int) := by omega
          subst e3
          subst e4
          clear hc3 hc4 hMt
          have dt' : Grid wr.drew g h n q P (wayM m (capZ n Z) Y k t) := ⟨dt.heads, dt.cells, dt.lt, dt.inj, dt.ne, dt.bd⟩
          have hbt' : Bw w wr.drew := hbt.drew
          go_wp2
          go_region_with (go_at_call 30; refine (add_grid (by omega) (by omega) dt' hlt (by omega) hrb.drew hdis).mono ?_; rintro e w3 ⟨rfl, d3, hx3⟩)
          all_goals
            go_wp2
            go_roundw
            case rel =>
              refine ⟨t + 1, by omega, by go_num, d3.congr (fun r c => wayM_bd hcb _ _ _ _) (fun r c _ _ => ?_), Below.trans hbt' (hx3.below hbt'.size (fun b e => by omega))⟩
              rw [wayM_term, capZ_at hlt]
            case measure => simp [intOf]; omega
        · have ek : m = t := by omega
          subst ek
          go_wp2
          go_roundw
          case rel => exact ⟨k + 1, by omega, by go_num, dt.congr (fun r c => wayM_bd hcb _ _ _ _) (fun r c _ _ => wayM_row _ _ _ _ _ _), hbt⟩
          case measure => simp [intOf]; omega
    · have ek : n = k := by omega
      subst ek
      go_wp2
      go_ret2
      refine ⟨_, rfl, (dk.new hg hh).congr (fun r hr => ?_), hbk⟩
      funext c
      unfold wayM prodZ
      rw [if_pos hr, capZ_at hr]

end Go.Proofs.Ytpgjkhlffcomgaa
