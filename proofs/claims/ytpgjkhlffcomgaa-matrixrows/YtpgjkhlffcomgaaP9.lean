/- The program's Mul for whatever matrices; Turned; Rank. -/
import Derived.Test.YtpgjkhlffcomgaaP8
import Derived.Test.YtpgjkhlffcomgaaP5
namespace Go.Proofs.Ytpgjkhlffcomgaa
open Go.RowKit

/-- what Mul's errors and shape are -/
def MulSays (n : Nat) (L : Nat → Nat) (m : Nat) (M : Nat → Nat) (x : Int) (k q : Nat) : Prop :=
  (Wrong n L x ∧ x ≠ 0 ∧ k = 0) ∨ (Wrong n L 0 ∧ Wrong m M x ∧ x ≠ 0 ∧ k = 0) ∨ (Wrong n L 0 ∧ Wrong m M 0 ∧ colsN n L ≠ m ∧ x = 6 ∧ k = 0) ∨
  (Wrong n L 0 ∧ Wrong m M 0 ∧ colsN n L = m ∧ x = 0 ∧ k = n ∧ q = colsN m M)

theorem wrong_some_x (n : Nat) (L : Nat → Nat) : ∃ x, Wrong n L x := by
  by_cases h1 : 32 < n ∨ ∃ r, r < n ∧ 131072 < L r
  · exact ⟨2, Or.inl ⟨rfl, h1⟩⟩
  · have hn : n ≤ 32 := Nat.le_of_not_lt (fun e => h1 (Or.inl e))
    have hl : ∀ r, r < n → L r ≤ 131072 := fun r hr => Nat.le_of_not_lt (fun e => h1 (Or.inr ⟨r, hr, e⟩))
    by_cases h2 : ∃ r, r < n ∧ L r ≠ L 0
    · exact ⟨6, Or.inr (Or.inl ⟨rfl, hn, hl, h2⟩)⟩
    · exact ⟨0, Or.inr (Or.inr ⟨rfl, hn, hl, fun r hr => Classical.byContradiction fun e => h2 ⟨r, hr, e⟩⟩)⟩

theorem mul_bad1 (A B : Option Addr) (n m ca cb : Nat) (R : Nat → Option Addr) (L C : Nat → Nat) (Z : Nat → Nat → Int) (w : World) (ha : MatAt w A n R L C Z) (x : Int) (hx : Wrong n L x) (h0 : x ≠ 0) :
    Calls Try.prog 17 #[.slice A n ca, .slice B m cb] w fun e w' => e = .returned (.tuple #[.slice none 0 0, .int .i64 x]) ∧ w' = w := by
  have e1 : (x != 0) = true := by simpa using h0
  go_enter Try.func17, Try.ntmps17
  go_wp2_with (go_at_call_of 29 (Value.slice A n ca); refine (wrong_any _ _ _ _ _ _ _ _ ha).mono ?_; rintro e w' ⟨y, rfl, hx', hw'⟩; subst w'; obtain rfl := Wrong.unique hx' hx)
  go_ret2
  exact ⟨rfl, rfl⟩

theorem mul_bad2 (A B : Option Addr) (n m ca cb : Nat) (R S : Nat → Option Addr) (L C M D : Nat → Nat) (Z Y : Nat → Nat → Int) (w : World) (ha : MatAt w A n R L C Z) (hb : MatAt w B m S M D Y) (hx : Wrong n L 0) (x : Int) (hy : Wrong m M x) (h0 : x ≠ 0) :
    Calls Try.prog 17 #[.slice A n ca, .slice B m cb] w fun e w' => e = .returned (.tuple #[.slice none 0 0, .int .i64 x]) ∧ w' = w := by
  have e1 : (x != 0) = true := by simpa using h0
  go_enter Try.func17, Try.ntmps17
  go_wp2_with (first
    | (go_at_call_of 29 (Value.slice A n ca); refine (wrong_any _ _ _ _ _ _ _ _ ha).mono ?_; rintro e w' ⟨y, rfl, hx', hw'⟩; subst w'; obtain rfl := Wrong.unique hx' hx)
    | (go_at_call_of 29 (Value.slice B m cb); refine (wrong_any _ _ _ _ _ _ _ _ hb).mono ?_; rintro e w' ⟨y, rfl, hx', hw'⟩; subst w'; obtain rfl := Wrong.unique hx' hy))
  go_ret2
  exact ⟨rfl, rfl⟩

theorem mul_bad3 (A B : Option Addr) (n m ca cb : Nat) (R S : Nat → Option Addr) (L C M D : Nat → Nat) (Z Y : Nat → Nat → Int) (w : World) (ha : MatAt w A n R L C Z) (hb : MatAt w B m S M D Y) (hx : Wrong n L 0) (hy : Wrong m M 0) (h0 : colsN n L ≠ m) :
    Calls Try.prog 17 #[.slice A n ca, .slice B m cb] w fun e w' => e = .returned (.tuple #[.slice none 0 0, .int .i64 6]) ∧ w' = w := by
  have e1 : (colsI n L != (m : Int)) = true := by rw [colsI_eq]; simp; omega
  go_enter Try.func17, Try.ntmps17
  go_wp2_with (first
    | (go_at_call_of 29 (Value.slice A n ca); refine (wrong_any _ _ _ _ _ _ _ _ ha).mono ?_; rintro e w' ⟨y, rfl, hx', hw'⟩; subst w'; obtain rfl := Wrong.unique hx' hx)
    | (go_at_call_of 29 (Value.slice B m cb); refine (wrong_any _ _ _ _ _ _ _ _ hb).mono ?_; rintro e w' ⟨y, rfl, hx', hw'⟩; subst w'; obtain rfl := Wrong.unique hx' hy)
    | (go_at_call_of 35 (Value.slice A n ca); refine (columns_any _ _ _ _ _ _ _ _ ha).mono ?_; rintro e w' ⟨rfl, hw'⟩; subst w'))
  go_ret2
  exact ⟨rfl, rfl⟩

theorem mul_all (A B : Option Addr) (n m ca cb : Nat) (R S : Nat → Option Addr) (L C M D : Nat → Nat) (Z Y : Nat → Nat → Int) (w : World) (ha : MatAt w A n R L C Z) (hb : MatAt w B m S M D Y) :
    Calls Try.prog 17 #[.slice A n ca, .slice B m cb] w fun e w' => ∃ v x k q, e = .returned (.tuple #[v, .int .i64 x]) ∧ MatRes w' w.heap.size v k (fun _ => q) (prodZ m Z Y) ∧ MulSays n L m M x k q ∧ Bw w w' := by
  obtain ⟨x, hx⟩ := wrong_some_x n L
  obtain ⟨y, hy⟩ := wrong_some_x m M
  by_cases h1 : x = 0
  · subst h1
    by_cases h2 : y = 0
    · subst h2
      by_cases h3 : colsN n L = m
      · refine (mul_ok A B n m (colsN m M) ca cb R S L C M D Z Y w ha hb hx hy (by rw [colsI_eq, h3]) (colsI_eq _ _)).mono ?_
        rintro e w' ⟨v, he, hm, hw⟩
        exact ⟨v, 0, n, colsN m M, he, hm, Or.inr (Or.inr (Or.inr ⟨hx, hy, h3, rfl, rfl, rfl⟩)), hw⟩
      · refine (mul_bad3 A B n m ca cb R S L C M D Z Y w ha hb hx hy h3).mono ?_
        rintro e w' ⟨he, rfl⟩
        exact ⟨_, 6, 0, 0, he, res_none _ _ _ _, Or.inr (Or.inr (Or.inl ⟨hx, hy, h3, rfl, rfl⟩)), Bw.refl _⟩
    · refine (mul_bad2 A B n m ca cb R S L C M D Z Y w ha hb hx y hy h2).mono ?_
      rintro e w' ⟨he, rfl⟩
      exact ⟨_, y, 0, 0, he, res_none _ _ _ _, Or.inr (Or.inl ⟨hx, hy, h2, rfl⟩), Bw.refl _⟩
  · refine (mul_bad1 A B n m ca cb R L C Z w ha x hx h1).mono ?_
    rintro e w' ⟨he, rfl⟩
    exact ⟨_, x, 0, 0, he, res_none _ _ _ _, Or.inl ⟨hx, h1, rfl⟩, Bw.refl _⟩

/-- rows and columns changed about, under way: i rows are done, j numbers of the next one -/
def tW (n : Nat) (Z : Nat → Nat → Int) (i j r c : Nat) : Int := if c < i ∨ (c = i ∧ r < j) then capZ n Z c r else 0
theorem tW_bd {w : World} {A : Option Addr} {n : Nat} {R : Nat → Option Addr} {L C : Nat → Nat} {Z : Nat → Nat → Int} (h : MatAt w A n R L C Z) (i j r c : Nat) : 0 ≤ tW n Z i j r c ∧ tW n Z i j r c < 256 := by
  unfold tW; split
  · exact capZ_bd h c r
  · decide
theorem tW_next {n : Nat} {Z : Nat → Nat → Int} {i j : Nat} (hi : i < n) (r c : Nat) : tW n Z i (j + 1) r c = upd (tW n Z i j) j (upd (tW n Z i j j) i (Z i j)) r c := by
  by_cases e : r = j
  · subst e; rw [upd_at]
    by_cases e' : c = i
    · subst e'; rw [upd_at]; unfold tW; rw [if_pos (by omega), capZ_at hi]
    · rw [upd_ne _ _ e']; unfold tW
      by_cases h : c < i
      · rw [if_pos (by omega), if_pos (by omega)]
      · rw [if_neg (by omega), if_neg (by omega)]
  · rw [upd_ne _ _ e]; unfold tW
    by_cases h : c < i ∨ (c = i ∧ r < j)
    · rw [if_pos h, if_pos (by omega)]
    · rw [if_neg h, if_neg (by omega)]
theorem tW_row {n : Nat} {Z : Nat → Nat → Int} {i m r c : Nat} (hr : r < m) : tW n Z (i + 1) 0 r c = tW n Z i m r c := by
  unfold tW
  by_cases h : c < i ∨ (c = i ∧ r < m)
  · rw [if_pos h, if_pos (by omega)]
  · rw [if_neg h, if_neg (by omega)]

set_option maxRecDepth 100000 in
theorem tur_ok (A : Option Addr) (n m ca : Nat) (R : Nat → Option Addr) (L C : Nat → Nat) (Z : Nat → Nat → Int) (w : World) (ha : MatAt w A n R L C Z) (hx : Wrong n L 0) (hc : colsI n L = (m : Int)) (hm : m ≤ 32) :
    Calls Try.prog 24 #[.slice A n ca] w fun e w' => ∃ v, e = .returned (.tuple #[v, .int .i64 0]) ∧ MatRes w' w.heap.size v m (fun _ => n) (tz n Z) ∧ Bw w w' := by
  obtain ⟨hn, -, -⟩ := wrong_ok hx
  obtain ⟨-, hLm⟩ := wrong_cols hx hc
  have hLm' : Hid (∀ r, r < n → L r = m) := hLm
  clear hLm
  have hnq : m * n ≤ 32 * 32 := Nat.mul_le_mul hm hn
  have hcb := tW_bd ha
  go_enter Try.func24, Try.ntmps24
  go_wp2_with (first
    | (go_at_call 29; refine (wrong_any _ _ _ _ _ _ _ _ ha).mono ?_; rintro e w' ⟨x, rfl, hx', hw'⟩; subst w'; obtain rfl := Wrong.unique hx' hx)
    | (go_at_call 35; refine (columns_any _ _ _ _ _ _ _ _ ha).mono ?_; rintro e w' ⟨rfl, hw'⟩; subst w'; rw [hc])
    | (go_at_call 36; refine (space_any m n (by omega) (by omega) (by omega) _).mono ?_; rintro e w1 ⟨g, h, rfl, d, hg, hh, hbw⟩))
  obtain ⟨P, d⟩ : ∃ P, Grid w1 g h m n P (fun _ _ => 0) := ⟨_, d⟩
  go_loopw [25] (fun i wr => ∃ k : Nat, k ≤ n ∧ i = .int .i64 k ∧ Grid wr g h m n P (tW n Z k 0) ∧ Bw w wr) (fun i _ => n - (intOf i).toNat)
  case atStart => exact ⟨0, Nat.zero_le _, rfl, d.congr (fun r c => hcb _ _ _ _) (fun r c _ _ => by unfold tW; rw [if_neg (by omega)]), hbw⟩
  case round =>
    rename World => wo
    obtain ⟨k, hk, rfl, dk, hbk⟩ := hrel
    have hao := ha.keep hbk
    by_cases hlt : k < n
    · have hLk := hLm'.out k hlt
      obtain ⟨b1, o1, e2, hc1⟩ := hao.at hlt
      have h1 := hc1 k hlt
      rw [hLk] at h1
      have hrow := ha.2 k hlt
      rw [hLk] at hrow
      have k0 : (0 : Int) ≤ (k : Int) := Int.natCast_nonneg _
      have k1 : (k : Int) < (n : Int) := by omega
      subst e2
      clear hc1 hLk hao
      generalize R k = RK at h1 hrow
      go_wp2
      go_loopw [32] (fun i wr => ∃ t : Nat, t ≤ m ∧ i = .int .i64 t ∧ Grid wr g h m n P (tW n Z k t) ∧ Bw w wr) (fun i _ => m - (intOf i).toNat)
      case atStart => exact ⟨0, Nat.zero_le _, rfl, dk, hbk⟩
      case round =>
        obtain ⟨t, ht, rfl, dt, hbt⟩ := hrel
        by_cases htm : t < m
        · obtain ⟨b3, o3, e3, hc3⟩ := (hrow.keep hbt).at htm
          have h3 := hc3 t htm
          have z3 := hrow.2 t
          obtain ⟨c1, -⟩ := dt.head htm
          obtain ⟨c2, f2⟩ := dt.cell htm hlt
          have t0 : (0 : Int) ≤ (t : Int) := Int.natCast_nonneg _
          have t1 : (t : Int) < (m : Int) := by omega
          subst e3
          clear hc3
          go_wp2
          go_roundw
          case rel => exact ⟨t + 1, by omega, by go_num, (dt.set htm hlt z3).congr (fun r c => hcb _ _ _ _) (fun r c _ _ => tW_next hlt r c), Bw.put hbt hg _ _⟩
          case measure => simp [intOf]; omega
        · have ek : m = t := by omega
          subst ek
          go_wp2
          go_roundw
          case rel => exact ⟨k + 1, by omega, by go_num, dt.congr (fun r c => hcb _ _ _ _) (fun r c hr _ => tW_row hr), hbt⟩
          case measure => simp [intOf]; omega
    · have ek : n = k := by omega
      subst ek
      go_wp2
      go_ret2
      refine ⟨_, rfl, (dk.congr (Z' := tz n Z) (fun r c => ?_) (fun r c hr hc => ?_)).new hg hh, hbk⟩
      · unfold tz; split
        · rename_i h'; exact (ha.2 c h').2 r
        · decide
      · unfold tz tW; rw [if_pos hc, if_pos (Or.inl hc), capZ_at hc]

/-- what Turned's errors and shape are -/
def TurnSays (n : Nat) (L : Nat → Nat) (x : Int) (k : Nat) : Prop :=
  (Wrong n L x ∧ x ≠ 0 ∧ k = 0) ∨ (Wrong n L 0 ∧ 32 < colsN n L ∧ x = 2 ∧ k = 0) ∨ (Wrong n L 0 ∧ colsN n L ≤ 32 ∧ x = 0 ∧ k = colsN n L)

theorem tur_bad (A : Option Addr) (n ca : Nat) (R : Nat → Option Addr) (L C : Nat → Nat) (Z : Nat → Nat → Int) (w : World) (ha : MatAt w A n R L C Z) (x : Int) (hx : Wrong n L x) (h0 : x ≠ 0) :
    Calls Try.prog 24 #[.slice A n ca] w fun e w' => e = .returned (.tuple #[.slice none 0 0, .int .i64 x]) ∧ w' = w := by
  have e1 : (x != 0) = true := by simpa using h0
  go_enter Try.func24, Try.ntmps24
  go_wp2_with (go_at_call 29; refine (wrong_any _ _ _ _ _ _ _ _ ha).mono ?_; rintro e w' ⟨y, rfl, hx', hw'⟩; subst w'; obtain rfl := Wrong.unique hx' hx)
  go_ret2
  exact ⟨rfl, rfl⟩

theorem tur_long (A : Option Addr) (n ca : Nat) (R : Nat → Option Addr) (L C : Nat → Nat) (Z : Nat → Nat → Int) (w : World) (ha : MatAt w A n R L C Z) (hx : Wrong n L 0) (h0 : 32 < colsI n L) :
    Calls Try.prog 24 #[.slice A n ca] w fun e w' => e = .returned (.tuple #[.slice none 0 0, .int .i64 2]) ∧ w' = w := by
  go_enter Try.func24, Try.ntmps24
  go_wp2_with (first
    | (go_at_call 29; refine (wrong_any _ _ _ _ _ _ _ _ ha).mono ?_; rintro e w' ⟨y, rfl, hx', hw'⟩; subst w'; obtain rfl := Wrong.unique hx' hx)
    | (go_at_call 35; refine (columns_any _ _ _ _ _ _ _ _ ha).mono ?_; rintro e w' ⟨rfl, hw'⟩; subst w'))
  go_ret2
  exact ⟨rfl, rfl⟩

theorem tur_all (A : Option Addr) (n ca : Nat) (R : Nat → Option Addr) (L C : Nat → Nat) (Z : Nat → Nat → Int) (w : World) (ha : MatAt w A n R L C Z) :
    Calls Try.prog 24 #[.slice A n ca] w fun e w' => ∃ v x k, e = .returned (.tuple #[v, .int .i64 x]) ∧ MatRes w' w.heap.size v k (fun _ => n) (tz n Z) ∧ TurnSays n L x k ∧ Bw w w' := by
  obtain ⟨x, hx⟩ := wrong_some_x n L
  by_cases h1 : x = 0
  · subst h1
    by_cases h2 : 32 < colsN n L
    · refine (tur_long A n ca R L C Z w ha hx (by rw [colsI_eq]; omega)).mono ?_
      rintro e w' ⟨he, rfl⟩
      exact ⟨_, 2, 0, he, res_none _ _ _ _, Or.inr (Or.inl ⟨hx, h2, rfl, rfl⟩), Bw.refl _⟩
    · refine (tur_ok A n (colsN n L) ca R L C Z w ha hx (colsI_eq _ _) (by omega)).mono ?_
      rintro e w' ⟨v, he, hm, hw⟩
      exact ⟨v, 0, colsN n L, he, hm, Or.inr (Or.inr ⟨hx, by omega, rfl, rfl⟩), hw⟩
  · refine (tur_bad A n ca R L C Z w ha x hx h1).mono ?_
    rintro e w' ⟨he, rfl⟩
    exact ⟨_, x, 0, he, res_none _ _ _ _, Or.inl ⟨hx, h1, rfl⟩, Bw.refl _⟩

end Go.Proofs.Ytpgjkhlffcomgaa
