/- The program's Rank and Inverse. -/
import Derived.Test.YtpgjkhlffcomgaaP9
namespace Go.Proofs.Ytpgjkhlffcomgaa
open Go.RowKit

theorem copy_grid {g h n m r L cb : Nat} {P : Nat → Nat} {Z : Nat → Nat → Int} {f : Nat → Int} {B : Option Addr} (ty : TypeId) {w : World} (d : Grid w g h n m P Z) (hr : r < n) (hL : L ≤ m) (hB : RowAt w B L f) :
    ∃ w', (Builtin.copy_ #[22, 22] ty #[.slice (some ⟨g, P r * m, none⟩) m m, .slice B L cb]).run Try.prog w = .ok (goInt L) w' ∧ Grid w' g h n m P (upd Z r (fun c => if c < L then f c else Z r c)) ∧ Bx (· = g) w w' := by
  obtain ⟨F, hb, hF, hZ⟩ := d.cells
  have hle := cut_le (m := m) (c := m) (d.lt r hr) (Nat.le_refl _)
  obtain ⟨w', h1, h2, h3⟩ := copy_ok g (P r * m) m m (n * m) L cb ty F f B w hb (by omega) hL hB
  refine ⟨w', h1, d.turned h3 hr hZ h2 (cpyF_bd hF hB.2) (fun i => ?_) (fun i hi => ?_) (fun i hi => ?_), h3⟩
  · split
    · exact hB.2 i
    · exact d.bd r i
  · unfold cpyF
    by_cases e : i < L
    · rw [if_pos (by omega), if_pos e, Nat.add_sub_cancel_left]
    · rw [if_neg (by omega), if_neg e, hZ r i hr hi]
  · unfold cpyF; rw [if_neg (by omega)]

/-- k rows laid over -/
def rowsW (n : Nat) (Z : Nat → Nat → Int) (k r c : Nat) : Int := if r < k then capZ n Z r c else 0
theorem rowsW_bd {w : World} {A : Option Addr} {n : Nat} {R : Nat → Option Addr} {L C : Nat → Nat} {Z : Nat → Nat → Int} (h : MatAt w A n R L C Z) (k r c : Nat) : 0 ≤ rowsW n Z k r c ∧ rowsW n Z k r c < 256 := by
  unfold rowsW; split
  · exact capZ_bd h r c
  · decide

theorem StepInv.from_ {n m j r : Nat} {Z0 Z1 Z : Nat → Nat → Int} {p : Nat → Nat} (h : StepInv n m j r Z0 Z p) (e : ∀ i j, i < n → j < m → Z0 i j = Z1 i j) : StepInv n m j r Z1 Z p :=
  ⟨(La.RowEq.of_eq (A := fm Z1) (W := fm Z0) (fun i j hi hj => by unfold fm; rw [e i j hi hj])).trans h.1, h.2⟩

theorem rk_bad (A : Option Addr) (n ca : Nat) (R : Nat → Option Addr) (L C : Nat → Nat) (Z : Nat → Nat → Int) (w : World) (ha : MatAt w A n R L C Z) (x : Int) (hx : Wrong n L x) (h0 : x ≠ 0) :
    Calls Try.prog 23 #[.slice A n ca] w fun e w' => e = .returned (.tuple #[.int .i64 0, .int .i64 x]) ∧ w' = w := by
  have e1 : (x != 0) = true := by simpa using h0
  go_enter Try.func23, Try.ntmps23
  go_wp2_with (go_at_call 29; refine (wrong_any _ _ _ _ _ _ _ _ ha).mono ?_; rintro e w' ⟨y, rfl, hx', hw'⟩; subst w'; obtain rfl := Wrong.unique hx' hx)
  go_ret2
  exact ⟨rfl, rfl⟩

set_option maxRecDepth 100000 in
theorem rk_ok (A : Option Addr) (n m ca : Nat) (R : Nat → Option Addr) (L C : Nat → Nat) (Z : Nat → Nat → Int) (w : World) (ha : MatAt w A n R L C Z) (hx : Wrong n L 0) (hc : colsI n L = (m : Int)) :
    Calls Try.prog 23 #[.slice A n ca] w fun e w' => ∃ r : Nat, e = .returned (.tuple #[.int .i64 (r : Int), .int .i64 0]) ∧ La.IsRank n m (fm Z) r ∧ Bw w w' := by
  obtain ⟨hn, -, -⟩ := wrong_ok hx
  obtain ⟨hm, hLm⟩ := wrong_cols hx hc
  have hLm' : Hid (∀ r, r < n → L r = m) := hLm
  clear hLm
  have hnq : n * m ≤ 32 * 131072 := Nat.mul_le_mul hn hm
  have hcb := rowsW_bd ha
  go_enter Try.func23, Try.ntmps23
  go_wp2_with (first
    | (go_at_call 29; refine (wrong_any _ _ _ _ _ _ _ _ ha).mono ?_; rintro e w' ⟨x, rfl, hx', hw'⟩; subst w'; obtain rfl := Wrong.unique hx' hx)
    | (go_at_call 35; refine (columns_any _ _ _ _ _ _ _ _ ha).mono ?_; rintro e w' ⟨rfl, hw'⟩; subst w'; rw [hc])
    | (go_at_call 36; refine (space_any n m (by omega) (by omega) (by omega) _).mono ?_; rintro e w1 ⟨g, h, rfl, d, hg, hh, hbw⟩))
  obtain ⟨P, d⟩ : ∃ P, Grid w1 g h n m P (fun _ _ => 0) := ⟨_, d⟩
  go_loopw [20] (fun i wr => ∃ k : Nat, k ≤ n ∧ i = .int .i64 k ∧ Grid wr g h n m P (rowsW n Z k) ∧ Bw w wr) (fun i _ => n - (intOf i).toNat)
  case atStart => exact ⟨0, Nat.zero_le _, rfl, d.congr (fun r c => hcb _ _ _) (fun r c _ _ => by unfold rowsW; rw [if_neg (by omega)]), hbw⟩
  case round =>
    obtain ⟨k, hk, rfl, dk, hbk⟩ := hrel
    have hao := ha.keep hbk
    by_cases hlt : k < n
    · have hLk := hLm'.out k hlt
      obtain ⟨b1, o1, e2, hc1⟩ := hao.at hlt
      have h1 := hc1 k hlt
      rw [hLk] at h1
      have hrow := hao.2 k hlt
      rw [hLk] at hrow
      have k0 : (0 : Int) ≤ (k : Int) := Int.natCast_nonneg _
      have k1 : (k : Int) < (n : Int) := by omega
      obtain ⟨c1, -⟩ := dk.head hlt
      obtain ⟨w2, hcp, d2, hx2⟩ := copy_grid (cb := C k) 3 dk hlt (Nat.le_refl m) hrow
      subst e2
      clear hc1 hLk hao
      go_wp2
      go_roundw
      case rel =>
        refine ⟨k + 1, by omega, by go_num, d2.congr (fun r c => hcb _ _ _) (fun r c _ hc => ?_), Below.trans hbk (hx2.below hbk.size (fun b e => by omega))⟩
        by_cases e : r = k
        · subst e; rw [upd_at, if_pos hc]; unfold rowsW; rw [if_pos (by omega), capZ_at hlt]
        · rw [upd_ne _ _ e]; unfold rowsW
          by_cases h' : r < k
          · rw [if_pos h', if_pos (by omega)]
          · rw [if_neg h', if_neg (by omega)]
      case measure => simp [intOf]; omega
    · have ek : n = k := by omega
      subst ek
      go_wp2_with (first
        | (go_at_call 35; refine (columns_any _ _ _ _ _ _ _ _ hao).mono ?_; rintro e w' ⟨rfl, hw'⟩; subst w'; rw [hc])
        | (go_at_call 38; refine (reduce_any g h n m m P _ _ dk (Nat.le_refl _) (by omega) (by omega)).mono ?_; rintro e w2 ⟨r, p, P2, Z2, rfl, d2, hst, hrn, hx2⟩))
      go_ret2
      refine ⟨r, rfl, ?_, Below.trans hbk (hx2.below hbk.size (fun b e => by omega))⟩
      have hs := hst.from_ (Z1 := Z) (fun i j hi hj => by unfold rowsW; rw [if_pos hi, capZ_at hi])
      exact La.Stepped.rank hs.1 hs.2

/-- what Rank says -/
def RankSays (n : Nat) (L : Nat → Nat) (Z : Nat → Nat → Int) (x : Int) (r : Nat) : Prop :=
  (Wrong n L x ∧ x ≠ 0 ∧ r = 0) ∨ (Wrong n L 0 ∧ x = 0 ∧ La.IsRank n (colsN n L) (fm Z) r)

theorem rk_all (A : Option Addr) (n ca : Nat) (R : Nat → Option Addr) (L C : Nat → Nat) (Z : Nat → Nat → Int) (w : World) (ha : MatAt w A n R L C Z) :
    Calls Try.prog 23 #[.slice A n ca] w fun e w' => ∃ (x : Int) (r : Nat), e = .returned (.tuple #[.int .i64 (r : Int), .int .i64 x]) ∧ RankSays n L Z x r ∧ Bw w w' := by
  obtain ⟨x, hx⟩ := wrong_some_x n L
  by_cases h1 : x = 0
  · subst h1
    refine (rk_ok A n (colsN n L) ca R L C Z w ha hx (colsI_eq _ _)).mono ?_
    rintro e w' ⟨r, he, hr, hw⟩
    exact ⟨0, r, he, Or.inr ⟨hx, rfl, hr⟩, hw⟩
  · refine (rk_bad A n ca R L C Z w ha x hx h1).mono ?_
    rintro e w' ⟨he, rfl⟩
    exact ⟨x, 0, he, Or.inl ⟨hx, h1, rfl⟩, Bw.refl _⟩

end Go.Proofs.Ytpgjkhlffcomgaa
