/- What the document's own Rank tells. -/
import Derived.Test.YtpgjkhlffcomgaaM12
namespace Go.Proofs.Ytpgjkhlffcomgaa
open Go.RowKit

theorem rsteps_none (A : Option Addr) (cap cols : Nat) (w : World) (hc : cols ≤ 131072) :
    Calls Try.prog 39 #[.slice A 0 cap, .int .i64 (cols : Int)] w fun e w' => ∃ v, e = .returned (.tuple #[v, .int .i64 0]) ∧ Bw w w' := by
  have hcop := rcopied_any A 0 cap (fun _ => none) (fun _ => 0) (fun _ => 0) (fun _ _ => 0) w ⟨Or.inl rfl, fun r hr => by omega⟩ (fun r hr => by omega) (fun r hr => by omega) (by omega)
  go_enter Try.func39, Try.ntmps39
  go_wp2_with (go_at_call 16; refine hcop.mono ?_; rintro e w1 ⟨v, R1, C1, rfl, hown, hw1⟩; obtain ⟨A1, c1, rfl⟩ := own_form hown.own)
  go_loopw [7, 8] (fun a b wr => a = .int .i64 0 ∧ b = .int .i64 0 ∧ Bw w wr) (fun _ b _ => cols - (intOf b).toNat)
  case atStart => exact ⟨rfl, rfl, hw1⟩
  case round =>
    obtain ⟨rfl, rfl, hwo⟩ := hrel
    by_cases h0 : (0 : Int) < (cols : Int)
    · go_wp2
      go_ret2
      first | exact ⟨_, rfl, hwo⟩ | exact ⟨⟨_, rfl⟩, hwo⟩
    · have h0' : decide ((0 : Int) < (cols : Int)) = false := by simpa using h0
      go_wp2
      go_ret2
      first | exact ⟨_, rfl, hwo⟩ | exact ⟨⟨_, rfl⟩, hwo⟩

/-- rows of m numbers each, n of them -/
def colsN (n : Nat) (L : Nat → Nat) : Nat := if n = 0 then 0 else L 0
theorem colsI_eq (n : Nat) (L : Nat → Nat) : colsI n L = (colsN n L : Int) := by
  unfold colsI colsN; split <;> rfl

theorem rank_zero (m : Nat) (A : Nat → Nat → La.F8) : La.IsRank 0 m A 0 := ⟨A, A, A, A, fun i j hi => by omega, fun i j hi => by omega⟩

theorem rrank_bad (A : Option Addr) (n cap : Nat) (R : Nat → Option Addr) (L C : Nat → Nat) (Z : Nat → Nat → Int) (w : World) (h : MatAt w A n R L C Z) (x : Int) (hx : Wrong n L x) (hx0 : (x == 0) = false) :
    Calls Try.prog 26 #[.slice A n cap] w fun e w' => e = .returned (.tuple #[.int .i64 0, .int .i64 x]) ∧ Bw w w' := by
  go_enter Try.func26, Try.ntmps26
  go_wp2_with (go_at_call 37; refine (rbad_any _ _ _ _ _ _ _ _ h).mono ?_; rintro e w1 ⟨y, rfl, hy, hw⟩; obtain rfl := Wrong.unique hy hx)
  go_ret2
  exact ⟨rfl, hw⟩

theorem rrank_ok (A : Option Addr) (n cap : Nat) (R : Nat → Option Addr) (L C : Nat → Nat) (Z : Nat → Nat → Int) (w : World) (h : MatAt w A n R L C Z) (hC : ∀ r, r < n → R r = none → C r = 0) (hx : Wrong n L 0) :
    Calls Try.prog 26 #[.slice A n cap] w fun e w' => ∃ r : Nat, e = .returned (.tuple #[.int .i64 (r : Int), .int .i64 0]) ∧ La.IsRank n (colsN n L) (fm Z) r ∧ Bw w w' := by
  have hok : n ≤ 32 ∧ (∀ r, r < n → L r ≤ 131072) ∧ ∀ r, r < n → L r = L 0 := by
    rcases hx with ⟨e, _⟩ | ⟨e, _⟩ | ⟨_, h1, h2, h3⟩
    · cases e
    · cases e
    · exact ⟨h1, h2, h3⟩
  have hce := colsI_eq n L
  by_cases hn0 : n = 0
  · subst hn0
    have hc0 : colsI 0 L = 0 := rfl
    go_enter Try.func26, Try.ntmps26
    go_wp2_with (first | (go_at_call 37; refine (rbad_any _ _ _ _ _ _ _ _ h).mono ?_; rintro e w1 ⟨y, rfl, hy, hw⟩; obtain rfl := Wrong.unique hy hx; have h' := h.keep hw) | (go_at_call 28; refine (rcols_any _ _ _ _ _ _ _ _ h').mono ?_; rintro e w' ⟨rfl, hw'⟩; subst w') | (go_at_call 39; refine (rsteps_none _ _ 0 _ (by omega)).mono ?_; rintro e w2 ⟨v, rfl, hw2⟩))
    go_ret2
    exact ⟨0, rfl, rank_zero _ _, hw.trans hw2⟩
  · have hcN : colsN n L = L 0 := by unfold colsN; rw [if_neg hn0]
    have hL0 := hok.2.1 0 (by omega)
    go_enter Try.func26, Try.ntmps26
    go_wp2_with (first | (go_at_call 37; refine (rbad_any _ _ _ _ _ _ _ _ h).mono ?_; rintro e w1 ⟨y, rfl, hy, hw⟩; obtain rfl := Wrong.unique hy hx; have h' := h.keep hw) | (go_at_call 28; refine (rcols_any _ _ _ _ _ _ _ _ h').mono ?_; rintro e w' ⟨rfl, hw'⟩; subst w') | (go_at_call 39; refine (rsteps_some _ _ _ (L 0) (L 0) _ _ _ _ _ h' hC hok.2.2 hL0 (Nat.le_refl _) hok.1 (by omega)).mono ?_; rintro e w2 ⟨g, cap', r, R', C', Z', p, rfl, hinv, hwk, hw2⟩))
    go_ret2
    refine ⟨r, rfl, ?_, hw.trans hw2⟩
    rw [hcN]
    exact La.Stepped.rank hinv.1 hinv.2

end Go.Proofs.Ytpgjkhlffcomgaa
