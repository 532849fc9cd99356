/- Rows of bytes in memory, and what the document's own Plus and Dot answer for them. -/
import Derived.Test.YtpgjkhlffcomgaaW4
import Derived.Deep.QuietTactic
import Derived.BigQuiet
namespace Go.Proofs.Ytpgjkhlffcomgaa
open Go.RowKit

/-- what was there stays -/
abbrev Bw (w w' : World) : Prop := Below w.heap.size w w'

theorem Bw.trans {a b c : World} (h : Bw a b) (k : Bw b c) : Bw a c := Below.trans h (Below.mono k h.size)
theorem Bw.refl (a : World) : Bw a a := Below.refl _ _
theorem Bw.drewN (w : World) : ∀ n, Bw w (w.drewN n)
  | 0 => Below.refl _ _
  | n + 1 => (Bw.drewN w n).drew

/-- a row of L bytes at A -/
def RowAt (w : World) (A : Option Addr) (L : Nat) (f : Nat → Int) : Prop :=
  (L = 0 ∨ ∃ b off, A = some ⟨b, off, none⟩ ∧ ∀ i, i < L → w.cell? ⟨b, off + i, none⟩ = some (.int .u8 (f i))) ∧ ∀ i, 0 ≤ f i ∧ f i < 256

theorem RowAt.keep {w w' : World} {A : Option Addr} {L : Nat} {f : Nat → Int} (h : RowAt w A L f) (g : Bw w w') : RowAt w' A L f := by
  refine ⟨?_, h.2⟩
  rcases h.1 with h0 | ⟨b, off, hA, hc⟩
  · exact Or.inl h0
  · refine Or.inr ⟨b, off, hA, fun i hi => ?_⟩
    have := hc i hi
    rw [g.cell (p := ⟨b, off + i, none⟩) (block_lt_of_cell this)]
    exact this

theorem RowAt.at {w : World} {A : Option Addr} {L : Nat} {f : Nat → Int} (h : RowAt w A L f) {k : Nat} (hk : k < L) : ∃ b off, A = some ⟨b, off, none⟩ ∧ ∀ i, i < L → w.cell? ⟨b, off + i, none⟩ = some (.int .u8 (f i)) := by
  rcases h.1 with h0 | h
  · omega
  · exact h

def twoE (la lb : Nat) : Int := if 131072 < la ∨ 131072 < lb then 2 else if la ≠ lb then 6 else 0

theorem rtwo_any (A B : Option Addr) (la ca lb cb : Nat) (w : World) :
    Calls Try.prog 33 #[.slice A la ca, .slice B lb cb] w fun e w' => e = .returned (.int .i64 (twoE la lb)) ∧ w' = w := by
  by_cases h1 : 131072 < la
  · have e : twoE la lb = 2 := by unfold twoE; rw [if_pos (Or.inl h1)]
    rw [e]
    go_enter Try.func33, Try.ntmps33
    go_wp2
    go_ret
    exact ⟨rfl, rfl⟩
  · by_cases h2 : 131072 < lb
    · have e : twoE la lb = 2 := by unfold twoE; rw [if_pos (Or.inr h2)]
      rw [e]
      go_enter Try.func33, Try.ntmps33
      go_wp2
      go_ret
      exact ⟨rfl, rfl⟩
    · by_cases h3 : la = lb
      · have e : twoE la lb = 0 := by unfold twoE; rw [if_neg (by omega), if_neg (by omega)]
        rw [e]
        go_enter Try.func33, Try.ntmps33
        go_wp2
        go_ret
        exact ⟨rfl, rfl⟩
      · have e : twoE la lb = 6 := by unfold twoE; rw [if_neg (by omega), if_pos h3]
        rw [e]
        go_enter Try.func33, Try.ntmps33
        go_wp2
        go_ret
        exact ⟨rfl, rfl⟩

/-- the sum of the first k products -/
def dotU (f g : Nat → Int) : Nat → Int
  | 0 => 0
  | k + 1 => addI (dotU f g k) (mulI (f k) (g k))

theorem dotU_bd (f g : Nat → Int) (hf : ∀ i, 0 ≤ f i ∧ f i < 256) : ∀ k, 0 ≤ dotU f g k ∧ dotU f g k < 256
  | 0 => by show (0 : Int) ≤ 0 ∧ (0 : Int) < 256; decide
  | k + 1 => addI_bd _ _ (dotU_bd f g hf k).2 (mulI_bd _ _ (hf k).2).2

theorem rdot_ok (A B : Option Addr) (L ca cb : Nat) (f g : Nat → Int) (hL : L ≤ 131072) (w : World) (ha : RowAt w A L f) (hb : RowAt w B L g) :
    Calls Try.prog 14 #[.slice A L ca, .slice B L cb] w fun e w' => e = .returned (.tuple #[.int .u8 (dotU f g L), .int .i64 0]) ∧ Bw w w' := by
  have e0 : twoE L L = 0 := by unfold twoE; rw [if_neg (by omega), if_neg (by omega)]
  go_enter Try.func14, Try.ntmps14
  go_wp2_with (go_at_call 33; refine (rtwo_any _ _ _ _ _ _ _).mono ?_; rintro e w' ⟨rfl, hw'⟩; subst w')
  go_loopw [7, 8] (fun x i wr => ∃ k : Nat, k ≤ L ∧ i = .int .i64 k ∧ x = .int .u8 (dotU f g k) ∧ Bw w wr) (fun _ i _ => L - (intOf i).toNat)
  case atStart => exact ⟨0, Nat.zero_le _, rfl, rfl, Bw.refl _⟩
  case round =>
    obtain ⟨k, hk, rfl, rfl, hw⟩ := hrel
    by_cases hlt : k < L
    · obtain ⟨b1, o1, rfl, hc1⟩ := (ha.keep hw).at hlt
      obtain ⟨b2, o2, rfl, hc2⟩ := (hb.keep hw).at hlt
      have h1 := hc1 k hlt
      have h2 := hc2 k hlt
      have f1 := ha.2 k
      have g1 := hb.2 k
      have d1 := dotU_bd f g ha.2 k
      have m1 := mulI_bd (f k) (g k) f1.2
      have r1 : bits .xor .u8 (dotU f g k) (mulI (f k) (g k)) = dotU f g (k + 1) := u8_xor _ _ d1.1 d1.2 m1.1 m1.2
      clear hc1 hc2
      go_wp2
      go_quiet ((go_at_call 34; exact Calls.quiet_of_same (rmul_any _ _ (by omega) (by omega) (by omega) (by omega) _)))
      go_wp2
      go_roundw
      case rel => exact ⟨k + 1, by omega, by go_num, rfl, hw.trans (Bw.drewN _ _)⟩
      case measure => simp [intOf]; omega
    · have ek : k = L := by omega
      subst ek
      go_wp2
      go_ret2
      exact ⟨rfl, hw⟩

theorem rdot_no (A B : Option Addr) (la ca lb cb : Nat) (w : World) (h : (twoE la lb == 0) = false) :
    Calls Try.prog 14 #[.slice A la ca, .slice B lb cb] w fun e w' => e = .returned (.tuple #[.int .u8 0, .int .i64 (twoE la lb)]) ∧ Bw w w' := by
  go_enter Try.func14, Try.ntmps14
  go_wp2_with (go_at_call 33; refine (rtwo_any _ _ _ _ _ _ _).mono ?_; rintro e w' ⟨rfl, hw'⟩; subst w')
  go_ret2
  exact ⟨rfl, Bw.refl _⟩

end Go.Proofs.Ytpgjkhlffcomgaa
