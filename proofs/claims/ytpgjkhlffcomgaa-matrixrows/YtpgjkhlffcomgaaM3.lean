/- Matrices of bytes in memory, and what is read of them: how many columns, what is wrong with one, whether one is great. -/
import Derived.Test.YtpgjkhlffcomgaaM2
namespace Go.Proofs.Ytpgjkhlffcomgaa
open Go.RowKit

/-- a matrix of n rows at A: row r lies at R r, its length L r, its room C r, its numbers Z r -/
def MatAt (w : World) (A : Option Addr) (n : Nat) (R : Nat → Option Addr) (L C : Nat → Nat) (Z : Nat → Nat → Int) : Prop :=
  (n = 0 ∨ ∃ b off, A = some ⟨b, off, none⟩ ∧ ∀ r, r < n → w.cell? ⟨b, off + r, none⟩ = some (.slice (R r) (L r) (C r))) ∧ ∀ r, r < n → RowAt w (R r) (L r) (Z r)

theorem MatAt.keep {w w' : World} {A : Option Addr} {n : Nat} {R : Nat → Option Addr} {L C : Nat → Nat} {Z : Nat → Nat → Int} (h : MatAt w A n R L C Z) (g : Bw w w') : MatAt w' A n R L C Z := by
  refine ⟨?_, fun r hr => (h.2 r hr).keep g⟩
  rcases h.1 with h0 | ⟨b, off, hA, hc⟩
  · exact Or.inl h0
  · refine Or.inr ⟨b, off, hA, fun i hi => ?_⟩
    have := hc i hi
    rw [g.cell (p := ⟨b, off + i, none⟩) (block_lt_of_cell this)]
    exact this

theorem MatAt.at {w : World} {A : Option Addr} {n : Nat} {R : Nat → Option Addr} {L C : Nat → Nat} {Z : Nat → Nat → Int} (h : MatAt w A n R L C Z) {k : Nat} (hk : k < n) : ∃ b off, A = some ⟨b, off, none⟩ ∧ ∀ r, r < n → w.cell? ⟨b, off + r, none⟩ = some (.slice (R r) (L r) (C r)) := by
  rcases h.1 with h0 | h
  · omega
  · exact h

def colsI (n : Nat) (L : Nat → Nat) : Int := if n = 0 then 0 else (L 0 : Int)

theorem rcols_any (A : Option Addr) (n cap : Nat) (R : Nat → Option Addr) (L C : Nat → Nat) (Z : Nat → Nat → Int) (w : World) (h : MatAt w A n R L C Z) :
    Calls Try.prog 28 #[.slice A n cap] w fun e w' => e = .returned (.int .i64 (colsI n L)) ∧ w' = w := by
  by_cases h0 : n = 0
  · have e : colsI n L = 0 := by unfold colsI; rw [if_pos h0]
    rw [e]
    subst h0
    go_enter Try.func28, Try.ntmps28
    go_wp2
    go_ret
    exact ⟨rfl, rfl⟩
  · have e : colsI n L = (L 0 : Int) := by unfold colsI; rw [if_neg h0]
    rw [e]
    obtain ⟨b, off, rfl, hc⟩ := h.at (k := 0) (by omega)
    have h1 := hc 0 (by omega)
    rw [Nat.add_zero] at h1
    have hn : ((n : Int) == 0) = false := by simpa using h0
    have hn2 : (0 : Int) < (n : Int) := by omega
    go_enter Try.func28, Try.ntmps28
    go_wp2
    go_ret
    exact ⟨rfl, rfl⟩

/-- what the document says is wrong with a matrix -/
def Wrong (n : Nat) (L : Nat → Nat) (e : Int) : Prop :=
  (e = 2 ∧ (32 < n ∨ ∃ r, r < n ∧ 131072 < L r)) ∨ (e = 6 ∧ n ≤ 32 ∧ (∀ r, r < n → L r ≤ 131072) ∧ ∃ r, r < n ∧ L r ≠ L 0) ∨ (e = 0 ∧ n ≤ 32 ∧ (∀ r, r < n → L r ≤ 131072) ∧ ∀ r, r < n → L r = L 0)

theorem rbad_long (A : Option Addr) (n cap : Nat) (h : 32 < n) (w : World) :
    Calls Try.prog 37 #[.slice A n cap] w fun e w' => e = .returned (.int .i64 2) ∧ w' = w := by
  go_enter Try.func37, Try.ntmps37
  go_wp2
  go_ret
  exact ⟨rfl, rfl⟩

theorem rbad_some (A : Option Addr) (n cap : Nat) (R : Nat → Option Addr) (L C : Nat → Nat) (Z : Nat → Nat → Int) (hn : n ≤ 32) (w : World) (h : MatAt w A n R L C Z) :
    Calls Try.prog 37 #[.slice A n cap] w fun e w' => ∃ x, e = .returned (.int .i64 x) ∧ Wrong n L x ∧ Bw w w' := by
  go_enter Try.func37, Try.ntmps37
  go_wp2
  go_loop [3] (fun i => ∃ k : Nat, k ≤ n ∧ i = .int .i64 k ∧ Hid (∀ r, r < k → L r ≤ 131072)) (fun i => n - (intOf i).toNat)
  case atStart => exact ⟨0, Nat.zero_le _, rfl, fun r hr => by omega⟩
  case round =>
    obtain ⟨k, hk, rfl, hno⟩ := hrel
    by_cases hlt : k < n
    · obtain ⟨b, off, rfl, hc⟩ := h.at hlt
      have h1 := hc k hlt
      clear hc
      by_cases hl : 131072 < L k
      · go_wp2
        go_ret
        exact ⟨2, rfl, Or.inl ⟨rfl, Or.inr ⟨k, hlt, hl⟩⟩, Bw.refl _⟩
      · go_wp2
        go_round
        case rel => exact ⟨k + 1, by omega, by go_num, fun r hr => by by_cases e : r = k; (subst e; omega); exact hno r (by omega)⟩
        case measure => simp [intOf]; omega
    · have ek : n = k := by omega
      subst ek
      clear hlt hk
      go_wp2
      go_loopw [4] (fun i wr => ∃ k : Nat, k ≤ n ∧ i = .int .i64 k ∧ Hid (∀ r, r < k → L r = L 0) ∧ Bw w wr) (fun i _ => n - (intOf i).toNat)
      case atStart => exact ⟨0, Nat.zero_le _, rfl, (fun r hr => by omega), Bw.refl _⟩
      case round =>
        obtain ⟨k, hk, rfl, hsame, hw⟩ := hrel
        by_cases hlt : k < n
        · obtain ⟨b, off, rfl, hc⟩ := (h.keep hw).at hlt
          have h1 := hc k hlt
          have h2 := hc 0 (by omega)
          rw [Nat.add_zero] at h2
          have hk0 : (0 : Int) ≤ (k : Int) := Int.natCast_nonneg _
          have hk1 : (k : Int) < (n : Int) := by omega
          have hk2 : (0 : Int) < (n : Int) := by omega
          clear hc
          by_cases hl : L k = L 0
          · have hl2 : ((L k : Int) != (L 0 : Int)) = false := by rw [hl]; simp
            go_wp2
            go_quiet (fail)
            go_wp2
            go_roundw
            case rel => exact ⟨k + 1, by omega, by go_num, (fun r hr => by by_cases e : r = k; (subst e; exact hl); exact hsame r (by omega)), hw.trans (Bw.drewN _ _)⟩
            case measure => simp [intOf]; omega
          · have hl2 : ((L k : Int) != (L 0 : Int)) = true := by simp; omega
            go_wp2
            go_quiet (fail)
            go_wp2
            go_ret
            exact ⟨6, rfl, Or.inr (Or.inl ⟨rfl, hn, hno.out, k, hlt, hl⟩), hw.trans (Bw.drewN _ _)⟩
        · have ek : n = k := by omega
          subst ek
          go_wp2
          go_ret
          exact ⟨0, rfl, Or.inr (Or.inr ⟨rfl, hn, hno.out, hsame.out⟩), hw⟩

theorem rbad_any (A : Option Addr) (n cap : Nat) (R : Nat → Option Addr) (L C : Nat → Nat) (Z : Nat → Nat → Int) (w : World) (h : MatAt w A n R L C Z) :
    Calls Try.prog 37 #[.slice A n cap] w fun e w' => ∃ x, e = .returned (.int .i64 x) ∧ Wrong n L x ∧ Bw w w' := by
  by_cases hn : 32 < n
  · exact (rbad_long A n cap hn w).mono fun e w' ⟨he, hw⟩ => ⟨2, he, Or.inl ⟨rfl, Or.inl hn⟩, by subst w'; exact Bw.refl _⟩
  · exact rbad_some A n cap R L C Z (by omega) w h

/-- how many numbers and rows as far as row k -/
def bulk (L : Nat → Nat) : Nat → Nat
  | 0 => 0
  | k + 1 => bulk L k + 1 + L k

theorem bulk_mono (L : Nat → Nat) (j k : Nat) (h : j ≤ k) : bulk L j ≤ bulk L k := by
  induction k with
  | zero => have : j = 0 := by omega
            subst this; exact Nat.le_refl _
  | succ k ih =>
    by_cases e : j = k + 1
    · subst e; exact Nat.le_refl _
    · have := ih (by omega)
      show bulk L j ≤ bulk L k + 1 + L k
      omega

theorem ret_bool {a b : Bool} (h : a = b) : Ending.returned (.bool a) = .returned (.bool b) := by rw [h]

theorem great_any (A : Option Addr) (n cap : Nat) (R : Nat → Option Addr) (L C : Nat → Nat) (Z : Nat → Nat → Int) (hL : ∀ r, r < n → L r ≤ 140737488355328) (hn : n ≤ 140737488355328) (w : World) (h : MatAt w A n R L C Z) :
    Calls Try.prog 15 #[.slice A n cap] w fun e w' => e = .returned (.bool (decide (4096 < bulk L n))) ∧ w' = w := by
  go_enter Try.func15, Try.ntmps15
  go_wp2
  go_loop [3, 4] (fun s i => ∃ k : Nat, k ≤ n ∧ i = .int .i64 k ∧ s = .int .i64 (bulk L k : Int) ∧ bulk L k ≤ 140737488400000) (fun _ i => n - (intOf i).toNat)
  case atStart => exact ⟨0, Nat.zero_le _, rfl, rfl, by show 0 ≤ _; omega⟩
  case round =>
    obtain ⟨k, hk, rfl, rfl, hbk⟩ := hrel
    by_cases hlt : k < n
    · obtain ⟨b, off, rfl, hc⟩ := h.at hlt
      have h1 := hc k hlt
      have h2 := hL k hlt
      have h3 : bulk L (k + 1) = bulk L k + 1 + L k := rfl
      have H3 : Hid (bulk L (k + 1) = bulk L k + 1 + L k) := h3
      clear hc h3
      by_cases hs : bulk L k ≤ 4096
      · have hs' : (bulk L k : Int) ≤ 4096 := by omega
        go_wp2
        go_round
        case rel => exact ⟨k + 1, by omega, by go_num, by rw [H3.out]; go_num, by rw [H3.out]; omega⟩
        case measure => simp [intOf]; omega
      · have hs' : ¬ (bulk L k : Int) ≤ 4096 := by omega
        have hm := bulk_mono L k n (by omega)
        go_wp2
        go_ret
        exact ⟨ret_bool (by rw [Bool.eq_iff_iff]; simp; omega), rfl⟩
    · have ek : n = k := by omega
      subst ek
      go_wp2
      go_ret
      exact ⟨ret_bool (by rw [Bool.eq_iff_iff, decide_eq_true_iff, decide_eq_true_iff]; omega), rfl⟩

end Go.Proofs.Ytpgjkhlffcomgaa
