/- Layer 19: Great. -/
import Derived.Test.YtjjnbpbbjaabeaaTq
namespace Go.Proofs.Ytjjnbpbbjaabeaa
open Go.RowKit Go.Deep
set_option linter.unusedVariables false
set_option linter.unusedSimpArgs false

theorem InActs19.cell {w : World} {A : Option Addr} {n cap : Nat} {X : Nat → Ac19} (h : InActs19 w A n cap X) {k : Nat} (hk : k < n) : ∃ b off, A = some ⟨b, off, none⟩ ∧ ∀ W, Bw w W → W.cell? ⟨b, off + k * 5, none⟩ = some (.int .i64 (X k).do_) ∧ W.cell? ⟨b, off + k * 5 + 1, none⟩ = some (.int .i64 (X k).n_) ∧ W.cell? ⟨b, off + k * 5 + 2, none⟩ = some (.int .i64 (X k).src) ∧ W.cell? ⟨b, off + k * 5 + 3, none⟩ = some (.int .i64 (X k).dst) ∧ W.cell? ⟨b, off + k * 5 + 4, none⟩ = some (.slice (X k).A (X k).L (X k).C) := by
  rcases h.at_ with h0 | ⟨b, off, e, hc⟩
  · omega
  · refine ⟨b, off, e, fun W kw => ?_⟩
    have hk1 : ∀ (j : Nat) (v : Value), (X k).vals[j]? = some v → W.cell? ⟨b, off + k * 5 + j, none⟩ = some v := fun j v hv => by
      have h1 := hc k hk j v hv
      exact (kw.cell (p := ⟨b, off + k * 5 + j, none⟩) (block_lt_of_cell h1)).trans h1
    exact ⟨hk1 0 _ rfl, hk1 1 _ rfl, hk1 2 _ rfl, hk1 3 _ rfl, hk1 4 _ rfl⟩
/-- the bodies' bytes of the first acts -/
def sumA (X : Nat → Ac19) : Nat → Nat
  | 0 => 0
  | k + 1 => sumA X k + (X k).L
/-- more than 200 acts, or 2^16 bytes -/
def greatB (n : Nat) (X : Nat → Ac19) : Bool := decide (200 < n) || decide (65536 < sumA X n)
theorem greatB_no {n : Nat} {X : Nat → Ac19} (h : greatB n X = false) : n ≤ 200 := by
  unfold greatB at h
  rw [Bool.or_eq_false_iff, decide_eq_false_iff_not] at h
  omega
set_option maxRecDepth 100000 in
set_option maxHeartbeats 4000000 in
theorem great19_any {w : World} {A : Option Addr} {n cap : Nat} {X : Nat → Ac19} (h : InActs19 w A n cap X) :
    Calls Try.prog 7 #[.slice A n cap] w fun e w' => e = .returned (.bool (greatB n X)) ∧ w' = w := by
  have HX : Hid (InActs19 w A n cap X) := h
  have hroom : n ≤ 140737488351232 := Nat.le_trans h.le h.room
  clear h
  go_enter Try.func7, Try.ntmps7
  go_upto_region 3 with fail
  go_loopw [3, 4] (fun s3 s4 wr => ∃ (k : Nat) (s : Int), k ≤ n ∧ k ≤ 201 ∧ s4 = .int .i64 (k : Int) ∧ s3 = .int .i64 s ∧ s = (sumA X k : Int) ∧ 0 ≤ s ∧ s ≤ (k : Int) * 140737488351232 ∧ wr = w) (fun _ s4 _ => n - (intOf s4).toNat)
  case atStart => exact ⟨0, 0, Nat.zero_le _, by omega, rfl, rfl, rfl, Int.le_refl 0, by omega, rfl⟩
  case round =>
    obtain ⟨k, s, hk, hk2, rfl, rfl, hsv0, hs0, hs1, rfl⟩ := hrel
    have hsv : Hid (s = (sumA X k : Int)) := hsv0
    clear hsv0
    have k0 : (0 : Int) ≤ (k : Int) := Int.natCast_nonneg _
    by_cases hlt : k < n
    · have k1 : (k : Int) < (n : Int) := by omega
      have d1 : decide ((k : Int) < (n : Int)) = true := decide_eq_true k1
      by_cases h2 : k ≤ 200
      · have d2 : decide ((k : Int) ≤ 200) = true := by rw [decide_eq_true_eq]; omega
        obtain ⟨b, off, rfl, hc⟩ := HX.out.cell hlt
        obtain ⟨-, -, -, -, c4⟩ := hc wr (Bw.refl _)
        have hin := HX.out.acts k hlt
        have hL : (X k).L ≤ 140737488351232 := Nat.le_trans hin.row.le hin.row.room
        obtain ⟨L, hLe⟩ : ∃ L, (X k).L = L := ⟨_, rfl⟩
        rw [hLe] at c4 hL
        have s1 : s + (L : Int) ≤ 9223372036854775807 := by omega
        have s2 : (0 : Int) ≤ s + (L : Int) := by omega
        have hs3 : s + (L : Int) ≤ ((k + 1 : Nat) : Int) * 140737488351232 := by omega
        have hsk : Hid (s + (L : Int) = (sumA X (k + 1) : Int)) := by show _ = _; rw [hsv.out, sumA, hLe]; omega
        clear hin hLe hc hs1
        go_wp2
        go_roundw
        case rel => exact ⟨k + 1, s + (L : Int), by omega, by omega, by go_num, by go_num, hsk.out, s2, hs3, by first | rfl | trivial⟩
        case measure => simp [intOf]; omega
      · have d2 : decide ((k : Int) ≤ 200) = false := by rw [decide_eq_false_iff_not]; omega
        have d3 : decide (200 < (n : Int)) = true := by rw [decide_eq_true_eq]; omega
        have hr : Hid (greatB n X = true) := by show _ = _; unfold greatB; rw [decide_eq_true (by omega)]; rfl
        clear hs0 hs1
        go_wp2
        go_ret
        exact ⟨by rw [hr.out] <;> rfl, rfl⟩
    · obtain rfl : k = n := by omega
      have d1 : decide ((k : Int) < (k : Int)) = false := by rw [decide_eq_false_iff_not]; omega
      by_cases h2 : 200 < k
      · have d3 : decide (200 < (k : Int)) = true := by rw [decide_eq_true_eq]; omega
        have hr : Hid (greatB k X = true) := by show _ = _; unfold greatB; rw [decide_eq_true h2]; rfl
        clear hs0 hs1 hlt
        go_wp2
        go_ret
        exact ⟨by rw [hr.out] <;> rfl, rfl⟩
      · have d3 : decide (200 < (k : Int)) = false := by rw [decide_eq_false_iff_not]; omega
        have hr : Hid (decide (65536 < s) = greatB k X) := by show _ = _; unfold greatB; rw [decide_eq_false h2, Bool.false_or, hsv.out, decide_eq_decide]; omega
        clear hs0 hs1 hlt h2
        go_wp2
        go_ret
        exact ⟨by rw [← hr.out] <;> rfl, rfl⟩
end Go.Proofs.Ytjjnbpbbjaabeaa
