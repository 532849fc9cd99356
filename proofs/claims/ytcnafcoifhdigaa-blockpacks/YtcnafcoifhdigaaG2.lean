/- Contracts of number and noughts (the program's) and of number and zero (the document's own). -/
import Derived.Test.YtcnafcoifhdigaaG1
namespace Go.Proofs.Ytcnafcoifhdigaa
open Go.RowKit Go.Deep
set_option linter.unusedVariables false
set_option linter.unusedSimpArgs false

/-- a call answers whether something holds -/
def Tells (e : Ending) (P : Prop) : Prop := ∃ x : Bool, e = .returned (.bool x) ∧ (x = true ↔ P)
theorem Tells.no {P : Prop} (h : ¬ P) : Tells (.returned (.bool false)) P := ⟨false, rfl, ⟨fun e => Bool.noConfusion e, fun e => absurd e h⟩⟩
theorem Tells.yes {P : Prop} (h : P) : Tells (.returned (.bool true)) P := ⟨true, rfl, ⟨fun _ => h, fun _ => rfl⟩⟩

theorem shl_or {n c : Nat} (hn : n * 256 + c < 18446744073709551616) (hc : c < 256) : bits .or .u64 (IntKind.u64.wrap ((n : Int) * 256)) (c : Int) = ((n * 256 + c : Nat) : Int) := by
  have e : IntKind.u64.wrap ((n : Int) * 256) = ((n * 256 : Nat) : Int) := by
    rw [IntKind.wrap_u64, Int.emod_eq_of_lt (by omega) (by omega)]; simp
  rw [e, u64_or_nat (n * 256) c (Nat.lt_of_le_of_lt (Nat.le_add_right _ _) hn) (Nat.lt_trans hc (by decide))]
  congr 1
  have h := Nat.shiftLeft_add_eq_or_of_lt (i := 8) (b := c) (by omega) n
  rw [Nat.shiftLeft_eq] at h
  exact h.symm

/-- a number, one byte further -/
theorem num_or {f : Nat → Nat} (hf : ∀ i, f i < 256) {k : Nat} (hk : k < 8) : bits .or .u64 (IntKind.u64.wrap ((Blk.num f k : Int) * 256)) (f k : Int) = ((Blk.num f (k + 1) : Nat) : Int) :=
  shl_or (Blk.num_lt64 hf (k := k + 1) (by omega)) (hf k)

theorem number_any (A : Option Addr) (L ca : Nat) (f : Nat → Int) (hL : L ≤ 8) (w : World) (hrow : RowAt w A L f) :
    Calls Try.prog 20 #[.slice A L ca] w fun e w' => e = .returned (.int .u64 (Blk.num (nb f) L : Nat)) ∧ w' = w := by
  have hnb := nb_lt hrow.2
  go_enter Try.func20, Try.ntmps20
  go_wp2
  go_loop [3, 8] (fun r i => ∃ k : Nat, k ≤ L ∧ i = .int .i64 k ∧ r = .int .u64 (Blk.num (nb f) k : Nat)) (fun _ i => L - (intOf i).toNat)
  case atStart => exact ⟨0, Nat.zero_le _, rfl, rfl⟩
  case round =>
    obtain ⟨k, hk, rfl, rfl⟩ := hrel
    by_cases hlt : k < L
    · obtain ⟨b1, o1, rfl, hc1⟩ := hrow.at hlt
      have h1 := hc1 k hlt
      rw [nb_eq hrow.2 k] at h1
      have h2 := hnb k
      have h3 := Blk.num_lt64 hnb (k := k) (by omega)
      have h7 := num_or (k := k) hnb (by omega)
      clear hc1
      go_wp2
      go_round
      case rel => exact ⟨k + 1, by omega, by go_num, by rw [← h7]⟩
      case measure => simp [intOf]; omega
    · have ek : k = L := by omega
      subst ek
      go_wp2
      go_ret
      exact ⟨rfl, rfl⟩

theorem rnumber_any (A : Option Addr) (L ca : Nat) (f : Nat → Int) (hL : L ≤ 8) (w : World) (hrow : RowAt w A L f) :
    Calls Try.prog 25 #[.slice A L ca] w fun e w' => e = .returned (.int .u64 (Blk.num (nb f) L : Nat)) ∧ w' = w := by
  have hnb := nb_lt hrow.2
  go_enter Try.func25, Try.ntmps25
  go_wp2
  go_loop [3, 4] (fun r i => ∃ k : Nat, k ≤ L ∧ i = .int .i64 k ∧ r = .int .u64 (Blk.num (nb f) k : Nat)) (fun _ i => L - (intOf i).toNat)
  case atStart => exact ⟨0, Nat.zero_le _, rfl, rfl⟩
  case round =>
    obtain ⟨k, hk, rfl, rfl⟩ := hrel
    by_cases hlt : k < L
    · obtain ⟨b1, o1, rfl, hc1⟩ := hrow.at hlt
      have h1 := hc1 k hlt
      rw [nb_eq hrow.2 k] at h1
      have h2 := hnb k
      have h3 := Blk.num_lt64 hnb (k := k) (by omega)
      have h7 := num_or (k := k) hnb (by omega)
      clear hc1
      go_wp2
      go_round
      case rel => exact ⟨k + 1, by omega, by go_num, by rw [← h7]⟩
      case measure => simp [intOf]; omega
    · have ek : k = L := by omega
      subst ek
      go_wp2
      go_ret
      exact ⟨rfl, rfl⟩

theorem noughts_blk (A : Option Addr) (L ca : Nat) (f : Nat → Int) (hL : L ≤ 4611686018427387904) (w : World) (hrow : RowAt w A L f) :
    Calls Try.prog 30 #[.slice A L ca] w fun e w' => Tells e (∀ i, i < L → f i = 0) ∧ w' = w := by
  go_enter Try.func30, Try.ntmps30
  go_wp2
  go_loop [2, 7] (fun r i => ∃ k : Nat, k ≤ L ∧ i = .int .i64 k ∧ r = .bool false ∧ ∀ j, j < k → f j = 0) (fun _ i => L - (intOf i).toNat)
  case atStart => exact ⟨0, Nat.zero_le _, rfl, rfl, fun j hj => by omega⟩
  case round =>
    obtain ⟨k, hk, rfl, rfl, hz⟩ := hrel
    by_cases hlt : k < L
    · obtain ⟨b1, o1, rfl, hc1⟩ := hrow.at hlt
      have h1 := hc1 k hlt
      have hb := hrow.2 k
      have hb0 := hb.1
      have hb1 := hb.2
      clear hc1
      by_cases h0 : f k = 0
      · have t1 : (f k != 0) = false := by rw [bne_eq_false_iff_eq]; exact h0
        have h0' : Hid (f k = 0) := h0
        clear h0
        go_wp2
        go_round
        case rel => exact ⟨k + 1, by omega, by go_num, rfl, fun j hj => by rcases Nat.lt_or_ge j k with h | h; exact hz j h; rw [show j = k by omega]; exact h0'.out⟩
        case measure => simp [intOf]; omega
      · have t1 : (f k != 0) = true := by rw [bne_iff_ne]; exact h0
        go_wp2
        go_ret
        exact ⟨Tells.no (fun h => h0 (h k hlt)), rfl⟩
    · have ek : k = L := by omega
      subst ek
      go_wp2
      go_ret
      exact ⟨Tells.yes hz, rfl⟩

theorem zero_any (A : Option Addr) (L ca : Nat) (f : Nat → Int) (hL : L ≤ 4611686018427387904) (w : World) (hrow : RowAt w A L f) :
    Calls Try.prog 24 #[.slice A L ca] w fun e w' => Tells e (∀ i, i < L → f i = 0) ∧ w' = w := by
  go_enter Try.func24, Try.ntmps24
  go_wp2
  go_loop [2, 3] (fun r i => ∃ k : Nat, k ≤ L ∧ i = .int .i64 k ∧ r = .bool false ∧ ∀ j, j < k → f j = 0) (fun _ i => L - (intOf i).toNat)
  case atStart => exact ⟨0, Nat.zero_le _, rfl, rfl, fun j hj => by omega⟩
  case round =>
    obtain ⟨k, hk, rfl, rfl, hz⟩ := hrel
    by_cases hlt : k < L
    · obtain ⟨b1, o1, rfl, hc1⟩ := hrow.at hlt
      have h1 := hc1 k hlt
      have hb := hrow.2 k
      have hb0 := hb.1
      have hb1 := hb.2
      clear hc1
      by_cases h0 : f k = 0
      · have t1 : (f k != 0) = false := by rw [bne_eq_false_iff_eq]; exact h0
        have h0' : Hid (f k = 0) := h0
        clear h0
        go_wp2
        go_round
        case rel => exact ⟨k + 1, by omega, by go_num, rfl, fun j hj => by rcases Nat.lt_or_ge j k with h | h; exact hz j h; rw [show j = k by omega]; exact h0'.out⟩
        case measure => simp [intOf]; omega
      · have t1 : (f k != 0) = true := by rw [bne_iff_ne]; exact h0
        go_wp2
        go_ret
        exact ⟨Tells.no (fun h => h0 (h k hlt)), rfl⟩
    · have ek : k = L := by omega
      subst ek
      go_wp2
      go_ret
      exact ⟨Tells.yes hz, rfl⟩
end Go.Proofs.Ytcnafcoifhdigaa
