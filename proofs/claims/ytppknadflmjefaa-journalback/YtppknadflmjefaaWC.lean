/- Layer 15: the program's small functions, and the document's. -/
import Derived.Test.YtppknadflmjefaaWB
namespace Go.Proofs.Ytppknadflmjefaa
open Go.RowKit Go.Deep Go.Maps
set_option linter.unusedVariables false
set_option linter.unusedSimpArgs false

theorem shl_or15 {n c : Nat} (hn : n * 256 + c < 18446744073709551616) (hc : c < 256) : bits .or .u64 (IntKind.u64.wrap ((n : Int) * 256)) (c : Int) = ((n * 256 + c : Nat) : Int) := by
  have e : IntKind.u64.wrap ((n : Int) * 256) = ((n * 256 : Nat) : Int) := by
    rw [IntKind.wrap_u64, Int.emod_eq_of_lt (by omega) (by omega)]; simp
  rw [e, u64_or_nat (n * 256) c (Nat.lt_of_le_of_lt (Nat.le_add_right _ _) hn) (Nat.lt_trans hc (by decide))]
  congr 1
  have h := Nat.shiftLeft_add_eq_or_of_lt (i := 8) (b := c) (by omega) n
  rw [Nat.shiftLeft_eq] at h
  exact h.symm
theorem num_or15 {f : Nat → Int} (hf : ∀ i, 0 ≤ f i ∧ f i < 256) {k : Nat} (hk : k < 8) : bits .or .u64 (IntKind.u64.wrap ((Jl.num f k : Int) * 256)) (f k) = ((Jl.num f (k + 1) : Nat) : Int) := by
  have h1 := hf k
  have h2 := Jl.num_lt hf (k + 1)
  have h3 : 256 ^ (k + 1) ≤ 256 ^ 8 := Nat.pow_le_pow_right (by decide) (by omega)
  have h4 : (256 : Nat) ^ 8 = 18446744073709551616 := by decide
  rw [Jl.num] at h2
  have := shl_or15 (n := Jl.num f k) (c := (f k).toNat) (by omega) (by omega)
  rw [show (((f k).toNat : Nat) : Int) = f k by omega] at this
  rw [this, Jl.num]
theorem num_lt15 {f : Nat → Int} (hf : ∀ i, 0 ≤ f i ∧ f i < 256) {k : Nat} (hk : k ≤ 8) : Jl.num f k < 18446744073709551616 := by
  have h2 := Jl.num_lt hf k
  have h3 : 256 ^ k ≤ 256 ^ 8 := Nat.pow_le_pow_right (by decide) (by omega)
  have h4 : (256 : Nat) ^ 8 = 18446744073709551616 := by decide
  omega
theorem jnumber_any (A : Option Addr) (L ca : Nat) (f : Nat → Int) (hL : L ≤ 8) (w : World) (hrow : RowAt w A L f) :
    Calls Try.prog 82 #[.slice A L ca] w fun e w' => e = .returned (.int .u64 (Jl.num f L : Nat)) ∧ w' = w := by
  go_enter Try.func82, Try.ntmps82
  go_wp2
  go_loop [3, 8] (fun r i => ∃ k : Nat, k ≤ L ∧ i = .int .i64 k ∧ r = .int .u64 (Jl.num f k : Nat)) (fun _ i => L - (intOf i).toNat)
  case atStart => exact ⟨0, Nat.zero_le _, rfl, rfl⟩
  case round =>
    obtain ⟨k, hk, rfl, rfl⟩ := hrel
    by_cases hlt : k < L
    · obtain ⟨b1, o1, rfl, hc1⟩ := hrow.at hlt
      have h1 := hc1 k hlt
      have h2 := hrow.2 k
      have h2a := h2.1
      have h2b := h2.2
      have h3 := num_lt15 hrow.2 (k := k) (by omega)
      have h7 := num_or15 (k := k) hrow.2 (by omega)
      clear hc1
      go_wp2
      go_round
      case rel => exact ⟨k + 1, by omega, by go_num, by rw [← h7]⟩
      case measure => simp [intOf]; omega
    · have ek : k = L := by omega
      subst ek
      go_wp2
      go_ret
      exact ⟨rfl, rfl⟩
theorem rjnumber_any (A : Option Addr) (L ca : Nat) (f : Nat → Int) (hL : L ≤ 8) (w : World) (hrow : RowAt w A L f) :
    Calls Try.prog 76 #[.slice A L ca] w fun e w' => e = .returned (.int .u64 (Jl.num f L : Nat)) ∧ w' = w := by
  go_enter Try.func76, Try.ntmps76
  go_wp2
  go_loop [3, 4] (fun r i => ∃ k : Nat, k ≤ L ∧ i = .int .i64 k ∧ r = .int .u64 (Jl.num f k : Nat)) (fun _ i => L - (intOf i).toNat)
  case atStart => exact ⟨0, Nat.zero_le _, rfl, rfl⟩
  case round =>
    obtain ⟨k, hk, rfl, rfl⟩ := hrel
    by_cases hlt : k < L
    · obtain ⟨b1, o1, rfl, hc1⟩ := hrow.at hlt
      have h1 := hc1 k hlt
      have h2 := hrow.2 k
      have h2a := h2.1
      have h2b := h2.2
      have h3 := num_lt15 hrow.2 (k := k) (by omega)
      have h7 := num_or15 (k := k) hrow.2 (by omega)
      clear hc1
      go_wp2
      go_round
      case rel => exact ⟨k + 1, by omega, by go_num, by rw [← h7]⟩
      case measure => simp [intOf]; omega
    · have ek : k = L := by omega
      subst ek
      go_wp2
      go_ret
      exact ⟨rfl, rfl⟩
theorem keep_two15 {w2 u v : World} {g : Nat} {a b : Value} (h : u.cell? ⟨g, 0, none⟩ = some a ∧ u.cell? ⟨g, 1, none⟩ = some b ∧ Bw w2 u) (k : Bw u v) : v.cell? ⟨g, 0, none⟩ = some a ∧ v.cell? ⟨g, 1, none⟩ = some b ∧ Bw w2 v :=
  ⟨(k.cell (p := ⟨g, 0, none⟩) (block_lt_of_cell h.1)).trans h.1, (k.cell (p := ⟨g, 1, none⟩) (block_lt_of_cell h.2.1)).trans h.2.1, h.2.2.trans k⟩
theorem areaof_any (x : Int) (rc : Nat) (h0 : 4 ≤ rc) (h1 : rc ≤ 65536) (w : World) :
    Calls Try.prog 75 #[.agg #[.int .i64 x, .int .i64 (rc : Int)]] w fun e w' => e = .returned (.int .i64 ((Jl.half rc : Nat) : Int)) ∧ Bw w w' := by
  have e1 : ((rc : Int) - 2) / 2 = ((Jl.half rc : Nat) : Int) := by unfold Jl.half; omega
  go_enter Try.func75, Try.ntmps75
  go_wp2
  go_ret
  exact ⟨ret_int e1, Below.alloc (Bw.refl _) (Nat.le_refl _) _⟩
theorem half_le (rc : Nat) (h1 : rc ≤ 65536) : Jl.half rc ≤ 32767 := by unfold Jl.half; omega
theorem roomof_any (x : Int) (rc : Nat) (h0 : 4 ≤ rc) (h1 : rc ≤ 65536) (w : World) :
    Calls Try.prog 54 #[.agg #[.int .i64 x, .int .i64 (rc : Int)]] w fun e w' => e = .returned (.int .i64 ((Jl.room rc : Nat) : Int)) ∧ Bw w w' := by
  have e1 : ((Jl.half rc : Nat) : Int) * 64 = ((Jl.room rc : Nat) : Int) := by unfold Jl.room; omega
  have hl := half_le rc h1
  have hb : Bw w (w.alloc (.cells #[.int .i64 x, .int .i64 (rc : Int)] 23)) := Below.alloc (Bw.refl _) (Nat.le_refl _) _
  go_enter Try.func54, Try.ntmps54
  go_wp2_with (go_at_call 75; refine (areaof_any x rc h0 h1 _).mono ?_; rintro e w1 ⟨rfl, hb1⟩)
  go_ret
  exact ⟨ret_int e1, hb.trans hb1⟩
theorem startof_any (r0 rc area : Nat) (h0 : 4 ≤ rc) (h1 : rc ≤ 65536) (h2 : r0 ≤ 65536) (ha : area ≤ 1) (w : World) :
    Calls Try.prog 66 #[.agg #[.int .i64 (r0 : Int), .int .i64 (rc : Int)], .int .i64 (area : Int)] w fun e w' => e = .returned (.int .i64 ((Jl.start r0 rc area : Nat) : Int)) ∧ Bw w w' := by
  have hl := half_le rc h1
  have e1 : (r0 : Int) + 2 + (area : Int) * ((Jl.half rc : Nat) : Int) = ((Jl.start r0 rc area : Nat) : Int) := by unfold Jl.start; rcases Nat.le_one_iff_eq_zero_or_eq_one.1 ha with rfl | rfl <;> simp
  obtain ⟨p, hp⟩ : ∃ p : Nat, area * Jl.half rc = p := ⟨_, rfl⟩
  have hp' : (area : Int) * ((Jl.half rc : Nat) : Int) = (p : Int) := by rw [← hp]; simp
  have hpb : p ≤ 32767 := by rw [← hp]; rcases Nat.le_one_iff_eq_zero_or_eq_one.1 ha with rfl | rfl <;> omega
  have hb : Bw w (w.alloc (.cells #[.int .i64 (r0 : Int), .int .i64 (rc : Int)] 23)) := Below.alloc (Bw.refl _) (Nat.le_refl _) _
  rw [hp'] at e1
  clear hp
  obtain ⟨z, hz⟩ : ∃ z, Hid (w.heap.size = z) := ⟨_, rfl⟩
  have c0 : (w.alloc (.cells #[.int .i64 (r0 : Int), .int .i64 (rc : Int)] 23)).cell? ⟨z, 0, none⟩ = some (.int .i64 (r0 : Int)) := by rw [← hz.out]; exact cell_of_row _ _ 0 _ _ _ (heap_alloc_new _ _)
  have c1 : (w.alloc (.cells #[.int .i64 (r0 : Int), .int .i64 (rc : Int)] 23)).cell? ⟨z, 1, none⟩ = some (.int .i64 (rc : Int)) := by rw [← hz.out]; exact cell_of_row _ _ 1 _ _ _ (heap_alloc_new _ _)
  obtain ⟨W1, hW1⟩ : ∃ W, Hid (w.alloc (.cells #[.int .i64 (r0 : Int), .int .i64 (rc : Int)] 23) = W) := ⟨_, rfl⟩
  rw [hW1.out] at c0 c1 hb
  go_enter Try.func66, Try.ntmps66
  go_wp2_with (rw [hW1.out, hz.out])
  go_region_held3 (fun w' => w'.cell? ⟨z, 0, none⟩ = some (.int .i64 (r0 : Int)) ∧ w'.cell? ⟨z, 1, none⟩ = some (.int .i64 (rc : Int)) ∧ Bw W1 w')
    (first | exact ⟨c0, c1, Below.drew (Bw.refl _)⟩ | assumption | (exact keep_two15 (by assumption) (by assumption)))
    (first | (go_at_call 75; refine (areaof_any _ rc h0 h1 _).mono ?_; rintro e w3 ⟨rfl, hw3⟩))
  rename_i hSe
  have hw4 := hSe.2.2
  go_wp2
  go_ret
  exact ⟨ret_int (by simp only [IntKind.wrap_i64]; omega), hb.trans hw4⟩
theorem jsectors_any (n : Nat) (h : n ≤ 1099511627776) (w : World) :
    Calls Try.prog 67 #[.int .i64 (n : Int)] w fun e w' => e = .returned (.int .i64 ((Jl.secs n : Nat) : Int)) ∧ w' = w := by
  have e1 : ((n : Int) + 64 - 1) / 64 = ((Jl.secs n : Nat) : Int) := by unfold Jl.secs; omega
  go_enter Try.func67, Try.ntmps67
  go_wp2
  go_ret
  exact ⟨ret_int e1, rfl⟩
end Go.Proofs.Ytppknadflmjefaa
