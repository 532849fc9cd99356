/- Contract of crc's Join. -/
import Derived.Test.YtndammedmnkpbaaK7
namespace Go.Proofs.Ytndammedmnkpbaa
open Go.RowKit Go.Deep

theorem mod_pow_succ (N j : Nat) : N % 2 ^ (j + 1) = N % 2 ^ j + N / 2 ^ j % 2 * 2 ^ j := by
  rw [Nat.pow_succ, Nat.mod_mul, Nat.mul_comm]
theorem join_yes {N j a : Nat} (h : N / 2 ^ j % 2 = 1) : Crc.steps (8 * 2 ^ j) (Crc.steps (8 * (N % 2 ^ j)) a) = Crc.steps (8 * (N % 2 ^ (j + 1))) a := by
  rw [mod_pow_succ, h, Nat.one_mul, Nat.mul_add, Crc.steps_add]
theorem join_no {N j : Nat} (h : N / 2 ^ j % 2 = 0) : N % 2 ^ (j + 1) = N % 2 ^ j := by
  rw [mod_pow_succ, h, Nat.zero_mul, Nat.add_zero]

theorem i64_and1 (n : Int) : bits .and .i64 n 1 = n % 2 := by
  unfold bits
  show IntKind.i64.wrap ((BitVec.ofInt 64 n &&& BitVec.ofInt 64 1).toNat : Int) = _
  rw [BitVec.toNat_and, show (BitVec.ofInt 64 1).toNat = 1 from rfl, Nat.and_one_is_mod, BitVec.toNat_ofInt, IntKind.wrap_i64]
  omega
/-- what one round of Join makes of what is left of n, and of the first sum -/
theorem join_round {N j a q : Nat} {m : Int} (hm : m.toNat = N / 2 ^ j) (hpos : 0 < m) (hq : q = Crc.steps (8 * (N % 2 ^ j)) a) :
    (m / 2).toNat = N / 2 ^ (j + 1) ∧ ((bits .and .i64 m 1 == 1) = true → Crc.steps (8 * 2 ^ j) q = Crc.steps (8 * (N % 2 ^ (j + 1))) a) ∧ ((bits .and .i64 m 1 == 1) = false → q = Crc.steps (8 * (N % 2 ^ (j + 1))) a) := by
  rw [i64_and1]
  refine ⟨?_, fun h => ?_, fun h => ?_⟩
  · rw [Nat.pow_succ, ← Nat.div_div_eq_div_mul, ← hm]; omega
  · rw [beq_iff_eq] at h
    rw [hq]; exact join_yes (by rw [← hm]; omega)
  · rw [beq_eq_false_iff_ne] at h
    rw [hq, join_no (by rw [← hm]; omega)]

set_option maxRecDepth 100000 in
theorem join_gen (T Z : Array Value) (hC : partsSaid T) (hz : ∀ w, (zeroValue 37).run Try.prog w = .ok (.agg Z) w) (hZ : Z.size = T.size) (hi : (Try.prog.info? 37).map (·.size) = some T.size) (hall : Hid (T.all (·.oneCell') = true))
    (hT : Hid (∀ j, j < 256 → T[j]? = some (.int .u32 ((Crc.mv j : Nat) : Int))))
    (a b : Nat) (n : Int) (ha : a < 4294967296) (hb : b < 4294967296) (hn1 : n ≤ 9223372036854775807) (w : World) :
    Calls Try.prog 18 #[.int .u32 (a : Int), .int .u32 (b : Int), .int .i64 n] w fun e w' => e = .returned (.int .u32 (Crc.join a b n.toNat : Nat)) ∧ Bw w w' := by
  go_enter Try.func18, Try.ntmps18
  go_wp2_with (first | (go_at_call 20; refine (hC _).mono ?_; rintro e w1 ⟨rfl, hg⟩) | (refine wpList_store_row rfl 37 _ _ rfl _ T rfl rfl 37 Z (heap_alloc_new _ _) hi hZ hall ?_; rw [setRow_alloc_new]))
  have hbw1 : Bw w (w1.alloc (.cells T 37)) := Below.alloc hg hg.size _
  obtain ⟨N, hN⟩ : ∃ N, Hid (N = n.toNat) := ⟨_, rfl⟩
  go_loopw [0, 2, 8] (fun x i F wr => ∃ j : Nat, x = .int .u32 (Crc.steps (8 * (N % 2 ^ j)) a : Nat) ∧ (∃ m : Int, i = .int .i64 m ∧ m ≤ 9223372036854775807 ∧ m.toNat = N / 2 ^ j) ∧ FnN wr F (8 * 2 ^ j) ∧ Bw w wr) (fun _ i _ _ => (intOf i).toNat)
  case atStart => exact ⟨0, by rw [Nat.pow_zero, Nat.mod_one]; rfl, ⟨n, rfl, hn1, by rw [Nat.pow_zero, Nat.div_one, hN.out]⟩, ⟨_, T, Or.inl ⟨rfl, rfl, heap_alloc_new _ _, hT.out⟩⟩, hbw1⟩
  case round =>
    obtain ⟨j, rfl, ⟨m, rfl, hm1, hm⟩, hF, hw⟩ := hrel
    have hm' : Hid (m.toNat = N / 2 ^ j) := hm
    have hst := Crc.steps_lt (8 * (N % 2 ^ j)) ha
    obtain ⟨q, hq⟩ : ∃ q, Hid (q = Crc.steps (8 * (N % 2 ^ j)) a) := ⟨_, rfl⟩
    rw [← hq.out] at hst ⊢
    clear hm
    by_cases hpos : 0 < m
    · obtain ⟨g, cf, hFw⟩ := id hF
      rcases hFw with ⟨rfl, h8, hg2, hcf⟩ | ⟨rfl, hg2, hsf, hcf⟩
      · have h8' : Hid (8 * 2 ^ j = 8) := h8
        clear h8
        go_wp2_with (first
          | (go_at_call 23; refine (fnA_int _ g (by omega) (by omega) _ cf hg2 hcf).mono ?_; rintro e w' ⟨rfl, hw'⟩; subst w')
          | (go_at_call 24; refine (twice_any _ _ _ hF).mono ?_; rintro e w2 ⟨F2, rfl, hF2, hw2⟩))
        all_goals
          rename_i hbit
          obtain ⟨r1, r2, r3⟩ := join_round hm'.out hpos hq.out
          go_roundw
          case rel => exact ⟨j + 1, by first | rw [← r2 hbit, h8'.out] | rw [← r3 hbit], ⟨_, rfl, by omega, r1⟩, by rw [Nat.pow_succ, Nat.mul_comm (2 ^ j) 2, Nat.mul_left_comm]; exact hF2, hw.trans hw2⟩
          case measure => simp [intOf]; omega
      · go_wp2_with (first
          | (go_at_call 27; refine (fnB_int _ g _ (by omega) (by omega) _ cf hg2 hsf hcf).mono ?_; rintro e w' ⟨rfl, hw'⟩; subst w')
          | (go_at_call 24; refine (twice_any _ _ _ hF).mono ?_; rintro e w2 ⟨F2, rfl, hF2, hw2⟩))
        all_goals
          rename_i hbit
          obtain ⟨r1, r2, r3⟩ := join_round hm'.out hpos hq.out
          go_roundw
          case rel => exact ⟨j + 1, by first | rw [← r2 hbit] | rw [← r3 hbit], ⟨_, rfl, by omega, r1⟩, by rw [Nat.pow_succ, Nat.mul_comm (2 ^ j) 2, Nat.mul_left_comm]; exact hF2, hw.trans hw2⟩
          case measure => simp [intOf]; omega
    · go_wp2
      go_ret
      have h0 : N / 2 ^ j = 0 := by rw [← hm'.out]; omega
      have h1 : N % 2 ^ j = N := by
        rcases Nat.div_eq_zero_iff.1 h0 with h | h
        · exact absurd h (Nat.ne_of_gt (Nat.two_pow_pos j))
        · exact Nat.mod_eq_of_lt h
      refine ⟨ret_int ?_, hw⟩
      rw [u32_xor_nat _ _ hst hb, hq.out, h1, hN.out]; rfl

theorem join_any (a b : Nat) (n : Int) (ha : a < 4294967296) (hb : b < 4294967296) (hn1 : n ≤ 9223372036854775807) (w : World) :
    Calls Try.prog 18 #[.int .u32 (a : Int), .int .u32 (b : Int), .int .i64 n] w fun e w' => e = .returned (.int .u32 (Crc.join a b n.toNat : Nat)) ∧ Bw w w' :=
  join_gen (tabP 256) zerosP parts_said zeroP (by rw [tabP_size]; exact tabP_size 0) (by rw [tabP_size]; kernel_rfl) (tabP_all 256) tabP_mv a b n ha hb hn1 w

end Go.Proofs.Ytndammedmnkpbaa
