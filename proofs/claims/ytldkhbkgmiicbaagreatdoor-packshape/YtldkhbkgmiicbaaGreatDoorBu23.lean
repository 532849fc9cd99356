/- Texts of mine, put together. -/
import Derived.Test.YtldkhbkgmiicbaaGreatDoorBu22
import Derived.Great.BuildSlice

/- Contract of the program's Put. -/
namespace Go.Proofs.YtldkhbkgmiicbaaGreatDoor
open Go.RowKit Go.Deep
set_option linter.unusedVariables false
set_option linter.unusedSimpArgs false

theorem oput_arg (n z : Int) (h : ¬ (2 ≤ z ∧ z ≤ 12) ∨ n < 0) (w : World) :
    Calls Tryz.prog 88 #[.int .i64 n, .int .i64 z] w fun e w' => e = .returned (.tuple #[.slice none 0 0, .int .i64 1]) ∧ w' = w := by
  by_cases hz : 2 ≤ z ∧ z ≤ 12
  · have hn : n < 0 := h.resolve_left (fun h => h hz)
    go_enter Tryz.func88, Tryz.ntmps88
    go_wp2_with (go_at_call 116; refine (isw_yes z hz.1 hz.2 _).mono ?_; rintro e w' ⟨rfl, hw'⟩; subst w')
    go_ret2
    exact ⟨rfl, rfl⟩
  · go_enter Tryz.func88, Tryz.ntmps88
    go_wp2_with (go_at_call 116; refine (isw_no z hz _).mono ?_; rintro e w' ⟨rfl, hw'⟩; subst w')
    go_ret2
    exact ⟨rfl, rfl⟩
theorem block_made (w : World) (M : Array Value) (n : Nat) (h1 : M.size = n) (h2 : ∀ i, i < n → M[i]? = some (.int .u8 0)) : BlockIs (w.alloc (.cells M 5)) w.heap.size n (fun _ => 0) :=
  ⟨M, heap_alloc_new _ _, h1, h2⟩
theorem plain_form {n m c : Nat} (hn : n < 8 ^ m) (hc : c < m) : Oct.formF n (m + 1) c = layF (fun _ => 0) 0 m n 8 48 c := by
  unfold Oct.formF Oct.plainF layF
  rw [if_pos (by rw [Nat.add_sub_cancel]; exact hn), if_pos (by omega), if_pos (by omega), show m + 1 - 2 - c = 0 + m - 1 - c by omega]
  omega
set_option maxHeartbeats 1000000 in
theorem oput_plain (n m : Nat) (h1 : 1 ≤ m) (h2 : m ≤ 11) (hn : n < 8 ^ m) (w : World) :
    Calls Tryz.prog 88 #[.int .i64 (n : Int), .int .i64 ((m : Int) + 1)] w fun e w' => ∃ g, e = .returned (.tuple #[.slice (some ⟨g, 0, none⟩) (m + 1) (m + 1), .int .i64 0]) ∧ BlockIs w' g (m + 1) (Oct.formF n (m + 1)) ∧ w.heap.size ≤ g ∧ Bw w w' := by
  obtain ⟨M, hM1, hM2, hM3⟩ := made_bytes (m + 1) (by omega)
  have hMB : Hid (∀ w : World, BlockIs (w.alloc (.cells M 5)) w.heap.size (m + 1) (fun _ => 0)) := fun w => block_made w M _ hM1 hM2
  have hMr : ∀ w, (Instr.makeSlice 24 (.int .i64 ((m : Int) + 1)) (.int .i64 ((m : Int) + 1))).run Tryz.prog w = .ok (.slice (some ⟨w.heap.size, 0, none⟩) (m + 1) (m + 1)) (w.alloc (.cells M 5)) := hM3
  have hn63 : n ≤ 9223372036854775807 := by have := nat_pow8_le h2; omega
  have hPb : (8 : Int) ^ m ≤ 8589934592 := pow8_le (by omega)
  obtain ⟨P, hPe⟩ : ∃ P : Int, Hid (P = (8 : Int) ^ m - 1) := ⟨_, rfl⟩
  have hP : (n : Int) ≤ P := by rw [hPe.out, pow8_cast]; omega
  have HN : Hid (n < 8 ^ m) := hn
  have n0 : (0 : Int) ≤ (n : Int) := Int.natCast_nonneg _
  have m0 : (0 : Int) ≤ (m : Int) := Int.natCast_nonneg _
  have m1 : (m : Int) ≤ 11 := by omega
  clear hM1 hM2 hM3 hn hPb
  go_enter Tryz.func88, Tryz.ntmps88
  go_wp2_with (first
    | (go_at_call 116; refine (isw_yes _ (by omega) (by omega) _).mono ?_; rintro e w' ⟨rfl, hw'⟩; subst w')
    | (go_at_call 117; refine (most_yes (m + 1) (by omega) (by omega) _).mono ?_; rintro e w' ⟨rfl, hw'⟩; subst w'; rw [Nat.add_sub_cancel, ← hPe.out])
    | (go_at_call 118; refine (lay3_any w.heap.size 0 m _ (m + 1) n (fun _ => 0) (by omega) (by omega) (by omega) hn63 _ (hMB.out w)).mono ?_; rintro e w1 ⟨rfl, ho1, hx1⟩; obtain ⟨c1, c2⟩ := ho1.cell (c := m) (by omega)))
  go_ret2
  have hw1 : Bw w w1 := ⟨hx1.os, hx1.tape, hx1.output, by have := hx1.size; rw [size_alloc] at this; omega, fun b hb => (hx1.block b (by rw [size_alloc]; omega) (by omega)).trans (heap_alloc_old w _ hb)⟩
  refine ⟨w.heap.size, rfl, ho1.set (by omega) ?_ (fun c hc hne => plain_form HN.out (by omega)), Nat.le_refl _, hw1.put (Nat.le_refl _) _ _⟩
  unfold Oct.formF Oct.plainF
  rw [if_pos (by rw [Nat.add_sub_cancel]; exact HN.out), if_neg (by omega)]; rfl
theorem wide_form {n m c : Nat} (hn : ¬ n < 8 ^ m) (h0 : 0 < c) (hc : c < m + 1) (F : Nat → Int) : Oct.formF n (m + 1) c = layF F 1 m n 256 0 c := by
  unfold Oct.formF Oct.wideF layF
  rw [if_neg (by rw [Nat.add_sub_cancel]; exact hn), if_neg (by omega), if_pos (by omega), show m + 1 - 1 - c = 1 + m - 1 - c by omega]
  omega
theorem shr_wide (n m : Nat) (hn : n ≤ 9223372036854775807) : Op.shift .shr .i64 (n : Int) .i64 (8 * (m : Int)) = pure (.int .i64 ((n / 256 ^ m : Nat) : Int)) := by
  rw [shift_shr_any _ _ _ _ (by omega)]
  congr 2
  have e8 : (8 * (m : Int)).toNat = 8 * m := by omega
  rw [e8, show IntKind.i64.bits = 64 from rfl]
  have ep : (256 : Nat) ^ m = 2 ^ (8 * m) := by rw [show (256 : Nat) = 2 ^ 8 from rfl, ← Nat.pow_mul]
  rw [ep]
  have ec : ∀ k : Nat, (n : Int) / 2 ^ k = ((n / 2 ^ k : Nat) : Int) := fun k => by rw [Int.natCast_ediv, Int.natCast_pow]; rfl
  rw [ec]
  rcases Nat.lt_or_ge (8 * m) 64 with h | h
  · rw [Nat.min_eq_left (by omega)]
  · rw [Nat.min_eq_right (by omega), Nat.div_eq_of_lt (by omega), Nat.div_eq_of_lt]
    have : 2 ^ 64 ≤ 2 ^ (8 * m) := Nat.pow_le_pow_right (by decide) h
    omega
set_option maxHeartbeats 1000000 in
theorem oput_wide (n m : Nat) (h1 : 1 ≤ m) (h2 : m ≤ 11) (hn : ¬ n < 8 ^ m) (hn63 : n ≤ 9223372036854775807) (w : World) :
    Calls Tryz.prog 88 #[.int .i64 (n : Int), .int .i64 ((m : Int) + 1)] w fun e w' => (256 ^ m ≤ n → e = .returned (.tuple #[.slice none 0 0, .int .i64 2])) ∧ (n < 256 ^ m → ∃ g, e = .returned (.tuple #[.slice (some ⟨g, 0, none⟩) (m + 1) (m + 1), .int .i64 0]) ∧ BlockIs w' g (m + 1) (Oct.formF n (m + 1)) ∧ w.heap.size ≤ g) ∧ Bw w w' := by
  obtain ⟨M, hM1, hM2, hM3⟩ := made_bytes (m + 1) (by omega)
  have hMB : Hid (∀ w : World, BlockIs (w.alloc (.cells M 5)) w.heap.size (m + 1) (fun _ => 0)) := fun w => block_made w M _ hM1 hM2
  have hMr : ∀ w, (Instr.makeSlice 24 (.int .i64 ((m : Int) + 1)) (.int .i64 ((m : Int) + 1))).run Tryz.prog w = .ok (.slice (some ⟨w.heap.size, 0, none⟩) (m + 1) (m + 1)) (w.alloc (.cells M 5)) := hM3
  obtain ⟨P, hPe⟩ : ∃ P : Int, Hid (P = (8 : Int) ^ m - 1) := ⟨_, rfl⟩
  have hP : ¬ (n : Int) ≤ P := by rw [hPe.out, pow8_cast]; omega
  have HN : Hid (¬ n < 8 ^ m) := hn
  have n0 : (0 : Int) ≤ (n : Int) := Int.natCast_nonneg _
  have m0 : (0 : Int) ≤ (m : Int) := Int.natCast_nonneg _
  have m1 : (m : Int) ≤ 11 := by omega
  have HM1 : Hid (M.size = m + 1) := hM1
  have HM2 : Hid (∀ i, i < m + 1 → M[i]? = some (.int .u8 0)) := hM2
  clear hM1 hM2 hM3 hn
  obtain ⟨D, hD⟩ : ∃ D : Nat, Hid (D = n / 256 ^ m) := ⟨_, rfl⟩
  have hsh : Op.shift .shr .i64 (n : Int) .i64 (8 * (m : Int)) = pure (.int .i64 (D : Int)) := by rw [hD.out]; exact shr_wide n m hn63
  by_cases hlong : 256 ^ m ≤ n
  · have hlong' : Hid (256 ^ m ≤ n) := hlong
    have hpos : 0 < D := by rw [hD.out]; exact Nat.div_pos hlong (Nat.pow_pos (by decide))
    have hne : ((D : Int) != 0) = true := by rw [bne_iff_ne]; omega
    clear hlong
    go_enter Tryz.func88, Tryz.ntmps88
    go_wp2_with (first
      | (go_at_call 116; refine (isw_yes _ (by omega) (by omega) _).mono ?_; rintro e w' ⟨rfl, hw'⟩; subst w')
      | (go_at_call 117; refine (most_yes (m + 1) (by omega) (by omega) _).mono ?_; rintro e w' ⟨rfl, hw'⟩; subst w'; rw [Nat.add_sub_cancel, ← hPe.out]))
    go_ret2
    exact ⟨fun _ => rfl, fun h => absurd h (Nat.not_lt.2 hlong'.out), Below.alloc (Bw.refl _) (Nat.le_refl _) _⟩
  · have hlong' : Hid (n < 256 ^ m) := Nat.lt_of_not_le hlong
    have h0 : D = 0 := by rw [hD.out]; exact Nat.div_eq_of_lt hlong'.out
    subst h0
    clear hlong
    have hB0 := hMB.out w
    obtain ⟨c1, c2⟩ := hB0.cell (c := 0) (by omega)
    have hB1 : BlockIs (w.alloc (.cells (M.setIfInBounds 0 (.int .u8 128)) 5)) w.heap.size (m + 1) (fun c => if c = 0 then 128 else 0) := ⟨_, heap_alloc_new _ _, by rw [Array.size_setIfInBounds]; exact HM1.out, fun c hc => by
      by_cases h : c = 0
      · subst h; rw [Array.getElem?_setIfInBounds_self_of_lt (by have := HM1.out; omega)]; rfl
      · rw [Array.getElem?_setIfInBounds_ne (Ne.symm h), HM2.out c hc]; dsimp only; rw [if_neg h]⟩
    have d1 : ¬ m = 0 := by omega
    go_enter Tryz.func88, Tryz.ntmps88
    go_wp2_with (first
      | (go_at_call 116; refine (isw_yes _ (by omega) (by omega) _).mono ?_; rintro e w' ⟨rfl, hw'⟩; subst w')
      | (go_at_call 117; refine (most_yes (m + 1) (by omega) (by omega) _).mono ?_; rintro e w' ⟨rfl, hw'⟩; subst w'; rw [Nat.add_sub_cancel, ← hPe.out])
      | (go_at_call 118; refine (lay8_any w.heap.size 1 m _ (m + 1) n _ (by omega) (by omega) (by omega) hn63 _ hB1).mono ?_; rintro e w1 ⟨rfl, ho1, hx1⟩))
    go_ret2
    have hx0 : Bw w (w.alloc (.cells (M.setIfInBounds 0 (.int .u8 128)) 5)) := Below.alloc (Bw.refl _) (Nat.le_refl _) _
    have hw1 : Bw w w1 := ⟨hx1.os.trans hx0.os, hx1.tape.trans hx0.tape, hx1.output.trans hx0.output, Nat.le_trans hx0.size hx1.size, fun b hb => (hx1.block b (Nat.lt_of_lt_of_le hb hx0.size) (by omega)).trans (hx0.block b hb)⟩
    refine ⟨fun h => absurd h (Nat.not_le.2 hlong'.out), fun _ => ⟨w.heap.size, rfl, ho1.congr (fun c hc => ?_), Nat.le_refl _⟩, hw1⟩
    by_cases h0 : c = 0
    · subst h0
      unfold Oct.formF Oct.wideF layF
      rw [if_neg (by rw [Nat.add_sub_cancel]; exact HN.out), if_pos rfl, if_neg (by omega)]; rfl
    · exact wide_form HN.out (by omega) hc _
/-- what Put answers -/
structure OPutSays (n z : Int) (w : World) (e : Ending) (w' : World) : Prop where
  arg : ¬ (2 ≤ z ∧ z ≤ 12) ∨ n < 0 → e = .returned (.tuple #[.slice none 0 0, .int .i64 1])
  long : 2 ≤ z → z ≤ 12 → 0 ≤ n → ¬ (n.toNat < 8 ^ (z.toNat - 1) ∨ n.toNat < 256 ^ (z.toNat - 1)) → e = .returned (.tuple #[.slice none 0 0, .int .i64 2])
  form : 2 ≤ z → z ≤ 12 → 0 ≤ n → (n.toNat < 8 ^ (z.toNat - 1) ∨ n.toNat < 256 ^ (z.toNat - 1)) → ∃ g, e = .returned (.tuple #[.slice (some ⟨g, 0, none⟩) z.toNat z.toNat, .int .i64 0]) ∧ BlockIs w' g z.toNat (Oct.formF n.toNat z.toNat) ∧ w.heap.size ≤ g
  keeps : Bw w w'
theorem oput_any (n z : Int) (hn : n ≤ 9223372036854775807) (w : World) : Calls Tryz.prog 88 #[.int .i64 n, .int .i64 z] w fun e w' => OPutSays n z w e w' := by
  by_cases h : ¬ (2 ≤ z ∧ z ≤ 12) ∨ n < 0
  · refine (oput_arg n z h w).mono ?_
    rintro e w' ⟨rfl, hw'⟩
    subst w'
    exact ⟨fun _ => rfl, fun h1 h2 h3 => absurd h (by omega), fun h1 h2 h3 => absurd h (by omega), Bw.refl _⟩
  · obtain ⟨m, rfl⟩ : ∃ m : Nat, z = (m : Int) + 1 := ⟨(z - 1).toNat, by omega⟩
    obtain ⟨k, rfl⟩ := Int.eq_ofNat_of_zero_le (show 0 ≤ n by omega)
    have ez : ((m : Int) + 1).toNat = m + 1 := by omega
    by_cases hp : k < 8 ^ m
    · refine (oput_plain k m (by omega) (by omega) hp w).mono ?_
      rintro e w' ⟨g, he, ho, hg, hw⟩
      refine ⟨fun h' => absurd h' h, fun _ _ _ h' => absurd (Or.inl ?_) h', fun _ _ _ _ => ⟨g, ?_, ?_, hg⟩, hw⟩
      · rw [ez]; exact hp
      · rw [ez]; exact he
      · rw [ez]; exact ho
    · refine (oput_wide k m (by omega) (by omega) hp (by omega) w).mono ?_
      rintro e w' ⟨ha, hb, hw⟩
      refine ⟨fun h' => absurd h' h, fun _ _ _ h' => ha ?_, fun _ _ _ h' => ?_, hw⟩
      · rcases Nat.lt_or_ge k (256 ^ m) with h3 | h3
        · exact absurd (Or.inr (by rw [ez]; exact h3)) h'
        · exact h3
      · rw [ez, Nat.add_sub_cancel] at h'
        obtain ⟨g, he, ho, hg⟩ := hb (h'.resolve_left hp)
        rw [ez]
        exact ⟨g, he, ho, hg⟩
end Go.Proofs.YtldkhbkgmiicbaaGreatDoor

/- Contracts of the program's Get and Exact. -/
namespace Go.Proofs.YtldkhbkgmiicbaaGreatDoor
open Go.RowKit Go.Deep
set_option linter.unusedVariables false
set_option linter.unusedSimpArgs false

set_option maxHeartbeats 1000000 in
theorem oget_arg (A : Option Addr) (L ca : Nat) (f : Nat → Int) (h : ¬ (2 ≤ L ∧ L ≤ 12)) (w : World) :
    Calls Tryz.prog 120 #[.slice A L ca] w fun e w' => GetSays7 L f e ∧ w' = w := by
  go_enter Tryz.func120, Tryz.ntmps120
  go_wp2_with (go_at_call 116; refine (isw_no (L : Int) (by omega) _).mono ?_; rintro e w' ⟨rfl, hw'⟩; subst w')
  try simp only [Exit.inBlock, Exit.then]
  refine bodyPost_ret (results_tmp3 rfl _ _ _) rfl ?_
  exact ⟨⟨0, 0, 1, rfl, fun _ => ⟨rfl, rfl, rfl⟩, fun h1 h2 => absurd ⟨h1, h2⟩ h, fun h1 h2 => absurd ⟨h1, h2⟩ h, fun h1 h2 => absurd ⟨h1, h2⟩ h⟩, rfl⟩

set_option maxHeartbeats 1000000 in
theorem oget_wide (b o L ca : Nat) (f : Nat → Int) (h1 : 2 ≤ L) (h2 : L ≤ 12) (h3 : f 0 = 128) (hca : L ≤ ca) (w : World) (hrow : RowAt w (some ⟨b, o, none⟩) L f) :
    Calls Tryz.prog 120 #[.slice (some ⟨b, o, none⟩) L ca] w fun e w' => GetSays7 L f e ∧ w' = w := by
  obtain ⟨b', o', e, hc⟩ := hrow.at (k := 0) (by omega)
  cases e
  have c0 := hc 0 (by omega)
  rw [h3, Nat.add_zero] at c0
  have hr1 : RowAt w (some ⟨b, o + 1, none⟩) (L - 1) (fun i => f (1 + i)) := ⟨Or.inr ⟨b, o + 1, rfl, fun i hi => by rw [Nat.add_assoc]; exact hc (1 + i) (by omega)⟩, fun i => hrow.2 _⟩
  have d1 : ¬ ca = 1 := by omega
  have l0 : (0 : Int) < (L : Int) := by omega
  have l1 : (1 : Int) ≤ (L : Int) := by omega
  clear hc
  by_cases hM : Oct.num (fun i => f (1 + i)) (L - 1) ≤ 9223372036854775807
  · have HM : Hid (Oct.num (fun i => f (1 + i)) (L - 1) ≤ 9223372036854775807) := hM
    clear hM
    go_enter Tryz.func120, Tryz.ntmps120
    go_wp2_with (first | (go_at_call 116; refine (isw_yes (L : Int) (by omega) (by omega) _).mono ?_; rintro e w' ⟨rfl, hw'⟩; subst w') | (go_at_call 145; refine (number_any _ (L - 1) _ (fun i => f (1 + i)) (by omega) _ hr1).mono ?_; rintro e w' ⟨⟨n, x, rfl, hy, hn⟩, hw'⟩; subst w'; obtain ⟨rfl, rfl⟩ := hy HM.out))
    try simp only [Exit.inBlock, Exit.then]
    refine bodyPost_ret (results_tmp3 rfl _ _ _) rfl ?_
    exact ⟨⟨_, 0, 0, rfl, fun h => absurd ⟨h1, h2⟩ h, fun _ _ _ _ => ⟨rfl, rfl, rfl⟩, fun _ _ _ h => absurd HM.out h, fun _ _ h => absurd h3 h⟩, rfl⟩
  · have HM : Hid (9223372036854775807 < Oct.num (fun i => f (1 + i)) (L - 1)) := Int.not_le.1 hM
    clear hM
    go_enter Tryz.func120, Tryz.ntmps120
    go_wp2_with (first | (go_at_call 116; refine (isw_yes (L : Int) (by omega) (by omega) _).mono ?_; rintro e w' ⟨rfl, hw'⟩; subst w') | (go_at_call 145; refine (number_any _ (L - 1) _ (fun i => f (1 + i)) (by omega) _ hr1).mono ?_; rintro e w' ⟨⟨n, x, rfl, hy, hn⟩, hw'⟩; subst w'; obtain ⟨rfl, rfl⟩ := hn (Int.not_le.2 HM.out)))
    try simp only [Exit.inBlock, Exit.then]
    refine bodyPost_ret (results_tmp3 rfl _ _ _) rfl ?_
    exact ⟨⟨0, 0, 2, rfl, fun h => absurd ⟨h1, h2⟩ h, fun _ _ _ h => absurd h (Int.not_le.2 HM.out), fun _ _ _ _ => ⟨rfl, rfl, rfl⟩, fun _ _ h => absurd h3 h⟩, rfl⟩

set_option maxHeartbeats 1000000 in
theorem oget_loose (b o L ca : Nat) (f : Nat → Int) (h1 : 2 ≤ L) (h2 : L ≤ 12) (h3 : ¬ f 0 = 128) (hca : L ≤ ca) (w : World) (hrow : RowAt w (some ⟨b, o, none⟩) L f) :
    Calls Tryz.prog 120 #[.slice (some ⟨b, o, none⟩) L ca] w fun e w' => GetSays7 L f e ∧ w' = w := by
  obtain ⟨b', o', e, hc⟩ := hrow.at (k := 0) (by omega)
  cases e
  have c0 := hc 0 (by omega)
  rw [Nat.add_zero] at c0
  have e0 : (f 0 == 128) = false := by rw [beq_eq_false_iff_ne]; exact h3
  have l0 : (0 : Int) < (L : Int) := by omega
  obtain ⟨p, hp⟩ := Oct.run_ex Oct.Blank f L 0 (Nat.zero_le _)
  obtain ⟨q, hq⟩ := Oct.run_ex Oct.Digit f L p hp.top
  obtain ⟨r, hr⟩ := Oct.run_ex Oct.Tail f L q hq.top
  have hrt := hr.top
  have HU : Hid (∀ u a, SpellSays f L u a → u = Oct.oct f p (q - p) ∧ a = (r : Int)) := by
    rintro u a ⟨p', q', r', hp', hq', hr', hu, ha⟩
    obtain rfl := Oct.run_unique hp' hp
    obtain rfl := Oct.run_unique hq' hq
    obtain rfl := Oct.run_unique hr' hr
    exact ⟨hu, ha⟩
  have HS : Hid (∀ n a er, ((r = L → n = Oct.oct f p (q - p) ∧ a = 0 ∧ er = 0) ∧ (r < L → n = 0 ∧ a = (r : Int) ∧ er = 70)) → Oct.Says L f n a er) := by
    intro n a er h
    refine ⟨fun h' => absurd ⟨h1, h2⟩ h', fun _ _ h' => absurd h' h3, fun _ _ h' => absurd h' h3, fun _ _ _ p' q' r' hp' hq' hr' => ?_⟩
    obtain rfl := Oct.run_unique hp' hp
    obtain rfl := Oct.run_unique hq' hq
    obtain rfl := Oct.run_unique hr' hr
    exact h
  clear hp hq hr hc
  obtain ⟨U, hU⟩ : ∃ U, Hid (U = Oct.oct f p (q - p)) := ⟨_, rfl⟩
  rcases Nat.lt_or_ge r L with hlt | hge
  · have t1 : (r : Int) < (L : Int) := by omega
    go_enter Tryz.func120, Tryz.ntmps120
    go_wp2_with (first | (go_at_call 116; refine (isw_yes (L : Int) (by omega) (by omega) _).mono ?_; rintro e w' ⟨rfl, hw'⟩; subst w') | (go_at_call 146; refine (spelled_any b o L ca f h2 _ hrow).mono ?_; rintro e w' ⟨⟨u, a, rfl, hs⟩, hw'⟩; subst w'; obtain ⟨hu, rfl⟩ := HU.out _ _ hs.out; rw [← hU.out] at hu; subst u; clear hs))
    try simp only [Exit.inBlock, Exit.then]
    refine bodyPost_ret (results_tmp3 rfl _ _ _) rfl ?_
    exact ⟨⟨0, r, 70, rfl, HS.out _ _ _ ⟨fun h => by omega, fun _ => ⟨rfl, rfl, rfl⟩⟩⟩, rfl⟩
  · have er : r = L := by omega
    subst er
    go_enter Tryz.func120, Tryz.ntmps120
    go_wp2_with (first | (go_at_call 116; refine (isw_yes (r : Int) (by omega) (by omega) _).mono ?_; rintro e w' ⟨rfl, hw'⟩; subst w') | (go_at_call 146; refine (spelled_any b o r ca f h2 _ hrow).mono ?_; rintro e w' ⟨⟨u, a, rfl, hs⟩, hw'⟩; subst w'; obtain ⟨hu, rfl⟩ := HU.out _ _ hs.out; rw [← hU.out] at hu; subst u; clear hs))
    try simp only [Exit.inBlock, Exit.then]
    refine bodyPost_ret (results_tmp3 rfl _ _ _) rfl ?_
    exact ⟨⟨U, 0, 0, rfl, HS.out _ _ _ ⟨fun _ => ⟨hU.out, rfl, rfl⟩, fun h => by omega⟩⟩, rfl⟩

theorem oget_still (A : Option Addr) (L ca : Nat) (f : Nat → Int) (hca : L ≤ ca) (w : World) (hrow : RowAt w A L f) :
    Calls Tryz.prog 120 #[.slice A L ca] w fun e w' => GetSays7 L f e ∧ w' = w := by
  by_cases h : 2 ≤ L ∧ L ≤ 12
  · obtain ⟨b, o, rfl, -⟩ := hrow.at (k := 0) (by omega)
    by_cases h3 : f 0 = 128
    · exact oget_wide b o L ca f h.1 h.2 h3 hca w hrow
    · exact oget_loose b o L ca f h.1 h.2 h3 hca w hrow
  · exact oget_arg A L ca f h w
theorem oget_any (A : Option Addr) (L ca : Nat) (f : Nat → Int) (hca : L ≤ ca) (w : World) (hrow : RowAt w A L f) :
    Calls Tryz.prog 120 #[.slice A L ca] w fun e w' => GetSays7 L f e ∧ Bw w w' := by
  refine (oget_still A L ca f hca w hrow).mono ?_
  rintro e w' ⟨hs, hw'⟩
  subst w'
  exact ⟨hs, Bw.refl _⟩
set_option maxHeartbeats 1000000 in
theorem oexact_any (A : Option Addr) (L ca : Nat) (f : Nat → Int) (hca : L ≤ ca) (w : World) (hrow : RowAt w A L f) (n a er : Int) (hs : Oct.Says L f n a er) :
    Calls Tryz.prog 90 #[.slice A L ca] w fun e w' => ExactSays L f n er e ∧ Bw w w' := by
  by_cases h0 : er = 0
  · obtain ⟨h1, h2, h3, h4⟩ := says_ok hrow.2 hs h0
    have eL : ((L : Int)).toNat = L := Int.toNat_natCast _
    subst h0
    by_cases hform : n.toNat < 8 ^ (L - 1) ∨ n.toNat < 256 ^ (L - 1)
    · have hform' : Hid (n.toNat < 8 ^ (L - 1) ∨ n.toNat < 256 ^ (L - 1)) := hform
      by_cases hall : ∀ i, i < L → Oct.formF n.toNat L i = f i
      · have hF : Hid (IsForm L f n.toNat) := ⟨hform, hall⟩
        have hall' : Hid (∀ i, i < L → Oct.formF n.toNat L i = f i) := hall
        clear hform hall
        go_enter Tryz.func90, Tryz.ntmps90
        go_wp2_with (first
          | (go_at_call 120; refine (oget_still A L ca f hca _ hrow).mono ?_; rintro e w' ⟨⟨n', a', er', rfl, hs'⟩, hw'⟩; subst w'; obtain ⟨rfl, rfl, rfl⟩ := Oct.says_unique hs hs'; clear hs')
          | (go_at_call 88; refine (oput_any n (L : Int) h4 _).mono ?_; rintro e w1 hp; obtain ⟨g, rfl, ho, hg⟩ := hp.form (by omega) (by omega) h3 (by rw [eL]; exact hform'.out); have hw1 := hp.keeps; clear hp; rw [eL] at ho; rw [eL])
          | (go_at_call 121; refine (equal7_any _ _ L L L ca (Oct.formF n.toNat L) f _ (ho.row (Oct.formF_bd _ _)) (hrow.keep hw1)).mono ?_; rintro e w' ⟨x, rfl, hx, hw'⟩; subst w'; obtain rfl : x = true := hx.2 ⟨rfl, hall'.out⟩))
        go_ret2
        exact ⟨⟨fun h => absurd rfl h, fun _ h => absurd hF.out h, fun _ _ => rfl⟩, hw1⟩
      · have hF : Hid (¬ IsForm L f n.toNat) := fun h => hall h.2
        have hall' : Hid (¬ ∀ i, i < L → Oct.formF n.toNat L i = f i) := hall
        clear hform hall
        go_enter Tryz.func90, Tryz.ntmps90
        go_wp2_with (first
          | (go_at_call 120; refine (oget_still A L ca f hca _ hrow).mono ?_; rintro e w' ⟨⟨n', a', er', rfl, hs'⟩, hw'⟩; subst w'; obtain ⟨rfl, rfl, rfl⟩ := Oct.says_unique hs hs'; clear hs')
          | (go_at_call 88; refine (oput_any n (L : Int) h4 _).mono ?_; rintro e w1 hp; obtain ⟨g, rfl, ho, hg⟩ := hp.form (by omega) (by omega) h3 (by rw [eL]; exact hform'.out); have hw1 := hp.keeps; clear hp; rw [eL] at ho; rw [eL])
          | (go_at_call 121; refine (equal7_any _ _ L L L ca (Oct.formF n.toNat L) f _ (ho.row (Oct.formF_bd _ _)) (hrow.keep hw1)).mono ?_; rintro e w' ⟨x, rfl, hx, hw'⟩; subst w'; obtain rfl : x = false := by (cases x with | false => rfl | true => exact absurd (hx.1 rfl).2 hall'.out)))
        go_ret2
        exact ⟨⟨fun h => absurd rfl h, fun _ _ => rfl, fun _ h => absurd h hF.out⟩, hw1⟩
    · have hF : Hid (¬ IsForm L f n.toNat) := fun h => hform h.1
      have hform' : Hid (¬ (n.toNat < 8 ^ (L - 1) ∨ n.toNat < 256 ^ (L - 1))) := hform
      clear hform
      go_enter Tryz.func90, Tryz.ntmps90
      go_wp2_with (first
        | (go_at_call 120; refine (oget_still A L ca f hca _ hrow).mono ?_; rintro e w' ⟨⟨n', a', er', rfl, hs'⟩, hw'⟩; subst w'; obtain ⟨rfl, rfl, rfl⟩ := Oct.says_unique hs hs'; clear hs')
        | (go_at_call 88; refine (oput_any n (L : Int) h4 _).mono ?_; rintro e w1 hp; obtain rfl := hp.long (by omega) (by omega) h3 (by rw [eL]; exact hform'.out); have hw1 := hp.keeps; clear hp)
        | (go_at_call 121; refine (equal7_any _ _ 0 L 0 ca (fun _ => 0) f _ (row_none _) (hrow.keep hw1)).mono ?_; rintro e w' ⟨x, rfl, hx, hw'⟩; subst w'; obtain rfl : x = false := by (cases x with | false => rfl | true => exact absurd (hx.1 rfl).1 (by omega))))
      go_ret2
      exact ⟨⟨fun h => absurd rfl h, fun _ _ => rfl, fun _ h => absurd h hF.out⟩, hw1⟩
  · have e1 : (er != 0) = true := by rw [bne_iff_ne]; exact h0
    go_enter Tryz.func90, Tryz.ntmps90
    go_wp2_with (go_at_call 120; refine (oget_still A L ca f hca _ hrow).mono ?_; rintro e w' ⟨⟨n', a', er', rfl, hs'⟩, hw'⟩; subst w'; obtain ⟨rfl, rfl, rfl⟩ := Oct.says_unique hs hs'; clear hs')
    go_ret2
    exact ⟨⟨fun _ => rfl, fun h => absurd h h0, fun h => absurd h h0⟩, Bw.refl _⟩
end Go.Proofs.YtldkhbkgmiicbaaGreatDoor

/- Written rows of bytes; the contract of the statements' own awake; Put with and without a form. -/
namespace Go.Proofs.YtldkhbkgmiicbaaGreatDoor
open Go.RowKit Go.Deep
set_option linter.unusedVariables false
set_option linter.unusedSimpArgs false

namespace Oct
/-- a written row of bytes -/
def lit (l : List Nat) (i : Nat) : Int := ((l.getD i 0 : Nat) : Int)
theorem lit_bd {l : List Nat} (h : ∀ x ∈ l, x < 256) (i : Nat) : 0 ≤ lit l i ∧ lit l i < 256 := by
  unfold lit
  rcases Nat.lt_or_ge i l.length with hi | hi
  · have := h l[i] (List.getElem_mem hi)
    rw [List.getD_eq_getElem?_getD, List.getElem?_eq_getElem hi]
    simp only [Option.getD_some]
    omega
  · rw [List.getD_eq_getElem?_getD, List.getElem?_eq_none hi]
    decide
theorem run_mk {P : Int → Prop} {f : Nat → Int} {L p q : Nat} (h1 : p ≤ q) (h2 : q ≤ L) (h3 : ∀ i, i < q → p ≤ i → P (f i)) (h4 : q < L → ¬ P (f q)) : Run P f L p q := ⟨h1, h2, fun i a b => h3 i b a, h4⟩
theorem says_of {L : Nat} {f : Nat → Int} {p q r : Nat} {n a e : Int} (h1 : 2 ≤ L) (h2 : L ≤ 12) (h0 : ¬ f 0 = 128) (hp : Run Blank f L 0 p) (hq : Run Digit f L p q) (hr : Run Tail f L q r)
    (h : (r = L → n = oct f p (q - p) ∧ a = 0 ∧ e = 0) ∧ (r < L → n = 0 ∧ a = (r : Int) ∧ e = 70)) : Says L f n a e := by
  refine ⟨fun h' => absurd ⟨h1, h2⟩ h', fun _ _ h' => absurd h' h0, fun _ _ h' => absurd h' h0, fun _ _ _ p' q' r' hp' hq' hr' => ?_⟩
  obtain rfl := run_unique hp' hp
  obtain rfl := run_unique hq' hq
  obtain rfl := run_unique hr' hr
  exact h
/-- there is a form -/
def Has (n z : Int) : Prop := 2 ≤ z ∧ z ≤ 12 ∧ 0 ≤ n ∧ (n.toNat < 8 ^ (z.toNat - 1) ∨ n.toNat < 256 ^ (z.toNat - 1))
/-- Put's error where there is none -/
def errP (n z : Int) : Int := if (2 ≤ z ∧ z ≤ 12) ∧ 0 ≤ n then 2 else 1
theorem errP_ne (n z : Int) : (errP n z != 0) = true ∧ (errP n z == 0) = false := by unfold errP; split <;> decide
theorem errP_bd (n z : Int) : 1 ≤ errP n z ∧ errP n z ≤ 2 := by unfold errP; split <;> decide
end Oct

theorem oput_yes (n : Int) (W : Nat) (hn : n ≤ 9223372036854775807) (h : Oct.Has n (W : Int)) (w : World) : Calls Tryz.prog 88 #[.int .i64 n, .int .i64 (W : Int)] w fun e w' =>
    ∃ g, e = .returned (.tuple #[.slice (some ⟨g, 0, none⟩) W W, .int .i64 0]) ∧ BlockIs w' g W (Oct.formF n.toNat W) ∧ w.heap.size ≤ g ∧ Bw w w' := by
  refine (oput_any n (W : Int) hn w).mono ?_
  rintro e w' hp
  obtain ⟨g, he, ho, hg⟩ := hp.form h.1 h.2.1 h.2.2.1 h.2.2.2
  rw [Int.toNat_natCast] at he ho
  exact ⟨g, he, ho, hg, hp.keeps⟩
theorem oput_no (n z : Int) (hn : n ≤ 9223372036854775807) (h : ¬ Oct.Has n z) (w : World) : Calls Tryz.prog 88 #[.int .i64 n, .int .i64 z] w fun e w' =>
    e = .returned (.tuple #[.slice none 0 0, .int .i64 (Oct.errP n z)]) ∧ Bw w w' := by
  refine (oput_any n z hn w).mono ?_
  rintro e w' hp
  refine ⟨?_, hp.keeps⟩
  unfold Oct.errP
  by_cases h1 : (2 ≤ z ∧ z ≤ 12) ∧ 0 ≤ n
  · rw [if_pos h1]
    exact hp.long h1.1.1 h1.1.2 h1.2 (fun h2 => h ⟨h1.1.1, h1.1.2, h1.2, h2⟩)
  · rw [if_neg h1]
    exact hp.arg (by omega)

theorem says_644 : Oct.Says 5 (Oct.lit [32, 54, 52, 52, 0]) 420 0 0 :=
  Oct.says_of (p := 1) (q := 4) (r := 5) (by decide) (by decide) (by decide)
    (Oct.run_mk (by decide) (by decide) (by unfold Oct.Blank; decide) (by unfold Oct.Blank; decide))
    (Oct.run_mk (by decide) (by decide) (by unfold Oct.Digit; decide) (by unfold Oct.Digit; decide))
    (Oct.run_mk (by decide) (by decide) (by unfold Oct.Tail; decide) (by unfold Oct.Tail; decide))
    ⟨fun _ => ⟨by decide, rfl, rfl⟩, fun h => by omega⟩
theorem says_7 : Oct.Says 2 (Oct.lit [55, 0]) 7 0 0 :=
  Oct.says_of (p := 0) (q := 1) (r := 2) (by decide) (by decide) (by decide)
    (Oct.run_mk (by decide) (by decide) (by unfold Oct.Blank; decide) (by unfold Oct.Blank; decide))
    (Oct.run_mk (by decide) (by decide) (by unfold Oct.Digit; decide) (by unfold Oct.Digit; decide))
    (Oct.run_mk (by decide) (by decide) (by unfold Oct.Tail; decide) (by unfold Oct.Tail; decide))
    ⟨fun _ => ⟨by decide, rfl, rfl⟩, fun h => by omega⟩
theorem form_7 : IsForm 2 (Oct.lit [55, 0]) 7 := ⟨by decide, by unfold Oct.formF; decide⟩
theorem form_420 : ∀ i, i < 8 → Oct.formF 420 8 i = Oct.lit [48, 48, 48, 48, 54, 52, 52, 0] i := by unfold Oct.formF; decide
theorem has_420 : Oct.Has 420 ((8 : Nat) : Int) := by unfold Oct.Has; decide
/-- a written row that has just been laid -/
theorem row_lit (W : World) (l : List Nat) (cs : Array Value) (n : Nat) (hb : ∀ x ∈ l, x < 256) (h : cs.toList = l.map (fun x : Nat => Value.int .u8 (x : Int))) (hn : n ≤ l.length) : RowAt (W.alloc (.cells cs 5)) (some ⟨W.heap.size, 0, none⟩) n (Oct.lit l) :=
  row_new W cs _ n (Oct.lit l) (Oct.lit_bd hb) (fun i hi => by
    have hi' : i < l.length := by omega
    rw [← Array.getElem?_toList, h, List.getElem?_map, List.getElem?_eq_getElem hi']
    unfold Oct.lit
    rw [List.getD_eq_getElem?_getD, List.getElem?_eq_getElem hi']
    rfl)
theorem bw_alloc7 {w w' : World} (h : Bw w w') (o : Obj) : Bw w (w'.alloc o) := Below.alloc h h.size o

/-- a written row of bytes, behind a guard that holds -/
theorem wpList_lit7 {ops : Array Oper} {rest : List Oper} {o : Oper} {a : Act} {w : World} {Q : Exit → Act → World → Prop} (hgd : Region.wanted o (yielded ops a.tmps) = true) (len : Nat) (parts : Array (Nat × Operand)) (ho : o.op = .buildSlice 24 len parts)
    (zs : List Int) (hlen : len = zs.length) (hpos : 0 < len) (hsmall : len ≤ 2 ^ 24)
    (hparts : parts.toList = (zs.zipIdx 0).map fun x => (x.2, Operand.const (Value.int .u8 x.1)))
    (h : wpList Tryz.prog ops Q rest (a.put o.dst (.slice (some ⟨w.heap.size, 0, none⟩) len len)) (w.alloc (.cells (zs.map (Value.int .u8)).toArray 5))) : wpList Tryz.prog ops Q (o :: rest) a w := by
  obtain ⟨i0, hi0, hz0, hz1, hz2⟩ := info_parts info_u8
  refine wpList_step fun _ hK => ?_
  rw [if_pos hgd]
  refine wp_buildSlice 24 5 len parts ho _ i0 _ Tryz.underlying24 hi0 hz0 (by rw [hz1]; omega) (by rw [hz1]; omega) ?_ (hK _ _ h)
  rw [parts_eval a parts .u8 zs hparts, hz1]
  exact Great.fill_flat _ _ (fun v hv => by obtain ⟨n, _, rfl⟩ := List.mem_map.1 hv; rfl) (by simp [hlen])
end Go.Proofs.YtldkhbkgmiicbaaGreatDoor
