/- The contract of the document's own Get, of layer 7. -/
import Derived.Test.YtkoacehgfmflmaaO2
namespace Go.Proofs.Ytkoacehgfmflmaa
open Go.RowKit Go.Deep
set_option linter.unusedVariables false
set_option linter.unusedSimpArgs false

/-- what Get answers -/
def GetSays (L : Nat) (f : Nat → Int) (e : Ending) : Prop := ∃ n a er, e = .returned (.tuple #[.int .i64 n, .int .i64 a, .int .i64 er]) ∧ Oct.Says L f n a er

set_option maxHeartbeats 1000000 in
theorem rget_arg (A : Option Addr) (L ca : Nat) (f : Nat → Int) (h : ¬ (2 ≤ L ∧ L ≤ 12)) (w : World) :
    Calls Try.prog 47 #[.slice A L ca] w fun e w' => GetSays L f e ∧ w' = w := by
  go_enter Try.func47, Try.ntmps47
  go_wp2_with (go_at_call 53; refine (field_no (L : Int) (by omega) _).mono ?_; rintro e w' ⟨rfl, hw'⟩; subst w')
  try simp only [Exit.inBlock, Exit.then]
  refine bodyPost_ret (results_tmp3 rfl _ _ _) rfl ?_
  exact ⟨⟨0, 0, 1, rfl, fun _ => ⟨rfl, rfl, rfl⟩, fun h1 h2 => absurd ⟨h1, h2⟩ h, fun h1 h2 => absurd ⟨h1, h2⟩ h, fun h1 h2 => absurd ⟨h1, h2⟩ h⟩, rfl⟩

set_option maxHeartbeats 1000000 in
theorem rget_wide (b o L ca : Nat) (f : Nat → Int) (h1 : 2 ≤ L) (h2 : L ≤ 12) (h3 : f 0 = 128) (hca : L ≤ ca) (w : World) (hrow : RowAt w (some ⟨b, o, none⟩) L f) :
    Calls Try.prog 47 #[.slice (some ⟨b, o, none⟩) L ca] w fun e w' => GetSays L f e ∧ w' = w := by
  obtain ⟨b', o', e, hc⟩ := hrow.at (k := 0) (by omega)
  cases e
  have c0 := hc 0 (by omega)
  rw [h3, Nat.add_zero] at c0
  have hr1 : RowAt w (some ⟨b, o + 1, none⟩) (L - 1) (fun i => f (1 + i)) := ⟨Or.inr ⟨b, o + 1, rfl, fun i hi => by rw [Nat.add_assoc]; exact hc (1 + i) (by omega)⟩, fun i => hrow.2 _⟩
  have d1 : ¬ ca = 1 := by omega
  have l0 : (0 : Int) < (L : Int) := by omega
  have l1 : (1 : Int) ≤ (L : Int) := by omega
  clear hc
  by_cases hM : Oct.num (fun i => f (1 + i)) (L - 1) ≤ 9223372036854775807
  · have HM : Hid (Oct.num (fun i => f (1 + i)) (L - 1) ≤ 9223372036854775807) := hM
    clear hM
    go_enter Try.func47, Try.ntmps47
    go_wp2_with (first | (go_at_call 53; refine (field_yes (L : Int) (by omega) (by omega) _).mono ?_; rintro e w' ⟨rfl, hw'⟩; subst w') | (go_at_call 54; refine (own7_any _ (L - 1) _ (fun i => f (1 + i)) (by omega) _ hr1).mono ?_; rintro e w' ⟨⟨n, x, rfl, hy, hn⟩, hw'⟩; subst w'; obtain ⟨rfl, rfl⟩ := hy HM.out))
    try simp only [Exit.inBlock, Exit.then]
    refine bodyPost_ret (results_tmp3 rfl _ _ _) rfl ?_
    exact ⟨⟨_, 0, 0, rfl, fun h => absurd ⟨h1, h2⟩ h, fun _ _ _ _ => ⟨rfl, rfl, rfl⟩, fun _ _ _ h => absurd HM.out h, fun _ _ h => absurd h3 h⟩, rfl⟩
  · have HM : Hid (9223372036854775807 < Oct.num (fun i => f (1 + i)) (L - 1)) := Int.not_le.1 hM
    clear hM
    go_enter Try.func47, Try.ntmps47
    go_wp2_with (first | (go_at_call 53; refine (field_yes (L : Int) (by omega) (by omega) _).mono ?_; rintro e w' ⟨rfl, hw'⟩; subst w') | (go_at_call 54; refine (own7_any _ (L - 1) _ (fun i => f (1 + i)) (by omega) _ hr1).mono ?_; rintro e w' ⟨⟨n, x, rfl, hy, hn⟩, hw'⟩; subst w'; obtain ⟨rfl, rfl⟩ := hn (Int.not_le.2 HM.out)))
    try simp only [Exit.inBlock, Exit.then]
    refine bodyPost_ret (results_tmp3 rfl _ _ _) rfl ?_
    exact ⟨⟨0, 0, 2, rfl, fun h => absurd ⟨h1, h2⟩ h, fun _ _ _ h => absurd h (Int.not_le.2 HM.out), fun _ _ _ _ => ⟨rfl, rfl, rfl⟩, fun _ _ h => absurd h3 h⟩, rfl⟩

theorem oct_small {f : Nat → Int} {p k : Nat} (hk : k ≤ 12) (h : ∀ i, i < k → Oct.Digit (f (p + i))) : 0 ≤ Oct.oct f p k ∧ Oct.oct f p k < 68719476736 := by
  have h1 := Oct.oct_bound k h
  have h2 : (8 : Int) ^ k ≤ 8 ^ 12 := by
    have h13 : k = 0 ∨ k = 1 ∨ k = 2 ∨ k = 3 ∨ k = 4 ∨ k = 5 ∨ k = 6 ∨ k = 7 ∨ k = 8 ∨ k = 9 ∨ k = 10 ∨ k = 11 ∨ k = 12 := by omega
    rcases h13 with rfl | rfl | rfl | rfl | rfl | rfl | rfl | rfl | rfl | rfl | rfl | rfl | rfl <;> decide
  have h3 : (8 : Int) ^ 12 = 68719476736 := by decide
  omega

set_option maxRecDepth 100000 in
set_option maxHeartbeats 4000000 in
theorem rget_loose (b o L ca : Nat) (f : Nat → Int) (h1 : 2 ≤ L) (h2 : L ≤ 12) (h3 : ¬ f 0 = 128) (hca : L ≤ ca) (w : World) (hrow : RowAt w (some ⟨b, o, none⟩) L f) :
    Calls Try.prog 47 #[.slice (some ⟨b, o, none⟩) L ca] w fun e w' => GetSays L f e ∧ w' = w := by
  obtain ⟨b', o', e, hc⟩ := hrow.at (k := 0) (by omega)
  cases e
  have c0 := hc 0 (by omega)
  rw [Nat.add_zero] at c0
  have HC : Hid (∀ i, i < L → w.cell? ⟨b, o + i, none⟩ = some (.int .u8 (f i))) := hc
  have e0 : (f 0 == 128) = false := by rw [beq_eq_false_iff_ne]; exact h3
  have l0 : (0 : Int) < (L : Int) := by omega
  clear hc
  go_enter Try.func47, Try.ntmps47
  go_wp2_with (go_at_call 53; refine (field_yes (L : Int) (by omega) (by omega) _).mono ?_; rintro e w' ⟨rfl, hw'⟩; subst w')
  go_loop [7] (fun i => ∃ p : Nat, p ≤ L ∧ i = .int .i64 (p : Int) ∧ Hid (∀ i, 0 ≤ i → i < p → Oct.Blank (f i))) (fun i => L - (intOf i).toNat)
  case atStart => exact ⟨0, Nat.zero_le _, rfl, fun i h1 h2 => by omega⟩
  case round =>
    obtain ⟨p, hp, rfl, hall⟩ := hrel
    have p0 : (0 : Int) ≤ (p : Int) := Int.natCast_nonneg _
    by_cases hlt : p < L
    · have t1 : (p : Int) < (L : Int) := by omega
      have c1 := HC.out p hlt
      by_cases y1 : f p = 32
      · have x1 : (f p == 32) = true := by rw [beq_iff_eq]; exact y1
        have y1' : Hid (f p = 32) := y1
        clear y1
        go_wp2
        go_round
        case rel => exact ⟨p + 1, by omega, by go_num, fun i h4 h5 => by rcases Nat.lt_or_ge i p with h | h; exact hall.out i h4 h; rw [show i = p by omega]; exact y1'.out⟩
        case measure => simp [intOf]; omega
      · have x1 : (f p == 32) = false := by rw [beq_eq_false_iff_ne]; exact y1
        have hrunp : Hid (Oct.Run Oct.Blank f L 0 p) := ⟨Nat.zero_le _, hp, hall.out, fun _ h => y1 h⟩
        go_wp2
        go_loop [7, 8] (fun i n => ∃ (q : Nat) (u : Int), p ≤ q ∧ q ≤ L ∧ i = .int .i64 (q : Int) ∧ n = .int .i64 u ∧ Hid (u = Oct.oct f p (q - p)) ∧ Hid (∀ i, p ≤ i → i < q → Oct.Digit (f i))) (fun i _ => L - (intOf i).toNat)
        case atStart => exact ⟨p, 0, Nat.le_refl _, by omega, rfl, rfl, by show _ = _; rw [Nat.sub_self]; rfl, fun i h1 h2 => by omega⟩
        case round =>
          obtain ⟨q, u, hpq, hq, rfl, rfl, hu, hall2⟩ := hrel
          have q0 : (0 : Int) ≤ (q : Int) := Int.natCast_nonneg _
          have hub := oct_small (f := f) (p := p) (k := q - p) (by omega) (fun i hi => hall2.out (p + i) (by omega) (by omega))
          rw [← hu.out] at hub
          have u0 := hub.1
          have u1 := hub.2
          clear hub
          by_cases hlt2 : q < L
          · have t2 : (q : Int) < (L : Int) := by omega
            have c2 := HC.out q hlt2
            have b0 := (hrow.2 q).1
            have b1 := (hrow.2 q).2
            by_cases d1 : 48 ≤ f q
            · by_cases d2 : f q ≤ 55
              · go_wp2
                go_round
                case rel => exact ⟨q + 1, 8 * u + f q - 48, by omega, by omega, by go_num, by go_num, by show _ = _; rw [show q + 1 - p = (q - p) + 1 by omega]; unfold Oct.oct; rw [← hu.out, show p + (q - p) = q by omega]; omega, fun i h4 h5 => by rcases Nat.lt_or_ge i q with h | h; exact hall2.out i h4 h; rw [show i = q by omega]; exact ⟨d1, d2⟩⟩
                case measure => simp [intOf]; omega
              · have hrunq : Hid (Oct.Run Oct.Digit f L p q) := ⟨hpq, hq, hall2.out, fun _ h => d2 h.2⟩
                go_wp2
                go_loop [7] (fun i => ∃ r : Nat, q ≤ r ∧ r ≤ L ∧ i = .int .i64 (r : Int) ∧ Hid (∀ i, q ≤ i → i < r → Oct.Tail (f i))) (fun i => L - (intOf i).toNat)
                case atStart => exact ⟨q, Nat.le_refl _, by omega, rfl, fun i h1 h2 => by omega⟩
                case round =>
                  obtain ⟨r, hqr, hr, rfl, hall3⟩ := hrel
                  have r0 : (0 : Int) ≤ (r : Int) := Int.natCast_nonneg _
                  by_cases hlt3 : r < L
                  · have t3 : (r : Int) < (L : Int) := by omega
                    have c3 := HC.out r hlt3
                    by_cases z3 : f r = 0
                    · have v3 : (f r == 0) = true := by rw [beq_iff_eq]; exact z3
                      have z3' : Hid (f r = 0) := z3
                      clear z3
                      go_wp2
                      go_round
                      case rel => exact ⟨r + 1, by omega, by omega, by go_num, fun i h4 h5 => by rcases Nat.lt_or_ge i r with h | h; exact hall3.out i h4 h; rw [show i = r by omega]; exact Or.inl z3'.out⟩
                      case measure => simp [intOf]; omega
                    · have v3 : (f r == 0) = false := by rw [beq_eq_false_iff_ne]; exact z3
                      by_cases y3 : f r = 32
                      · have x3 : (f r == 32) = true := by rw [beq_iff_eq]; exact y3
                        have y3' : Hid (f r = 32) := y3
                        clear y3
                        go_wp2
                        go_round
                        case rel => exact ⟨r + 1, by omega, by omega, by go_num, fun i h4 h5 => by rcases Nat.lt_or_ge i r with h | h; exact hall3.out i h4 h; rw [show i = r by omega]; exact Or.inr y3'.out⟩
                        case measure => simp [intOf]; omega
                      · have x3 : (f r == 32) = false := by rw [beq_eq_false_iff_ne]; exact y3
                        have hrunr : Hid (Oct.Run Oct.Tail f L q r) := ⟨hqr, hr, hall3.out, fun _ h => h.elim z3 y3⟩
                        go_wp2
                        try simp only [Exit.inBlock, Exit.then]
                        refine bodyPost_ret (results_tmp3 rfl _ _ _) rfl ?_
                        exact ⟨⟨0, _, 70, rfl, fun h => absurd ⟨h1, h2⟩ h, fun _ _ h => absurd h h3, fun _ _ h => absurd h h3, fun _ _ _ p' q' r' hp' hq' hr' => by
                          obtain rfl := Oct.run_unique hp' hrunp.out
                          obtain rfl := Oct.run_unique hq' hrunq.out
                          obtain rfl := Oct.run_unique hr' hrunr.out
                          exact ⟨fun h => by omega, fun _ => ⟨rfl, rfl, rfl⟩⟩⟩, rfl⟩
                  · have er : r = L := by omega
                    have hrunr : Hid (Oct.Run Oct.Tail f L q r) := ⟨hqr, hr, hall3.out, fun h => by omega⟩
                    have t3 : ¬ (r : Int) < (L : Int) := by omega
                    go_wp2
                    try simp only [Exit.inBlock, Exit.then]
                    refine bodyPost_ret (results_tmp3 rfl _ _ _) rfl ?_
                    exact ⟨⟨_, 0, 0, rfl, fun h => absurd ⟨h1, h2⟩ h, fun _ _ h => absurd h h3, fun _ _ h => absurd h h3, fun _ _ _ p' q' r' hp' hq' hr' => by
                      obtain rfl := Oct.run_unique hp' hrunp.out
                      obtain rfl := Oct.run_unique hq' hrunq.out
                      obtain rfl := Oct.run_unique hr' hrunr.out
                      exact ⟨fun _ => ⟨hu.out, rfl, rfl⟩, fun h => by omega⟩⟩, rfl⟩
            · have hrunq : Hid (Oct.Run Oct.Digit f L p q) := ⟨hpq, hq, hall2.out, fun _ h => d1 h.1⟩
              go_wp2
              go_loop [7] (fun i => ∃ r : Nat, q ≤ r ∧ r ≤ L ∧ i = .int .i64 (r : Int) ∧ Hid (∀ i, q ≤ i → i < r → Oct.Tail (f i))) (fun i => L - (intOf i).toNat)
              case atStart => exact ⟨q, Nat.le_refl _, by omega, rfl, fun i h1 h2 => by omega⟩
              case round =>
                obtain ⟨r, hqr, hr, rfl, hall3⟩ := hrel
                have r0 : (0 : Int) ≤ (r : Int) := Int.natCast_nonneg _
                by_cases hlt3 : r < L
                · have t3 : (r : Int) < (L : Int) := by omega
                  have c3 := HC.out r hlt3
                  by_cases z3 : f r = 0
                  · have v3 : (f r == 0) = true := by rw [beq_iff_eq]; exact z3
                    have z3' : Hid (f r = 0) := z3
                    clear z3
                    go_wp2
                    go_round
                    case rel => exact ⟨r + 1, by omega, by omega, by go_num, fun i h4 h5 => by rcases Nat.lt_or_ge i r with h | h; exact hall3.out i h4 h; rw [show i = r by omega]; exact Or.inl z3'.out⟩
                    case measure => simp [intOf]; omega
                  · have v3 : (f r == 0) = false := by rw [beq_eq_false_iff_ne]; exact z3
                    by_cases y3 : f r = 32
                    · have x3 : (f r == 32) = true := by rw [beq_iff_eq]; exact y3
                      have y3' : Hid (f r = 32) := y3
                      clear y3
                      go_wp2
                      go_round
                      case rel => exact ⟨r + 1, by omega, by omega, by go_num, fun i h4 h5 => by rcases Nat.lt_or_ge i r with h | h; exact hall3.out i h4 h; rw [show i = r by omega]; exact Or.inr y3'.out⟩
                      case measure => simp [intOf]; omega
                    · have x3 : (f r == 32) = false := by rw [beq_eq_false_iff_ne]; exact y3
                      have hrunr : Hid (Oct.Run Oct.Tail f L q r) := ⟨hqr, hr, hall3.out, fun _ h => h.elim z3 y3⟩
                      go_wp2
                      try simp only [Exit.inBlock, Exit.then]
                      refine bodyPost_ret (results_tmp3 rfl _ _ _) rfl ?_
                      exact ⟨⟨0, _, 70, rfl, fun h => absurd ⟨h1, h2⟩ h, fun _ _ h => absurd h h3, fun _ _ h => absurd h h3, fun _ _ _ p' q' r' hp' hq' hr' => by
                        obtain rfl := Oct.run_unique hp' hrunp.out
                        obtain rfl := Oct.run_unique hq' hrunq.out
                        obtain rfl := Oct.run_unique hr' hrunr.out
                        exact ⟨fun h => by omega, fun _ => ⟨rfl, rfl, rfl⟩⟩⟩, rfl⟩
                · have er : r = L := by omega
                  have hrunr : Hid (Oct.Run Oct.Tail f L q r) := ⟨hqr, hr, hall3.out, fun h => by omega⟩
                  have t3 : ¬ (r : Int) < (L : Int) := by omega
                  go_wp2
                  try simp only [Exit.inBlock, Exit.then]
                  refine bodyPost_ret (results_tmp3 rfl _ _ _) rfl ?_
                  exact ⟨⟨_, 0, 0, rfl, fun h => absurd ⟨h1, h2⟩ h, fun _ _ h => absurd h h3, fun _ _ h => absurd h h3, fun _ _ _ p' q' r' hp' hq' hr' => by
                    obtain rfl := Oct.run_unique hp' hrunp.out
                    obtain rfl := Oct.run_unique hq' hrunq.out
                    obtain rfl := Oct.run_unique hr' hrunr.out
                    exact ⟨fun _ => ⟨hu.out, rfl, rfl⟩, fun h => by omega⟩⟩, rfl⟩
          · have hrunq : Hid (Oct.Run Oct.Digit f L p q) := ⟨hpq, hq, hall2.out, fun h => absurd h hlt2⟩
            have t2 : ¬ (q : Int) < (L : Int) := by omega
            go_wp2
            go_loop [7] (fun i => ∃ r : Nat, q ≤ r ∧ r ≤ L ∧ i = .int .i64 (r : Int) ∧ Hid (∀ i, q ≤ i → i < r → Oct.Tail (f i))) (fun i => L - (intOf i).toNat)
            case atStart => exact ⟨q, Nat.le_refl _, by omega, rfl, fun i h1 h2 => by omega⟩
            case round =>
              obtain ⟨r, hqr, hr, rfl, hall3⟩ := hrel
              have r0 : (0 : Int) ≤ (r : Int) := Int.natCast_nonneg _
              by_cases hlt3 : r < L
              · have t3 : (r : Int) < (L : Int) := by omega
                have c3 := HC.out r hlt3
                by_cases z3 : f r = 0
                · have v3 : (f r == 0) = true := by rw [beq_iff_eq]; exact z3
                  have z3' : Hid (f r = 0) := z3
                  clear z3
                  go_wp2
                  go_round
                  case rel => exact ⟨r + 1, by omega, by omega, by go_num, fun i h4 h5 => by rcases Nat.lt_or_ge i r with h | h; exact hall3.out i h4 h; rw [show i = r by omega]; exact Or.inl z3'.out⟩
                  case measure => simp [intOf]; omega
                · have v3 : (f r == 0) = false := by rw [beq_eq_false_iff_ne]; exact z3
                  by_cases y3 : f r = 32
                  · have x3 : (f r == 32) = true := by rw [beq_iff_eq]; exact y3
                    have y3' : Hid (f r = 32) := y3
                    clear y3
                    go_wp2
                    go_round
                    case rel => exact ⟨r + 1, by omega, by omega, by go_num, fun i h4 h5 => by rcases Nat.lt_or_ge i r with h | h; exact hall3.out i h4 h; rw [show i = r by omega]; exact Or.inr y3'.out⟩
                    case measure => simp [intOf]; omega
                  · have x3 : (f r == 32) = false := by rw [beq_eq_false_iff_ne]; exact y3
                    have hrunr : Hid (Oct.Run Oct.Tail f L q r) := ⟨hqr, hr, hall3.out, fun _ h => h.elim z3 y3⟩
                    go_wp2
                    try simp only [Exit.inBlock, Exit.then]
                    refine bodyPost_ret (results_tmp3 rfl _ _ _) rfl ?_
                    exact ⟨⟨0, _, 70, rfl, fun h => absurd ⟨h1, h2⟩ h, fun _ _ h => absurd h h3, fun _ _ h => absurd h h3, fun _ _ _ p' q' r' hp' hq' hr' => by
                      obtain rfl := Oct.run_unique hp' hrunp.out
                      obtain rfl := Oct.run_unique hq' hrunq.out
                      obtain rfl := Oct.run_unique hr' hrunr.out
                      exact ⟨fun h => by omega, fun _ => ⟨rfl, rfl, rfl⟩⟩⟩, rfl⟩
              · have er : r = L := by omega
                have hrunr : Hid (Oct.Run Oct.Tail f L q r) := ⟨hqr, hr, hall3.out, fun h => by omega⟩
                have t3 : ¬ (r : Int) < (L : Int) := by omega
                go_wp2
                try simp only [Exit.inBlock, Exit.then]
                refine bodyPost_ret (results_tmp3 rfl _ _ _) rfl ?_
                exact ⟨⟨_, 0, 0, rfl, fun h => absurd ⟨h1, h2⟩ h, fun _ _ h => absurd h h3, fun _ _ h => absurd h h3, fun _ _ _ p' q' r' hp' hq' hr' => by
                  obtain rfl := Oct.run_unique hp' hrunp.out
                  obtain rfl := Oct.run_unique hq' hrunq.out
                  obtain rfl := Oct.run_unique hr' hrunr.out
                  exact ⟨fun _ => ⟨hu.out, rfl, rfl⟩, fun h => by omega⟩⟩, rfl⟩
    · have hrunp : Hid (Oct.Run Oct.Blank f L 0 p) := ⟨Nat.zero_le _, hp, hall.out, fun h => absurd h hlt⟩
      have t1 : ¬ (p : Int) < (L : Int) := by omega
      go_wp2
      go_loop [7, 8] (fun i n => ∃ (q : Nat) (u : Int), p ≤ q ∧ q ≤ L ∧ i = .int .i64 (q : Int) ∧ n = .int .i64 u ∧ Hid (u = Oct.oct f p (q - p)) ∧ Hid (∀ i, p ≤ i → i < q → Oct.Digit (f i))) (fun i _ => L - (intOf i).toNat)
      case atStart => exact ⟨p, 0, Nat.le_refl _, by omega, rfl, rfl, by show _ = _; rw [Nat.sub_self]; rfl, fun i h1 h2 => by omega⟩
      case round =>
        obtain ⟨q, u, hpq, hq, rfl, rfl, hu, hall2⟩ := hrel
        have q0 : (0 : Int) ≤ (q : Int) := Int.natCast_nonneg _
        have hub := oct_small (f := f) (p := p) (k := q - p) (by omega) (fun i hi => hall2.out (p + i) (by omega) (by omega))
        rw [← hu.out] at hub
        have u0 := hub.1
        have u1 := hub.2
        clear hub
        by_cases hlt2 : q < L
        · have t2 : (q : Int) < (L : Int) := by omega
          have c2 := HC.out q hlt2
          have b0 := (hrow.2 q).1
          have b1 := (hrow.2 q).2
          by_cases d1 : 48 ≤ f q
          · by_cases d2 : f q ≤ 55
            · go_wp2
              go_round
              case rel => exact ⟨q + 1, 8 * u + f q - 48, by omega, by omega, by go_num, by go_num, by show _ = _; rw [show q + 1 - p = (q - p) + 1 by omega]; unfold Oct.oct; rw [← hu.out, show p + (q - p) = q by omega]; omega, fun i h4 h5 => by rcases Nat.lt_or_ge i q with h | h; exact hall2.out i h4 h; rw [show i = q by omega]; exact ⟨d1, d2⟩⟩
              case measure => simp [intOf]; omega
            · have hrunq : Hid (Oct.Run Oct.Digit f L p q) := ⟨hpq, hq, hall2.out, fun _ h => d2 h.2⟩
              go_wp2
              go_loop [7] (fun i => ∃ r : Nat, q ≤ r ∧ r ≤ L ∧ i = .int .i64 (r : Int) ∧ Hid (∀ i, q ≤ i → i < r → Oct.Tail (f i))) (fun i => L - (intOf i).toNat)
              case atStart => exact ⟨q, Nat.le_refl _, by omega, rfl, fun i h1 h2 => by omega⟩
              case round =>
                obtain ⟨r, hqr, hr, rfl, hall3⟩ := hrel
                have r0 : (0 : Int) ≤ (r : Int) := Int.natCast_nonneg _
                by_cases hlt3 : r < L
                · have t3 : (r : Int) < (L : Int) := by omega
                  have c3 := HC.out r hlt3
                  by_cases z3 : f r = 0
                  · have v3 : (f r == 0) = true := by rw [beq_iff_eq]; exact z3
                    have z3' : Hid (f r = 0) := z3
                    clear z3
                    go_wp2
                    go_round
                    case rel => exact ⟨r + 1, by omega, by omega, by go_num, fun i h4 h5 => by rcases Nat.lt_or_ge i r with h | h; exact hall3.out i h4 h; rw [show i = r by omega]; exact Or.inl z3'.out⟩
                    case measure => simp [intOf]; omega
                  · have v3 : (f r == 0) = false := by rw [beq_eq_false_iff_ne]; exact z3
                    by_cases y3 : f r = 32
                    · have x3 : (f r == 32) = true := by rw [beq_iff_eq]; exact y3
                      have y3' : Hid (f r = 32) := y3
                      clear y3
                      go_wp2
                      go_round
                      case rel => exact ⟨r + 1, by omega, by omega, by go_num, fun i h4 h5 => by rcases Nat.lt_or_ge i r with h | h; exact hall3.out i h4 h; rw [show i = r by omega]; exact Or.inr y3'.out⟩
                      case measure => simp [intOf]; omega
                    · have x3 : (f r == 32) = false := by rw [beq_eq_false_iff_ne]; exact y3
                      have hrunr : Hid (Oct.Run Oct.Tail f L q r) := ⟨hqr, hr, hall3.out, fun _ h => h.elim z3 y3⟩
                      go_wp2
                      try simp only [Exit.inBlock, Exit.then]
                      refine bodyPost_ret (results_tmp3 rfl _ _ _) rfl ?_
                      exact ⟨⟨0, _, 70, rfl, fun h => absurd ⟨h1, h2⟩ h, fun _ _ h => absurd h h3, fun _ _ h => absurd h h3, fun _ _ _ p' q' r' hp' hq' hr' => by
                        obtain rfl := Oct.run_unique hp' hrunp.out
                        obtain rfl := Oct.run_unique hq' hrunq.out
                        obtain rfl := Oct.run_unique hr' hrunr.out
                        exact ⟨fun h => by omega, fun _ => ⟨rfl, rfl, rfl⟩⟩⟩, rfl⟩
                · have er : r = L := by omega
                  have hrunr : Hid (Oct.Run Oct.Tail f L q r) := ⟨hqr, hr, hall3.out, fun h => by omega⟩
                  have t3 : ¬ (r : Int) < (L : Int) := by omega
                  go_wp2
                  try simp only [Exit.inBlock, Exit.then]
                  refine bodyPost_ret (results_tmp3 rfl _ _ _) rfl ?_
                  exact ⟨⟨_, 0, 0, rfl, fun h => absurd ⟨h1, h2⟩ h, fun _ _ h => absurd h h3, fun _ _ h => absurd h h3, fun _ _ _ p' q' r' hp' hq' hr' => by
                    obtain rfl := Oct.run_unique hp' hrunp.out
                    obtain rfl := Oct.run_unique hq' hrunq.out
                    obtain rfl := Oct.run_unique hr' hrunr.out
                    exact ⟨fun _ => ⟨hu.out, rfl, rfl⟩, fun h => by omega⟩⟩, rfl⟩
          · have hrunq : Hid (Oct.Run Oct.Digit f L p q) := ⟨hpq, hq, hall2.out, fun _ h => d1 h.1⟩
            go_wp2
            go_loop [7] (fun i => ∃ r : Nat, q ≤ r ∧ r ≤ L ∧ i = .int .i64 (r : Int) ∧ Hid (∀ i, q ≤ i → i < r → Oct.Tail (f i))) (fun i => L - (intOf i).toNat)
            case atStart => exact ⟨q, Nat.le_refl _, by omega, rfl, fun i h1 h2 => by omega⟩
            case round =>
              obtain ⟨r, hqr, hr, rfl, hall3⟩ := hrel
              have r0 : (0 : Int) ≤ (r : Int) := Int.natCast_nonneg _
              by_cases hlt3 : r < L
              · have t3 : (r : Int) < (L : Int) := by omega
                have c3 := HC.out r hlt3
                by_cases z3 : f r = 0
                · have v3 : (f r == 0) = true := by rw [beq_iff_eq]; exact z3
                  have z3' : Hid (f r = 0) := z3
                  clear z3
                  go_wp2
                  go_round
                  case rel => exact ⟨r + 1, by omega, by omega, by go_num, fun i h4 h5 => by rcases Nat.lt_or_ge i r with h | h; exact hall3.out i h4 h; rw [show i = r by omega]; exact Or.inl z3'.out⟩
                  case measure => simp [intOf]; omega
                · have v3 : (f r == 0) = false := by rw [beq_eq_false_iff_ne]; exact z3
                  by_cases y3 : f r = 32
                  · have x3 : (f r == 32) = true := by rw [beq_iff_eq]; exact y3
                    have y3' : Hid (f r = 32) := y3
                    clear y3
                    go_wp2
                    go_round
                    case rel => exact ⟨r + 1, by omega, by omega, by go_num, fun i h4 h5 => by rcases Nat.lt_or_ge i r with h | h; exact hall3.out i h4 h; rw [show i = r by omega]; exact Or.inr y3'.out⟩
                    case measure => simp [intOf]; omega
                  · have x3 : (f r == 32) = false := by rw [beq_eq_false_iff_ne]; exact y3
                    have hrunr : Hid (Oct.Run Oct.Tail f L q r) := ⟨hqr, hr, hall3.out, fun _ h => h.elim z3 y3⟩
                    go_wp2
                    try simp only [Exit.inBlock, Exit.then]
                    refine bodyPost_ret (results_tmp3 rfl _ _ _) rfl ?_
                    exact ⟨⟨0, _, 70, rfl, fun h => absurd ⟨h1, h2⟩ h, fun _ _ h => absurd h h3, fun _ _ h => absurd h h3, fun _ _ _ p' q' r' hp' hq' hr' => by
                      obtain rfl := Oct.run_unique hp' hrunp.out
                      obtain rfl := Oct.run_unique hq' hrunq.out
                      obtain rfl := Oct.run_unique hr' hrunr.out
                      exact ⟨fun h => by omega, fun _ => ⟨rfl, rfl, rfl⟩⟩⟩, rfl⟩
              · have er : r = L := by omega
                have hrunr : Hid (Oct.Run Oct.Tail f L q r) := ⟨hqr, hr, hall3.out, fun h => by omega⟩
                have t3 : ¬ (r : Int) < (L : Int) := by omega
                go_wp2
                try simp only [Exit.inBlock, Exit.then]
                refine bodyPost_ret (results_tmp3 rfl _ _ _) rfl ?_
                exact ⟨⟨_, 0, 0, rfl, fun h => absurd ⟨h1, h2⟩ h, fun _ _ h => absurd h h3, fun _ _ h => absurd h h3, fun _ _ _ p' q' r' hp' hq' hr' => by
                  obtain rfl := Oct.run_unique hp' hrunp.out
                  obtain rfl := Oct.run_unique hq' hrunq.out
                  obtain rfl := Oct.run_unique hr' hrunr.out
                  exact ⟨fun _ => ⟨hu.out, rfl, rfl⟩, fun h => by omega⟩⟩, rfl⟩
        · have hrunq : Hid (Oct.Run Oct.Digit f L p q) := ⟨hpq, hq, hall2.out, fun h => absurd h hlt2⟩
          have t2 : ¬ (q : Int) < (L : Int) := by omega
          go_wp2
          go_loop [7] (fun i => ∃ r : Nat, q ≤ r ∧ r ≤ L ∧ i = .int .i64 (r : Int) ∧ Hid (∀ i, q ≤ i → i < r → Oct.Tail (f i))) (fun i => L - (intOf i).toNat)
          case atStart => exact ⟨q, Nat.le_refl _, by omega, rfl, fun i h1 h2 => by omega⟩
          case round =>
            obtain ⟨r, hqr, hr, rfl, hall3⟩ := hrel
            have r0 : (0 : Int) ≤ (r : Int) := Int.natCast_nonneg _
            by_cases hlt3 : r < L
            · have t3 : (r : Int) < (L : Int) := by omega
              have c3 := HC.out r hlt3
              by_cases z3 : f r = 0
              · have v3 : (f r == 0) = true := by rw [beq_iff_eq]; exact z3
                have z3' : Hid (f r = 0) := z3
                clear z3
                go_wp2
                go_round
                case rel => exact ⟨r + 1, by omega, by omega, by go_num, fun i h4 h5 => by rcases Nat.lt_or_ge i r with h | h; exact hall3.out i h4 h; rw [show i = r by omega]; exact Or.inl z3'.out⟩
                case measure => simp [intOf]; omega
              · have v3 : (f r == 0) = false := by rw [beq_eq_false_iff_ne]; exact z3
                by_cases y3 : f r = 32
                · have x3 : (f r == 32) = true := by rw [beq_iff_eq]; exact y3
                  have y3' : Hid (f r = 32) := y3
                  clear y3
                  go_wp2
                  go_round
                  case rel => exact ⟨r + 1, by omega, by omega, by go_num, fun i h4 h5 => by rcases Nat.lt_or_ge i r with h | h; exact hall3.out i h4 h; rw [show i = r by omega]; exact Or.inr y3'.out⟩
                  case measure => simp [intOf]; omega
                · have x3 : (f r == 32) = false := by rw [beq_eq_false_iff_ne]; exact y3
                  have hrunr : Hid (Oct.Run Oct.Tail f L q r) := ⟨hqr, hr, hall3.out, fun _ h => h.elim z3 y3⟩
                  go_wp2
                  try simp only [Exit.inBlock, Exit.then]
                  refine bodyPost_ret (results_tmp3 rfl _ _ _) rfl ?_
                  exact ⟨⟨0, _, 70, rfl, fun h => absurd ⟨h1, h2⟩ h, fun _ _ h => absurd h h3, fun _ _ h => absurd h h3, fun _ _ _ p' q' r' hp' hq' hr' => by
                    obtain rfl := Oct.run_unique hp' hrunp.out
                    obtain rfl := Oct.run_unique hq' hrunq.out
                    obtain rfl := Oct.run_unique hr' hrunr.out
                    exact ⟨fun h => by omega, fun _ => ⟨rfl, rfl, rfl⟩⟩⟩, rfl⟩
            · have er : r = L := by omega
              have hrunr : Hid (Oct.Run Oct.Tail f L q r) := ⟨hqr, hr, hall3.out, fun h => by omega⟩
              have t3 : ¬ (r : Int) < (L : Int) := by omega
              go_wp2
              try simp only [Exit.inBlock, Exit.then]
              refine bodyPost_ret (results_tmp3 rfl _ _ _) rfl ?_
              exact ⟨⟨_, 0, 0, rfl, fun h => absurd ⟨h1, h2⟩ h, fun _ _ h => absurd h h3, fun _ _ h => absurd h h3, fun _ _ _ p' q' r' hp' hq' hr' => by
                obtain rfl := Oct.run_unique hp' hrunp.out
                obtain rfl := Oct.run_unique hq' hrunq.out
                obtain rfl := Oct.run_unique hr' hrunr.out
                exact ⟨fun _ => ⟨hu.out, rfl, rfl⟩, fun h => by omega⟩⟩, rfl⟩

theorem rget_any (A : Option Addr) (L ca : Nat) (f : Nat → Int) (hca : L ≤ ca) (w : World) (hrow : RowAt w A L f) :
    Calls Try.prog 47 #[.slice A L ca] w fun e w' => GetSays L f e ∧ w' = w := by
  by_cases h : 2 ≤ L ∧ L ≤ 12
  · obtain ⟨b, o, rfl, -⟩ := hrow.at (k := 0) (by omega)
    by_cases h3 : f 0 = 128
    · exact rget_wide b o L ca f h.1 h.2 h3 hca w hrow
    · exact rget_loose b o L ca f h.1 h.2 h3 hca w hrow
  · exact rget_arg A L ca f h w
end Go.Proofs.Ytkoacehgfmflmaa
