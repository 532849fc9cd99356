/- The program's own length, as landed at 7a0984bd. -/
import Derived.Test.YtmbabfelnieagabDoorBS
namespace Go.Proofs.YtmbabfelnieagabDoor
open Go.RowKit Go.Deep
set_option linter.unusedVariables false
set_option linter.unusedSimpArgs false

/-- what length answers -/
def LenIn (b : Px.B) (e : Ending) : Prop := (Px.longF b).2 = 0 ∧ e = thrown 90 ∨ (Px.longF b).2 ≠ 0 ∧ e = .returned (.tuple #[.int .i64 ((Px.longF b).1 : Int), .int .i64 (((Px.longF b).2 + 1 : Nat) : Int)])
theorem at_of {b : Px.B} {i : Nat} (h : i < b.length) : ∃ c : UInt8, Hid (b[i]? = some c) := ⟨_, List.getElem?_eq_getElem h⟩
theorem rowcell {w : World} {A : Option Addr} {b : Px.B} (h : RowAt w A b.length (Px.rowF b)) (hne : 0 < b.length) : ∃ g o, A = some ⟨g, o, none⟩ ∧ ∀ i c, b[i]? = some c → w.cell? ⟨g, o + i, none⟩ = some (.int .u8 (c.toNat : Int)) := by
  rcases h.1 with h0 | ⟨g, o, h1, h2⟩
  · omega
  · refine ⟨g, o, h1, fun i c hc => ?_⟩
    have hi := (List.getElem?_eq_some_iff.1 hc).1
    rw [h2 i hi, Px.rowF_at hc]
set_option maxRecDepth 100000 in
set_option maxHeartbeats 2000000 in
theorem len_any (A : Option Addr) (cap : Nat) (b : Px.B) (hn : b.length ≤ 140737488355328) (hcap : b.length ≤ cap) (hne : 0 < b.length) (w : World) (ha : RowAt w A b.length (Px.rowF b)) :
    Calls Tryd.prog 38 #[.slice A b.length cap] w fun e w' => LenIn b e ∧ w' = w := by
  obtain ⟨g, o, rfl, hc0⟩ := rowcell ha hne
  have HC : Hid (∀ i c, b[i]? = some c → w.cell? ⟨g, o + i, none⟩ = some (.int .u8 (c.toNat : Int))) := hc0
  clear hc0 ha
  obtain ⟨n, hnn⟩ : ∃ n, Hid (b.length = n) := ⟨_, rfl⟩
  rw [hnn.out] at hn hcap hne ⊢
  obtain ⟨m, hm⟩ : ∃ m, Hid (min n 4 = m) := ⟨_, rfl⟩
  have hm1 : m ≤ n := by rw [← hm.out]; exact Nat.min_le_left _ _
  have hm2 : m ≤ 4 := by rw [← hm.out]; exact Nat.min_le_right _ _
  have hm3 : m = n ∨ m = 4 := by have := hm.out; omega
  have HM3 : Hid (m = n ∨ m = 4) := hm3
  clear hm3
  have hmi : min (n : Int) 4 = (m : Int) := by have := hm.out; omega
  have hmc : m ≤ cap := by omega
  obtain ⟨c0, hc0⟩ : ∃ c : UInt8, Hid (b[0]? = some c) := at_of (by rw [hnn.out]; exact hne)
  have cz := HC.out 0 c0 hc0.out
  rw [Nat.add_zero] at cz
  go_enter Tryd.func38, Tryd.ntmps38
  go_wp2
  go_loop [4, 5, 14] (fun x d i => ∃ j v : Nat, j ≤ m ∧ x = .int .i64 (v : Int) ∧ d = .int .i64 (j : Int) ∧ i = .int .i64 (j : Int) ∧ Hid (v = Px.val (b.take j)) ∧ Hid (∀ i, i < j → ∃ c, b[i]? = some c ∧ Px.isD c = true)) (fun _ _ i => m - (intOf i).toNat)
  case atStart => exact ⟨0, 0, Nat.zero_le _, rfl, rfl, rfl, rfl, fun i hi => absurd hi (Nat.not_lt_zero _)⟩
  case round =>
    obtain ⟨j, v, hj, rfl, rfl, rfl, hV, hall⟩ := hrel
    have j0 : (0 : Int) ≤ (j : Int) := Int.natCast_nonneg _
    by_cases hjm : j < m
    · have j1 : (j : Int) < (m : Int) := by omega
      obtain ⟨c, hc⟩ : ∃ c : UInt8, Hid (b[j]? = some c) := at_of (by rw [hnn.out]; omega)
      have cc := HC.out j c hc.out
      have hc256 : c.toNat < 256 := c.toNat_lt
      by_cases hdg : 48 ≤ c.toNat ∧ c.toNat ≤ 57
      · have q1 : ¬ (c.toNat : Int) < 48 := by omega
        have q2 : ¬ (57 : Int) < (c.toNat : Int) := by omega
        have hvb : v < 10 ^ 4 := by
          rw [hV.out]
          exact Nat.lt_of_lt_of_le (Px.val_bd b j (by omega) hall.out) (Nat.pow_le_pow_right (by decide) (by omega))
        have hvb2 : v < 10000 := hvb
        have hV2 : Hid (10 * v + (c.toNat - 48) = Px.val (b.take (j + 1))) := by show _ = _; rw [Px.val_take hc.out, hV.out]
        have hall2 : Hid (∀ i, i < j + 1 → ∃ c, b[i]? = some c ∧ Px.isD c = true) := fun i hi => by
          rcases Nat.lt_or_ge i j with h | h
          · exact hall.out i h
          · rw [show i = j by omega]; exact ⟨c, hc.out, by simp [Px.isD]; exact hdg⟩
        obtain ⟨d, hd⟩ : ∃ d, Hid (c.toNat - 48 = d) := ⟨_, rfl⟩
        have hd2 : (c.toNat : Int) - 48 = (d : Int) := by have := hd.out; omega
        have hd3 : d ≤ 9 := by have := hd.out; omega
        clear hvb hdg
        go_wp2
        go_round
        case rel => exact ⟨j + 1, 10 * v + d, by omega, by go_num, by go_num, by go_num, by show _ = _; rw [← hd.out]; exact hV2.out, hall2⟩
        case measure => simp [intOf]; omega
      · have hD : Hid (Px.Dig b j) := ⟨by omega, by rw [hnn.out]; omega, hall.out, .inr (.inr ⟨c, hc.out, by simp only [Px.isD, decide_eq_false_iff_not]; exact hdg⟩)⟩
        rcases (by omega : c.toNat < 48 ∨ 57 < c.toNat) with hdg2 | hdg2
        · have q1 : (c.toNat : Int) < 48 := by omega
          clear hdg hdg2
          have tok0 : Hid (w = w) := rfl
          have tok1 : Hid (w = w) := rfl
          by_cases d0 : j = 0
          · have hl : Hid (Px.longF b = (0, 0)) := Px.long_no hD.out (.inl d0)
            have t0 : ¬ (0 : Int) < (j : Int) := by omega
            clear d0
            go_wp2_with (first | (go_at_call 28; clear tok0; refine (must_no _ (by first | rfl | assumption | (simp [*])) 90 90 rfl _).mono ?_; rintro e w1 ⟨rfl, hw1⟩; subst w1; unfold thrown))
            exact ⟨rfl, .inl ⟨by rw [hl.out], rfl⟩, rfl⟩
          · have t0 : (0 : Int) < (j : Int) := by omega
            have d1 : 0 < j := by omega
            clear d0
            by_cases h48 : c0.toNat = 48
            · have hl : Hid (Px.longF b = (0, 0)) := Px.long_no hD.out (.inr (.inl (by rw [hc0.out]; congr 1; exact UInt8.toNat_inj.1 h48)))
              have e48 : ((c0.toNat : Int) != 48) = false := by rw [bne_eq_false_iff_eq]; omega
              clear h48
              go_wp2_with (first | (go_at_call 28; clear tok0; refine (must_no _ (by first | rfl | assumption | (simp [*])) 90 90 rfl _).mono ?_; rintro e w1 ⟨rfl, hw1⟩; subst w1; unfold thrown))
              exact ⟨rfl, .inl ⟨by rw [hl.out], rfl⟩, rfl⟩
            · have e48 : ((c0.toNat : Int) != 48) = true := by rw [bne_iff_ne]; omega
              have n48 : Hid (b[0]? ≠ some 48) := fun h => h48 (by rw [hc0.out, Option.some.injEq] at h; rw [h]; rfl)
              clear h48
              have t1 : (j : Int) < (n : Int) := by omega
              have t2 : (0 : Int) ≤ (j : Int) := by omega
              by_cases h32 : c.toNat = 32
              · have e32 : ((c.toNat : Int) == 32) = true := by rw [beq_iff_eq]; omega
                have hl : Hid (Px.longF b = (Px.val (b.take j), j)) := Px.long_yes hD.out d1 n48.out (by rw [hc.out]; congr 1; exact UInt8.toNat_inj.1 h32)
                clear h32
                go_wp2_with (first | (go_at_call 28; clear tok0; refine (must_yes _ (by first | rfl | assumption | (simp [*])) _ _).mono ?_; rintro e w1 ⟨rfl, hw1⟩; subst w1) | (go_at_call 28; clear tok1; refine (must_yes _ (by first | rfl | assumption | (simp [*])) _ _).mono ?_; rintro e w2 ⟨rfl, hw2⟩; subst w2))
                go_ret2
                refine ⟨.inr ⟨by rw [hl.out]; exact Nat.ne_of_gt d1, ?_⟩, rfl⟩
                rw [hl.out, hV.out]; simp
              · have e32 : ((c.toNat : Int) == 32) = false := beq_eq_false_iff_ne.2 (by omega)
                have hl : Hid (Px.longF b = (0, 0)) := Px.long_no hD.out (.inr (.inr (fun h => h32 (by rw [hc.out, Option.some.injEq] at h; rw [h]; rfl))))
                clear h32
                go_wp2_with (first | (go_at_call 28; clear tok0; refine (must_yes _ (by first | rfl | assumption | (simp [*])) _ _).mono ?_; rintro e w1 ⟨rfl, hw1⟩; subst w1) | (go_at_call 28; clear tok1; refine (must_no _ (by first | rfl | assumption | (simp [*])) 90 90 rfl _).mono ?_; rintro e w2 ⟨rfl, hw2⟩; subst w2; unfold thrown))
                exact ⟨rfl, .inl ⟨by rw [hl.out], rfl⟩, rfl⟩
        · have q1 : ¬ (c.toNat : Int) < 48 := by omega
          have q2 : (57 : Int) < (c.toNat : Int) := by omega
          clear hdg hdg2
          have tok0 : Hid (w = w) := rfl
          have tok1 : Hid (w = w) := rfl
          by_cases d0 : j = 0
          · have hl : Hid (Px.longF b = (0, 0)) := Px.long_no hD.out (.inl d0)
            have t0 : ¬ (0 : Int) < (j : Int) := by omega
            clear d0
            go_wp2_with (first | (go_at_call 28; clear tok0; refine (must_no _ (by first | rfl | assumption | (simp [*])) 90 90 rfl _).mono ?_; rintro e w1 ⟨rfl, hw1⟩; subst w1; unfold thrown))
            exact ⟨rfl, .inl ⟨by rw [hl.out], rfl⟩, rfl⟩
          · have t0 : (0 : Int) < (j : Int) := by omega
            have d1 : 0 < j := by omega
            clear d0
            by_cases h48 : c0.toNat = 48
            · have hl : Hid (Px.longF b = (0, 0)) := Px.long_no hD.out (.inr (.inl (by rw [hc0.out]; congr 1; exact UInt8.toNat_inj.1 h48)))
              have e48 : ((c0.toNat : Int) != 48) = false := by rw [bne_eq_false_iff_eq]; omega
              clear h48
              go_wp2_with (first | (go_at_call 28; clear tok0; refine (must_no _ (by first | rfl | assumption | (simp [*])) 90 90 rfl _).mono ?_; rintro e w1 ⟨rfl, hw1⟩; subst w1; unfold thrown))
              exact ⟨rfl, .inl ⟨by rw [hl.out], rfl⟩, rfl⟩
            · have e48 : ((c0.toNat : Int) != 48) = true := by rw [bne_iff_ne]; omega
              have n48 : Hid (b[0]? ≠ some 48) := fun h => h48 (by rw [hc0.out, Option.some.injEq] at h; rw [h]; rfl)
              clear h48
              have t1 : (j : Int) < (n : Int) := by omega
              have t2 : (0 : Int) ≤ (j : Int) := by omega
              by_cases h32 : c.toNat = 32
              · have e32 : ((c.toNat : Int) == 32) = true := by rw [beq_iff_eq]; omega
                have hl : Hid (Px.longF b = (Px.val (b.take j), j)) := Px.long_yes hD.out d1 n48.out (by rw [hc.out]; congr 1; exact UInt8.toNat_inj.1 h32)
                clear h32
                go_wp2_with (first | (go_at_call 28; clear tok0; refine (must_yes _ (by first | rfl | assumption | (simp [*])) _ _).mono ?_; rintro e w1 ⟨rfl, hw1⟩; subst w1) | (go_at_call 28; clear tok1; refine (must_yes _ (by first | rfl | assumption | (simp [*])) _ _).mono ?_; rintro e w2 ⟨rfl, hw2⟩; subst w2))
                go_ret2
                refine ⟨.inr ⟨by rw [hl.out]; exact Nat.ne_of_gt d1, ?_⟩, rfl⟩
                rw [hl.out, hV.out]; simp
              · have e32 : ((c.toNat : Int) == 32) = false := beq_eq_false_iff_ne.2 (by omega)
                have hl : Hid (Px.longF b = (0, 0)) := Px.long_no hD.out (.inr (.inr (fun h => h32 (by rw [hc.out, Option.some.injEq] at h; rw [h]; rfl))))
                clear h32
                go_wp2_with (first | (go_at_call 28; clear tok0; refine (must_yes _ (by first | rfl | assumption | (simp [*])) _ _).mono ?_; rintro e w1 ⟨rfl, hw1⟩; subst w1) | (go_at_call 28; clear tok1; refine (must_no _ (by first | rfl | assumption | (simp [*])) 90 90 rfl _).mono ?_; rintro e w2 ⟨rfl, hw2⟩; subst w2; unfold thrown))
                exact ⟨rfl, .inl ⟨by rw [hl.out], rfl⟩, rfl⟩
    · have hje : j = m := by omega
      subst hje
      have j1 : ¬ (j : Int) < (j : Int) := by omega
      have hD : Hid (Px.Dig b j) := ⟨hm2, by rw [hnn.out]; exact hm1, hall.out, by rw [hnn.out]; rcases HM3.out with h | h; exact .inr (.inl h); exact .inl h⟩
      have tok0 : Hid (w = w) := rfl
      have tok1 : Hid (w = w) := rfl
      have d1 : 0 < j := by rcases HM3.out with h | h <;> omega
      have t0 : (0 : Int) < (j : Int) := by omega
      by_cases h48 : c0.toNat = 48
      · have hl : Hid (Px.longF b = (0, 0)) := Px.long_no hD.out (.inr (.inl (by rw [hc0.out]; congr 1; exact UInt8.toNat_inj.1 h48)))
        have e48 : ((c0.toNat : Int) != 48) = false := by rw [bne_eq_false_iff_eq]; omega
        clear h48
        go_wp2_with (first | (go_at_call 28; clear tok0; refine (must_no _ (by first | rfl | assumption | (simp [*])) 90 90 rfl _).mono ?_; rintro e w1 ⟨rfl, hw1⟩; subst w1; unfold thrown))
        exact ⟨rfl, .inl ⟨by rw [hl.out], rfl⟩, rfl⟩
      · have e48 : ((c0.toNat : Int) != 48) = true := by rw [bne_iff_ne]; omega
        have n48 : Hid (b[0]? ≠ some 48) := fun h => h48 (by rw [hc0.out, Option.some.injEq] at h; rw [h]; rfl)
        clear h48
        by_cases hlt : j < n
        · obtain ⟨cD, hcD⟩ : ∃ c : UInt8, Hid (b[j]? = some c) := at_of (by rw [hnn.out]; exact hlt)
          have cd := HC.out j cD hcD.out
          have t1 : (j : Int) < (n : Int) := by omega
          have t2 : (0 : Int) ≤ (j : Int) := by omega
          by_cases h32 : cD.toNat = 32
          · have e32 : ((cD.toNat : Int) == 32) = true := by rw [beq_iff_eq]; omega
            have hl : Hid (Px.longF b = (Px.val (b.take j), j)) := Px.long_yes hD.out d1 n48.out (by rw [hcD.out]; congr 1; exact UInt8.toNat_inj.1 h32)
            clear h32
            go_wp2_with (first | (go_at_call 28; clear tok0; refine (must_yes _ (by first | rfl | assumption | (simp [*])) _ _).mono ?_; rintro e w1 ⟨rfl, hw1⟩; subst w1) | (go_at_call 28; clear tok1; refine (must_yes _ (by first | rfl | assumption | (simp [*])) _ _).mono ?_; rintro e w2 ⟨rfl, hw2⟩; subst w2))
            go_ret2
            refine ⟨.inr ⟨by rw [hl.out]; exact Nat.ne_of_gt d1, ?_⟩, rfl⟩
            rw [hl.out, hV.out]; simp
          · have e32 : ((cD.toNat : Int) == 32) = false := beq_eq_false_iff_ne.2 (by omega)
            have hl : Hid (Px.longF b = (0, 0)) := Px.long_no hD.out (.inr (.inr (fun h => h32 (by rw [hcD.out, Option.some.injEq] at h; rw [h]; rfl))))
            clear h32
            go_wp2_with (first | (go_at_call 28; clear tok0; refine (must_yes _ (by first | rfl | assumption | (simp [*])) _ _).mono ?_; rintro e w1 ⟨rfl, hw1⟩; subst w1) | (go_at_call 28; clear tok1; refine (must_no _ (by first | rfl | assumption | (simp [*])) 90 90 rfl _).mono ?_; rintro e w2 ⟨rfl, hw2⟩; subst w2; unfold thrown))
            exact ⟨rfl, .inl ⟨by rw [hl.out], rfl⟩, rfl⟩
        · have hl : Hid (Px.longF b = (0, 0)) := Px.long_no hD.out (.inr (.inr (fun h => hlt (by have := (List.getElem?_eq_some_iff.1 h).1; rw [hnn.out] at this; exact this))))
          have t1 : ¬ (j : Int) < (n : Int) := by omega
          go_wp2_with (first | (go_at_call 28; clear tok0; refine (must_yes _ (by first | rfl | assumption | (simp [*])) _ _).mono ?_; rintro e w1 ⟨rfl, hw1⟩; subst w1) | (go_at_call 28; clear tok1; refine (must_no _ (by first | rfl | assumption | (simp [*])) 90 90 rfl _).mono ?_; rintro e w2 ⟨rfl, hw2⟩; subst w2; unfold thrown))
          exact ⟨rfl, .inl ⟨by rw [hl.out], rfl⟩, rfl⟩
end Go.Proofs.YtmbabfelnieagabDoor
