/- Contracts of the program's Get and Exact. -/
import Derived.Test.YtkoacehgfmflmabV4
namespace Go.Proofs.Ytkoacehgfmflmab
open Go.RowKit Go.Deep
set_option linter.unusedVariables false
set_option linter.unusedSimpArgs false

set_option maxHeartbeats 1000000 in
theorem oget_arg (A : Option Addr) (L ca : Nat) (f : Nat → Int) (h : ¬ (2 ≤ L ∧ L ≤ 12)) (w : World) :
    Calls Try.prog 35 #[.slice A L ca] w fun e w' => GetSays L f e ∧ w' = w := by
  go_enter Try.func35, Try.ntmps35
  go_wp2_with (go_at_call 31; refine (isw_no (L : Int) (by omega) _).mono ?_; rintro e w' ⟨rfl, hw'⟩; subst w')
  try simp only [Exit.inBlock, Exit.then]
  refine bodyPost_ret (results_tmp3 rfl _ _ _) rfl ?_
  exact ⟨⟨0, 0, 1, rfl, fun _ => ⟨rfl, rfl, rfl⟩, fun h1 h2 => absurd ⟨h1, h2⟩ h, fun h1 h2 => absurd ⟨h1, h2⟩ h, fun h1 h2 => absurd ⟨h1, h2⟩ h⟩, rfl⟩

set_option maxHeartbeats 1000000 in
theorem oget_wide (b o L ca : Nat) (f : Nat → Int) (h1 : 2 ≤ L) (h2 : L ≤ 12) (h3 : f 0 = 128) (hca : L ≤ ca) (w : World) (hrow : RowAt w (some ⟨b, o, none⟩) L f) :
    Calls Try.prog 35 #[.slice (some ⟨b, o, none⟩) L ca] w fun e w' => GetSays L f e ∧ w' = w := by
  obtain ⟨b', o', e, hc⟩ := hrow.at (k := 0) (by omega)
  cases e
  have c0 := hc 0 (by omega)
  rw [h3, Nat.add_zero] at c0
  have hr1 : RowAt w (some ⟨b, o + 1, none⟩) (L - 1) (fun i => f (1 + i)) := ⟨Or.inr ⟨b, o + 1, rfl, fun i hi => by rw [Nat.add_assoc]; exact hc (1 + i) (by omega)⟩, fun i => hrow.2 _⟩
  have d1 : ¬ ca = 1 := by omega
  have l0 : (0 : Int) < (L : Int) := by omega
  have l1 : (1 : Int) ≤ (L : Int) := by omega
  clear hc
  by_cases hM : Oct.num (fun i => f (1 + i)) (L - 1) ≤ 9223372036854775807
  · have HM : Hid (Oct.num (fun i => f (1 + i)) (L - 1) ≤ 9223372036854775807) := hM
    clear hM
    go_enter Try.func35, Try.ntmps35
    go_wp2_with (first | (go_at_call 31; refine (isw_yes (L : Int) (by omega) (by omega) _).mono ?_; rintro e w' ⟨rfl, hw'⟩; subst w') | (go_at_call 42; refine (number_any _ (L - 1) _ (fun i => f (1 + i)) (by omega) _ hr1).mono ?_; rintro e w' ⟨⟨n, x, rfl, hy, hn⟩, hw'⟩; subst w'; obtain ⟨rfl, rfl⟩ := hy HM.out))
    try simp only [Exit.inBlock, Exit.then]
    refine bodyPost_ret (results_tmp3 rfl _ _ _) rfl ?_
    exact ⟨⟨_, 0, 0, rfl, fun h => absurd ⟨h1, h2⟩ h, fun _ _ _ _ => ⟨rfl, rfl, rfl⟩, fun _ _ _ h => absurd HM.out h, fun _ _ h => absurd h3 h⟩, rfl⟩
  · have HM : Hid (9223372036854775807 < Oct.num (fun i => f (1 + i)) (L - 1)) := Int.not_le.1 hM
    clear hM
    go_enter Try.func35, Try.ntmps35
    go_wp2_with (first | (go_at_call 31; refine (isw_yes (L : Int) (by omega) (by omega) _).mono ?_; rintro e w' ⟨rfl, hw'⟩; subst w') | (go_at_call 42; refine (number_any _ (L - 1) _ (fun i => f (1 + i)) (by omega) _ hr1).mono ?_; rintro e w' ⟨⟨n, x, rfl, hy, hn⟩, hw'⟩; subst w'; obtain ⟨rfl, rfl⟩ := hn (Int.not_le.2 HM.out)))
    try simp only [Exit.inBlock, Exit.then]
    refine bodyPost_ret (results_tmp3 rfl _ _ _) rfl ?_
    exact ⟨⟨0, 0, 2, rfl, fun h => absurd ⟨h1, h2⟩ h, fun _ _ _ h => absurd h (Int.not_le.2 HM.out), fun _ _ _ _ => ⟨rfl, rfl, rfl⟩, fun _ _ h => absurd h3 h⟩, rfl⟩

set_option maxHeartbeats 1000000 in
theorem oget_loose (b o L ca : Nat) (f : Nat → Int) (h1 : 2 ≤ L) (h2 : L ≤ 12) (h3 : ¬ f 0 = 128) (hca : L ≤ ca) (w : World) (hrow : RowAt w (some ⟨b, o, none⟩) L f) :
    Calls Try.prog 35 #[.slice (some ⟨b, o, none⟩) L ca] w fun e w' => GetSays L f e ∧ w' = w := by
  obtain ⟨b', o', e, hc⟩ := hrow.at (k := 0) (by omega)
  cases e
  have c0 := hc 0 (by omega)
  rw [Nat.add_zero] at c0
  have e0 : (f 0 == 128) = false := by rw [beq_eq_false_iff_ne]; exact h3
  have l0 : (0 : Int) < (L : Int) := by omega
  obtain ⟨p, hp⟩ := Oct.run_ex Oct.Blank f L 0 (Nat.zero_le _)
  obtain ⟨q, hq⟩ := Oct.run_ex Oct.Digit f L p hp.top
  obtain ⟨r, hr⟩ := Oct.run_ex Oct.Tail f L q hq.top
  have hrt := hr.top
  have HU : Hid (∀ u a, SpellSays f L u a → u = Oct.oct f p (q - p) ∧ a = (r : Int)) := by
    rintro u a ⟨p', q', r', hp', hq', hr', hu, ha⟩
    obtain rfl := Oct.run_unique hp' hp
    obtain rfl := Oct.run_unique hq' hq
    obtain rfl := Oct.run_unique hr' hr
    exact ⟨hu, ha⟩
  have HS : Hid (∀ n a er, ((r = L → n = Oct.oct f p (q - p) ∧ a = 0 ∧ er = 0) ∧ (r < L → n = 0 ∧ a = (r : Int) ∧ er = 70)) → Oct.Says L f n a er) := by
    intro n a er h
    refine ⟨fun h' => absurd ⟨h1, h2⟩ h', fun _ _ h' => absurd h' h3, fun _ _ h' => absurd h' h3, fun _ _ _ p' q' r' hp' hq' hr' => ?_⟩
    obtain rfl := Oct.run_unique hp' hp
    obtain rfl := Oct.run_unique hq' hq
    obtain rfl := Oct.run_unique hr' hr
    exact h
  clear hp hq hr hc
  obtain ⟨U, hU⟩ : ∃ U, Hid (U = Oct.oct f p (q - p)) := ⟨_, rfl⟩
  rcases Nat.lt_or_ge r L with hlt | hge
  · have t1 : (r : Int) < (L : Int) := by omega
    go_enter Try.func35, Try.ntmps35
    go_wp2_with (first | (go_at_call 31; refine (isw_yes (L : Int) (by omega) (by omega) _).mono ?_; rintro e w' ⟨rfl, hw'⟩; subst w') | (go_at_call 43; refine (spelled_any b o L ca f h2 _ hrow).mono ?_; rintro e w' ⟨⟨u, a, rfl, hs⟩, hw'⟩; subst w'; obtain ⟨hu, rfl⟩ := HU.out _ _ hs.out; rw [← hU.out] at hu; subst u; clear hs))
    try simp only [Exit.inBlock, Exit.then]
    refine bodyPost_ret (results_tmp3 rfl _ _ _) rfl ?_
    exact ⟨⟨0, r, 70, rfl, HS.out _ _ _ ⟨fun h => by omega, fun _ => ⟨rfl, rfl, rfl⟩⟩⟩, rfl⟩
  · have er : r = L := by omega
    subst er
    go_enter Try.func35, Try.ntmps35
    go_wp2_with (first | (go_at_call 31; refine (isw_yes (r : Int) (by omega) (by omega) _).mono ?_; rintro e w' ⟨rfl, hw'⟩; subst w') | (go_at_call 43; refine (spelled_any b o r ca f h2 _ hrow).mono ?_; rintro e w' ⟨⟨u, a, rfl, hs⟩, hw'⟩; subst w'; obtain ⟨hu, rfl⟩ := HU.out _ _ hs.out; rw [← hU.out] at hu; subst u; clear hs))
    try simp only [Exit.inBlock, Exit.then]
    refine bodyPost_ret (results_tmp3 rfl _ _ _) rfl ?_
    exact ⟨⟨U, 0, 0, rfl, HS.out _ _ _ ⟨fun _ => ⟨hU.out, rfl, rfl⟩, fun h => by omega⟩⟩, rfl⟩

theorem oget_still (A : Option Addr) (L ca : Nat) (f : Nat → Int) (hca : L ≤ ca) (w : World) (hrow : RowAt w A L f) :
    Calls Try.prog 35 #[.slice A L ca] w fun e w' => GetSays L f e ∧ w' = w := by
  by_cases h : 2 ≤ L ∧ L ≤ 12
  · obtain ⟨b, o, rfl, -⟩ := hrow.at (k := 0) (by omega)
    by_cases h3 : f 0 = 128
    · exact oget_wide b o L ca f h.1 h.2 h3 hca w hrow
    · exact oget_loose b o L ca f h.1 h.2 h3 hca w hrow
  · exact oget_arg A L ca f h w
theorem oget_any (A : Option Addr) (L ca : Nat) (f : Nat → Int) (hca : L ≤ ca) (w : World) (hrow : RowAt w A L f) :
    Calls Try.prog 35 #[.slice A L ca] w fun e w' => GetSays L f e ∧ Bw w w' := by
  refine (oget_still A L ca f hca w hrow).mono ?_
  rintro e w' ⟨hs, hw'⟩
  subst w'
  exact ⟨hs, Bw.refl _⟩
set_option maxHeartbeats 1000000 in
theorem oexact_any (A : Option Addr) (L ca : Nat) (f : Nat → Int) (hca : L ≤ ca) (w : World) (hrow : RowAt w A L f) (n a er : Int) (hs : Oct.Says L f n a er) :
    Calls Try.prog 29 #[.slice A L ca] w fun e w' => ExactSays L f n er e ∧ Bw w w' := by
  by_cases h0 : er = 0
  · obtain ⟨h1, h2, h3, h4⟩ := says_ok hrow.2 hs h0
    have eL : ((L : Int)).toNat = L := Int.toNat_natCast _
    subst h0
    by_cases hform : n.toNat < 8 ^ (L - 1) ∨ n.toNat < 256 ^ (L - 1)
    · have hform' : Hid (n.toNat < 8 ^ (L - 1) ∨ n.toNat < 256 ^ (L - 1)) := hform
      by_cases hall : ∀ i, i < L → Oct.formF n.toNat L i = f i
      · have hF : Hid (IsForm L f n.toNat) := ⟨hform, hall⟩
        have hall' : Hid (∀ i, i < L → Oct.formF n.toNat L i = f i) := hall
        clear hform hall
        go_enter Try.func29, Try.ntmps29
        go_wp2_with (first
          | (go_at_call 35; refine (oget_still A L ca f hca _ hrow).mono ?_; rintro e w' ⟨⟨n', a', er', rfl, hs'⟩, hw'⟩; subst w'; obtain ⟨rfl, rfl, rfl⟩ := Oct.says_unique hs hs'; clear hs')
          | (go_at_call 27; refine (oput_any n (L : Int) h4 _).mono ?_; rintro e w1 hp; obtain ⟨g, rfl, ho, hg⟩ := hp.form (by omega) (by omega) h3 (by rw [eL]; exact hform'.out); have hw1 := hp.keeps; clear hp; rw [eL] at ho; rw [eL])
          | (go_at_call 36; refine (equal7_any _ _ L L L ca (Oct.formF n.toNat L) f _ (ho.row (Oct.formF_bd _ _)) (hrow.keep hw1)).mono ?_; rintro e w' ⟨x, rfl, hx, hw'⟩; subst w'; obtain rfl : x = true := hx.2 ⟨rfl, hall'.out⟩))
        go_ret2
        exact ⟨⟨fun h => absurd rfl h, fun _ h => absurd hF.out h, fun _ _ => rfl⟩, hw1⟩
      · have hF : Hid (¬ IsForm L f n.toNat) := fun h => hall h.2
        have hall' : Hid (¬ ∀ i, i < L → Oct.formF n.toNat L i = f i) := hall
        clear hform hall
        go_enter Try.func29, Try.ntmps29
        go_wp2_with (first
          | (go_at_call 35; refine (oget_still A L ca f hca _ hrow).mono ?_; rintro e w' ⟨⟨n', a', er', rfl, hs'⟩, hw'⟩; subst w'; obtain ⟨rfl, rfl, rfl⟩ := Oct.says_unique hs hs'; clear hs')
          | (go_at_call 27; refine (oput_any n (L : Int) h4 _).mono ?_; rintro e w1 hp; obtain ⟨g, rfl, ho, hg⟩ := hp.form (by omega) (by omega) h3 (by rw [eL]; exact hform'.out); have hw1 := hp.keeps; clear hp; rw [eL] at ho; rw [eL])
          | (go_at_call 36; refine (equal7_any _ _ L L L ca (Oct.formF n.toNat L) f _ (ho.row (Oct.formF_bd _ _)) (hrow.keep hw1)).mono ?_; rintro e w' ⟨x, rfl, hx, hw'⟩; subst w'; obtain rfl : x = false := by (cases x with | false => rfl | true => exact absurd (hx.1 rfl).2 hall'.out)))
        go_ret2
        exact ⟨⟨fun h => absurd rfl h, fun _ _ => rfl, fun _ h => absurd h hF.out⟩, hw1⟩
    · have hF : Hid (¬ IsForm L f n.toNat) := fun h => hform h.1
      have hform' : Hid (¬ (n.toNat < 8 ^ (L - 1) ∨ n.toNat < 256 ^ (L - 1))) := hform
      clear hform
      go_enter Try.func29, Try.ntmps29
      go_wp2_with (first
        | (go_at_call 35; refine (oget_still A L ca f hca _ hrow).mono ?_; rintro e w' ⟨⟨n', a', er', rfl, hs'⟩, hw'⟩; subst w'; obtain ⟨rfl, rfl, rfl⟩ := Oct.says_unique hs hs'; clear hs')
        | (go_at_call 27; refine (oput_any n (L : Int) h4 _).mono ?_; rintro e w1 hp; obtain rfl := hp.long (by omega) (by omega) h3 (by rw [eL]; exact hform'.out); have hw1 := hp.keeps; clear hp)
        | (go_at_call 36; refine (equal7_any _ _ 0 L 0 ca (fun _ => 0) f _ (row_none _) (hrow.keep hw1)).mono ?_; rintro e w' ⟨x, rfl, hx, hw'⟩; subst w'; obtain rfl : x = false := by (cases x with | false => rfl | true => exact absurd (hx.1 rfl).1 (by omega))))
      go_ret2
      exact ⟨⟨fun h => absurd rfl h, fun _ _ => rfl, fun _ h => absurd h hF.out⟩, hw1⟩
  · have e1 : (er != 0) = true := by rw [bne_iff_ne]; exact h0
    go_enter Try.func29, Try.ntmps29
    go_wp2_with (go_at_call 35; refine (oget_still A L ca f hca _ hrow).mono ?_; rintro e w' ⟨⟨n', a', er', rfl, hs'⟩, hw'⟩; subst w'; obtain ⟨rfl, rfl, rfl⟩ := Oct.says_unique hs hs'; clear hs')
    go_ret2
    exact ⟨⟨fun _ => rfl, fun h => absurd h h0, fun h => absurd h h0⟩, Bw.refl _⟩
end Go.Proofs.Ytkoacehgfmflmab
