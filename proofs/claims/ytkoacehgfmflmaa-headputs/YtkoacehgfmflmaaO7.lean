/- The contract of the document's own Exact; of the statements' own same, of layer 7. -/
import Derived.Test.YtkoacehgfmflmaaO6
import Derived.BigRegion
namespace Go.Proofs.Ytkoacehgfmflmaa
open Go.RowKit Go.Deep
set_option linter.unusedVariables false
set_option linter.unusedSimpArgs false

/-- a call answers whether something holds -/
def TellsO (e : Ending) (P : Prop) : Prop := ∃ x : Bool, e = .returned (.bool x) ∧ (x = true ↔ P)
theorem TellsO.no {P : Prop} (h : ¬ P) : TellsO (.returned (.bool false)) P := ⟨false, rfl, ⟨fun e => Bool.noConfusion e, fun e => absurd e h⟩⟩
theorem TellsO.yes {P : Prop} (h : P) : TellsO (.returned (.bool true)) P := ⟨true, rfl, ⟨fun _ => h, fun _ => rfl⟩⟩

theorem drewN_add7 (w : World) (q : Nat) : ∀ n, (w.drewN q).drewN n = w.drewN (q + n)
  | 0 => rfl
  | n + 1 => by show ((w.drewN q).drewN n).drew = (w.drewN (q + n)).drew; rw [drewN_add7 w q n]
/-- the bytes are the form of n in as many bytes -/
def IsForm (L : Nat) (f : Nat → Int) (n : Nat) : Prop := (n < 8 ^ (L - 1) ∨ n < 256 ^ (L - 1)) ∧ ∀ i, i < L → Oct.formF n L i = f i
/-- what Exact answers, where Get answers n, a, er -/
structure ExactSays (L : Nat) (f : Nat → Int) (n er : Int) (e : Ending) : Prop where
  bad : er ≠ 0 → e = .returned (.tuple #[.int .i64 0, .int .i64 er])
  no : er = 0 → ¬ IsForm L f n.toNat → e = .returned (.tuple #[.int .i64 0, .int .i64 71])
  yes : er = 0 → IsForm L f n.toNat → e = .returned (.tuple #[.int .i64 n, .int .i64 0])
theorem says_ok {L : Nat} {f : Nat → Int} (hf : ∀ i, 0 ≤ f i ∧ f i < 256) {n a er : Int} (h : Oct.Says L f n a er) (h0 : er = 0) : 2 ≤ L ∧ L ≤ 12 ∧ 0 ≤ n ∧ n ≤ 9223372036854775807 := by
  by_cases h1 : 2 ≤ L ∧ L ≤ 12
  · refine ⟨h1.1, h1.2, ?_⟩
    by_cases h2 : f 0 = 128
    · by_cases h3 : Oct.num (fun i => f (1 + i)) (L - 1) ≤ 9223372036854775807
      · obtain ⟨rfl, -, -⟩ := h.wide h1.1 h1.2 h2 h3
        exact ⟨Oct.num_nonneg (fun i => hf _) _, h3⟩
      · have := (h.long h1.1 h1.2 h2 h3).2.2; omega
    · obtain ⟨p, hp⟩ := Oct.run_ex Oct.Blank f L 0 (Nat.zero_le _)
      obtain ⟨q, hq⟩ := Oct.run_ex Oct.Digit f L p hp.top
      obtain ⟨r, hr⟩ := Oct.run_ex Oct.Tail f L q hq.top
      have a1 := h.loose h1.1 h1.2 h2 p q r hp hq hr
      rcases Nat.lt_or_ge r L with h3 | h3
      · have := (a1.2 h3).2.2; omega
      · obtain ⟨rfl, -, -⟩ := a1.1 (by have := hr.top; omega)
        have hqt := hq.top
        have := oct_small (f := f) (p := p) (k := q - p) (by omega) (fun i hi => hq.all (p + i) (by omega) (by omega))
        omega
  · have := (h.arg h1).2.2; omega

set_option maxHeartbeats 1000000 in
theorem rexact_any (A : Option Addr) (L ca : Nat) (f : Nat → Int) (hca : L ≤ ca) (w : World) (hrow : RowAt w A L f) (n a er : Int) (hs : Oct.Says L f n a er) :
    Calls Try.prog 35 #[.slice A L ca] w fun e w' => ExactSays L f n er e ∧ Bw w w' := by
  by_cases h0 : er = 0
  · obtain ⟨h1, h2, h3, h4⟩ := says_ok hrow.2 hs h0
    have e1 : (er != 0) = false := by rw [bne_eq_false_iff_eq]; exact h0
    by_cases hform : n.toNat < 8 ^ (L - 1) ∨ n.toNat < 256 ^ (L - 1)
    · by_cases hall : ∀ i, i < L → Oct.formF n.toNat L i = f i
      · have hF : Hid (IsForm L f n.toNat) := ⟨hform, hall⟩
        have hst : Hid (str (Oct.formF n.toNat L) L = str f L) := by show _ = _; unfold str; rw [List.map_congr_left (fun i hi => hall i (List.mem_range.1 hi))]
        have h0' : Hid (er = 0) := h0
        clear h0 hall
        go_enter Try.func35, Try.ntmps35
        go_wp2_with (first
          | (go_at_call 47; refine (rget_any A L ca f hca _ hrow).mono ?_; rintro e w' ⟨⟨n', a', er', rfl, hs'⟩, hw'⟩; subst w'; obtain ⟨rfl, rfl, rfl⟩ := Oct.says_unique hs hs'; clear hs')
          | (go_at_call 48; refine (rput_any n (L : Int) h4 _).mono ?_; rintro e w1 hp; obtain ⟨g, cap, rfl, hown, hg, hcap, hcm⟩ := hp.form (by omega) (by omega) h3 hform; have hw1 := hp.keeps; have cv1 := conv_row (C := cap) (hown.row (Oct.formF_bd n.toNat L)); have cv2 := conv_row (C := ca) (hrow.keep hw1); rw [Int.toNat_natCast, hst.out] at cv1; clear hp))
        go_ret2
        exact ⟨⟨fun h => absurd h0'.out h, fun _ h => absurd hF.out h, fun _ _ => rfl⟩, hw1⟩
      · have hF : Hid (¬ IsForm L f n.toNat) := fun h => hall h.2
        have hne : Hid (¬ (str (Oct.formF n.toNat L) L).toList = (str f L).toList) := fun h => hall (((str_inj (Oct.formF_bd n.toNat L) hrow.2).1 h).2)
        obtain ⟨X, hX⟩ : ∃ X, Hid (X = str (Oct.formF n.toNat L) L) := ⟨_, rfl⟩
        obtain ⟨Y, hY⟩ : ∃ Y, Hid (Y = str f L) := ⟨_, rfl⟩
        have hxy : (X.toList == Y.toList) = false := by rw [beq_eq_false_iff_ne, hX.out, hY.out]; exact hne.out
        have h0' : Hid (er = 0) := h0
        clear h0 hall hne
        go_enter Try.func35, Try.ntmps35
        go_wp2_with (first
          | (go_at_call 47; refine (rget_any A L ca f hca _ hrow).mono ?_; rintro e w' ⟨⟨n', a', er', rfl, hs'⟩, hw'⟩; subst w'; obtain ⟨rfl, rfl, rfl⟩ := Oct.says_unique hs hs'; clear hs')
          | (go_at_call 48; refine (rput_any n (L : Int) h4 _).mono ?_; rintro e w1 hp; obtain ⟨g, cap, rfl, hown, hg, hcap, hcm⟩ := hp.form (by omega) (by omega) h3 hform; have hw1 := hp.keeps; have cv1 := conv_row (C := cap) (hown.row (Oct.formF_bd n.toNat L)); have cv2 := conv_row (C := ca) (hrow.keep hw1); rw [Int.toNat_natCast, ← hX.out] at cv1; rw [← hY.out] at cv2; clear hp))
        go_ret2
        exact ⟨⟨fun h => absurd h0'.out h, fun _ _ => rfl, fun _ h => absurd h hF.out⟩, hw1⟩
    · have hF : Hid (¬ IsForm L f n.toNat) := fun h => hform h.1
      have h0' : Hid (er = 0) := h0
      clear h0
      go_enter Try.func35, Try.ntmps35
      go_wp2_with (first
        | (go_at_call 47; refine (rget_any A L ca f hca _ hrow).mono ?_; rintro e w' ⟨⟨n', a', er', rfl, hs'⟩, hw'⟩; subst w'; obtain ⟨rfl, rfl, rfl⟩ := Oct.says_unique hs hs'; clear hs')
        | (go_at_call 48; refine (rput_any n (L : Int) h4 _).mono ?_; rintro e w1 hp; obtain rfl := hp.long (by omega) (by omega) h3 hform; have hw1 := hp.keeps; clear hp))
      go_ret2
      exact ⟨⟨fun h => absurd h0'.out h, fun _ _ => rfl, fun _ h => absurd h hF.out⟩, hw1⟩
  · have e1 : (er != 0) = true := by rw [bne_iff_ne]; exact h0
    go_enter Try.func35, Try.ntmps35
    go_wp2_with (go_at_call 47; refine (rget_any A L ca f hca _ hrow).mono ?_; rintro e w' ⟨⟨n', a', er', rfl, hs'⟩, hw'⟩; subst w'; obtain ⟨rfl, rfl, rfl⟩ := Oct.says_unique hs hs'; clear hs')
    go_ret2
    exact ⟨⟨fun _ => rfl, fun h => absurd h h0, fun h => absurd h h0⟩, Bw.refl _⟩
end Go.Proofs.Ytkoacehgfmflmaa
