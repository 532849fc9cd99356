/- Contract of the program's spelled: the rows of a loose field of digits. -/
import Derived.Test.YtkoacehgfmflmabV2
namespace Go.Proofs.Ytkoacehgfmflmab
open Go.RowKit Go.Deep
set_option linter.unusedVariables false
set_option linter.unusedSimpArgs false

/-- what spelled has seen when it stands at k: the row r, the number u -/
def SpellAt (f : Nat → Int) (L k : Nat) (r u : Int) : Prop :=
  (r = 0 ∧ u = 0 ∧ ∀ i, i < k → Oct.Blank (f i))
  ∨ (r = 1 ∧ ∃ p, p < k ∧ Oct.Run Oct.Blank f L 0 p ∧ (∀ i, p ≤ i → i < k → Oct.Digit (f i)) ∧ u = Oct.oct f p (k - p))
  ∨ (r = 2 ∧ ∃ p q, q < k ∧ Oct.Run Oct.Blank f L 0 p ∧ Oct.Run Oct.Digit f L p q ∧ (∀ i, q ≤ i → i < k → Oct.Tail (f i)) ∧ u = Oct.oct f p (q - p))
/-- what spelled answers -/
def SpellSays (f : Nat → Int) (L : Nat) (u a : Int) : Prop := ∃ p q r, Oct.Run Oct.Blank f L 0 p ∧ Oct.Run Oct.Digit f L p q ∧ Oct.Run Oct.Tail f L q r ∧ u = Oct.oct f p (q - p) ∧ a = (r : Int)

theorem spell_blank {f : Nat → Int} {L k : Nat} {u : Int} (h : SpellAt f L k 0 u) (hb : f k = 32) : SpellAt f L (k + 1) 0 u := by
  rcases h with ⟨_, hu, ha⟩ | ⟨h, _⟩ | ⟨h, _⟩
  · refine Or.inl ⟨rfl, hu, fun i hi => ?_⟩
    rcases Nat.lt_or_ge i k with h | h
    · exact ha i h
    · rw [show i = k by omega]; exact hb
  · exact absurd h (by decide)
  · exact absurd h (by decide)
theorem spell_digit {f : Nat → Int} {L k : Nat} {r u : Int} (hk : k < L) (h : SpellAt f L k r u) (hr : r ≠ 2) (h1 : 48 ≤ f k) (h2 : f k ≤ 55) : SpellAt f L (k + 1) 1 (u * 8 + (f k - 48)) := by
  rcases h with ⟨_, hu, ha⟩ | ⟨_, p, hp, hb, hd, hu⟩ | ⟨h, _⟩
  · refine Or.inr (Or.inl ⟨rfl, k, by omega, ⟨Nat.zero_le _, by omega, fun i _ hi => ha i hi, fun _ hb => by unfold Oct.Blank at hb; omega⟩, fun i h3 h4 => ?_, ?_⟩)
    · rw [show i = k by omega]; exact ⟨h1, h2⟩
    · rw [hu, show k + 1 - k = 1 by omega]; show _ = 8 * 0 + (f (k + 0) - 48); rw [Nat.add_zero]; omega
  · refine Or.inr (Or.inl ⟨rfl, p, by omega, hb, fun i h3 h4 => ?_, ?_⟩)
    · rcases Nat.lt_or_ge i k with h | h
      · exact hd i h3 h
      · rw [show i = k by omega]; exact ⟨h1, h2⟩
    · rw [show k + 1 - p = (k - p) + 1 by omega, hu]; show _ = 8 * Oct.oct f p (k - p) + (f (p + (k - p)) - 48); rw [show p + (k - p) = k by omega]; omega
  · exact absurd h hr
theorem spell_tail {f : Nat → Int} {L k : Nat} {r u : Int} (hk : k < L) (h : SpellAt f L k r u) (hn : ¬ (f k = 32 ∧ r = 0)) (hb : Oct.Tail (f k)) : SpellAt f L (k + 1) 2 u := by
  rcases h with ⟨h0, hu, ha⟩ | ⟨_, p, hp, hb', hd, hu⟩ | ⟨_, p, q, hq, hb', hd, ht, hu⟩
  · have hz : f k = 0 := hb.elim id (fun h => absurd ⟨h, h0⟩ hn)
    refine Or.inr (Or.inr ⟨rfl, k, k, by omega, ⟨Nat.zero_le _, by omega, fun i _ hi => ha i hi, fun _ h => by unfold Oct.Blank at h; omega⟩, ⟨Nat.le_refl _, by omega, fun i h1 h2 => by omega, fun _ h => by unfold Oct.Digit at h; omega⟩, fun i h1 h2 => ?_, ?_⟩)
    · rw [show i = k by omega]; exact hb
    · rw [Nat.sub_self]; exact hu
  · refine Or.inr (Or.inr ⟨rfl, p, k, by omega, hb', ⟨by omega, by omega, hd, fun _ h => by unfold Oct.Digit at h; unfold Oct.Tail at hb; omega⟩, fun i h1 h2 => ?_, hu⟩)
    rw [show i = k by omega]; exact hb
  · refine Or.inr (Or.inr ⟨rfl, p, q, by omega, hb', hd, fun i h1 h2 => ?_, hu⟩)
    rcases Nat.lt_or_ge i k with h | h
    · exact ht i h1 h
    · rw [show i = k by omega]; exact hb
/-- where it stops -/
theorem spell_stop {f : Nat → Int} {L k : Nat} {r u : Int} (hk : k ≤ L) (h : SpellAt f L k r u) (hs : k < L → ¬ Oct.Tail (f k) ∧ (Oct.Digit (f k) → r = 2)) : SpellSays f L u (k : Int) := by
  rcases h with ⟨h0, hu, ha⟩ | ⟨h0, p, hp, hb', hd, hu⟩ | ⟨_, p, q, hq, hb', hd, ht, hu⟩
  · refine ⟨k, k, k, ⟨Nat.zero_le _, hk, fun i _ hi => ha i hi, fun h h2 => (hs h).1 (Or.inr h2)⟩, ⟨Nat.le_refl _, hk, fun i h1 h2 => by omega, fun h h2 => by have := (hs h).2 h2; omega⟩, ⟨Nat.le_refl _, hk, fun i h1 h2 => by omega, fun h => (hs h).1⟩, by rw [Nat.sub_self]; exact hu, rfl⟩
  · exact ⟨p, k, k, hb', ⟨by omega, hk, hd, fun h h2 => by have := (hs h).2 h2; omega⟩, ⟨Nat.le_refl _, hk, fun i h1 h2 => by omega, fun h => (hs h).1⟩, hu, rfl⟩
  · exact ⟨p, q, k, hb', hd, ⟨by omega, hk, ht, fun h => (hs h).1⟩, hu, rfl⟩
theorem spell_row {f : Nat → Int} {L k : Nat} {r u : Int} (h : SpellAt f L k r u) : r = 0 ∨ r = 1 ∨ r = 2 := by
  rcases h with ⟨h, _⟩ | ⟨h, _⟩ | ⟨h, _⟩ <;> omega
theorem oct_small7 {f : Nat → Int} {p k : Nat} (hk : k ≤ 12) (h : ∀ i, i < k → Oct.Digit (f (p + i))) : 0 ≤ Oct.oct f p k ∧ Oct.oct f p k < 68719476736 := by
  have h1 := Oct.oct_bound k h
  have h2 : (8 : Int) ^ k ≤ 8 ^ 12 := by
    have h13 : k = 0 ∨ k = 1 ∨ k = 2 ∨ k = 3 ∨ k = 4 ∨ k = 5 ∨ k = 6 ∨ k = 7 ∨ k = 8 ∨ k = 9 ∨ k = 10 ∨ k = 11 ∨ k = 12 := by omega
    rcases h13 with rfl | rfl | rfl | rfl | rfl | rfl | rfl | rfl | rfl | rfl | rfl | rfl | rfl <;> decide
  have h3 : (8 : Int) ^ 12 = 68719476736 := by decide
  omega
theorem spell_bound {f : Nat → Int} {L k : Nat} {r u : Int} (hk : k ≤ L) (hL : L ≤ 12) (h : SpellAt f L k r u) : 0 ≤ u ∧ u < 68719476736 := by
  rcases h with ⟨_, rfl, _⟩ | ⟨_, p, hp, _, hd, rfl⟩ | ⟨_, p, q, hq, _, hd, _, rfl⟩
  · decide
  · exact oct_small7 (by omega) (fun i hi => hd _ (by omega) (by omega))
  · exact oct_small7 (by have := hd.top; omega) (fun i hi => hd.all _ (by omega) (by omega))

set_option maxRecDepth 100000 in
set_option maxHeartbeats 2000000 in
theorem spelled_any (b o L ca : Nat) (f : Nat → Int) (hL : L ≤ 12) (w : World) (hrow : RowAt w (some ⟨b, o, none⟩) L f) :
    Calls Try.prog 43 #[.slice (some ⟨b, o, none⟩) L ca] w fun e w' => (∃ u a, e = .returned (.tuple #[.int .i64 u, .int .i64 a]) ∧ Hid (SpellSays f L u a)) ∧ w' = w := by
  have HC : Hid (∀ k, k < L → w.cell? ⟨b, o + k, none⟩ = some (.int .u8 (f k))) := fun k hk => by
    obtain ⟨b', o', e, hc⟩ := hrow.at hk
    cases e
    exact hc k hk
  have HB : Hid (∀ i, 0 ≤ f i ∧ f i < 256) := hrow.2
  clear hrow
  go_enter Try.func43, Try.ntmps43
  go_wp2
  go_step3
  go_wp2
  go_step3
  go_wp2
  go_loop [4, 5, 6] (fun n i r => ∃ (k : Nat) (R u : Int), k ≤ L ∧ i = .int .i64 (k : Int) ∧ r = .int .i64 R ∧ n = .int .i64 u ∧ Hid (SpellAt f L k R u)) (fun _ i _ => L - (intOf i).toNat)
  case atStart => exact ⟨0, 0, 0, Nat.zero_le _, rfl, rfl, rfl, Or.inl ⟨rfl, rfl, fun i hi => by omega⟩⟩
  case round =>
    obtain ⟨k, R, u, hk, rfl, rfl, rfl, hs⟩ := hrel
    have k0 : (0 : Int) ≤ (k : Int) := Int.natCast_nonneg _
    by_cases hlt : k < L
    · have t1 : (k : Int) < (L : Int) := by omega
      have c1 := HC.out k hlt
      obtain ⟨b0, b1⟩ := HB.out k
      obtain ⟨x, hx⟩ : ∃ x, Hid (x = f k) := ⟨_, rfl⟩
      rw [← hx.out] at c1 b0 b1
      obtain ⟨u0, u1⟩ := spell_bound hk hL hs.out
      by_cases hbl : x = 32 ∧ R = 0
      · obtain ⟨hx32, rfl⟩ := hbl
        subst hx32
        go_wp2
        go_round
        case rel => exact ⟨k + 1, 0, u, by omega, by go_num, rfl, rfl, spell_blank hs.out hx.out.symm⟩
        case measure => simp [intOf]; omega
      · by_cases hdg : (48 ≤ x ∧ x ≤ 55) ∧ R ≠ 2
        · obtain ⟨⟨d1, d2⟩, hR⟩ := hdg
          have e1 : (x == 32) = false := by rw [beq_eq_false_iff_ne]; omega
          have e2 : (R != 2) = true := by rw [bne_iff_ne]; exact hR
          have ho : bits .or .i64 (u * 8) (x - 48) = u * 8 + (x - 48) := or3 u (x - 48) u0 (by omega) (by omega) (by omega)
          have hnx : Hid (SpellAt f L (k + 1) 1 (u * 8 + (x - 48))) := by have := spell_digit hlt hs.out hR (by rw [← hx.out]; exact d1) (by rw [← hx.out]; exact d2); rw [← hx.out] at this; exact this
          go_wp2
          go_round
          case rel => exact ⟨k + 1, 1, u * 8 + (x - 48), by omega, by go_num, rfl, by go_num, hnx⟩
          case measure => simp [intOf]; omega
        · by_cases h32 : x = 32
          · have hR : R ≠ 0 := fun h => hbl ⟨h32, h⟩
            have e2 : (R == 0) = false := by rw [beq_eq_false_iff_ne]; exact hR
            have hnx : Hid (SpellAt f L (k + 1) 2 u) := spell_tail hlt hs.out (fun h => hR h.2) (Or.inr (by rw [← hx.out]; exact h32))
            subst h32
            go_wp2
            go_round
            case rel => exact ⟨k + 1, 2, u, by omega, by go_num, rfl, rfl, hnx⟩
            case measure => simp [intOf]; omega
          · by_cases h0 : x = 0
            · have hnx : Hid (SpellAt f L (k + 1) 2 u) := spell_tail hlt hs.out (fun h => h32 (by rw [hx.out]; exact h.1)) (Or.inl (by rw [← hx.out]; exact h0))
              subst h0
              go_wp2
              go_round
              case rel => exact ⟨k + 1, 2, u, by omega, by go_num, rfl, rfl, hnx⟩
              case measure => simp [intOf]; omega
            · have e1 : (x == 32) = false := by rw [beq_eq_false_iff_ne]; exact h32
              have e3 : (x == 0) = false := by rw [beq_eq_false_iff_ne]; exact h0
              have hse : Hid (SpellSays f L u (k : Int)) := spell_stop hk hs.out (fun _ => ⟨fun h => by rw [← hx.out] at h; exact h.elim h0 h32, fun h => by
                rw [← hx.out] at h
                rcases spell_row hs.out with hr | hr | hr
                · exact absurd ⟨h, by omega⟩ hdg
                · exact absurd ⟨h, by omega⟩ hdg
                · exact hr⟩)
              by_cases h48 : 48 ≤ x
              · by_cases h55 : x ≤ 55
                · have hR : R = 2 := by
                    rcases spell_row hs.out with hr | hr | hr
                    · exact absurd ⟨⟨h48, h55⟩, by omega⟩ hdg
                    · exact absurd ⟨⟨h48, h55⟩, by omega⟩ hdg
                    · exact hr
                  subst hR
                  go_wp2
                  try simp only [Exit.noGoto_exit]
                  try go_wp2
                  go_ret2
                  exact ⟨⟨u, k, rfl, hse⟩, rfl⟩
                · go_wp2
                  try simp only [Exit.noGoto_exit]
                  try go_wp2
                  go_ret2
                  exact ⟨⟨u, k, rfl, hse⟩, rfl⟩
              · go_wp2
                try simp only [Exit.noGoto_exit]
                try go_wp2
                go_ret2
                exact ⟨⟨u, k, rfl, hse⟩, rfl⟩
    · have ek : k = L := by omega
      subst ek
      have hse : Hid (SpellSays f k u (k : Int)) := spell_stop (Nat.le_refl _) hs.out (fun h => absurd h hlt)
      go_wp2
      go_ret2
      exact ⟨⟨u, k, rfl, hse⟩, rfl⟩
end Go.Proofs.Ytkoacehgfmflmab
