/- The contract of the document's own Exact; of the statements' own same, of layer 7. -/
import Derived.Test.YthmkjccidmjlnabO6
import Derived.BigRegion
namespace Go.Proofs.Ythmkjccidmjlnab
open Go.RowKit Go.Deep
set_option linter.unusedVariables false
set_option linter.unusedSimpArgs false

/-- a call answers whether something holds -/
def TellsO (e : Ending) (P : Prop) : Prop := ∃ x : Bool, e = .returned (.bool x) ∧ (x = true ↔ P)
theorem TellsO.no {P : Prop} (h : ¬ P) : TellsO (.returned (.bool false)) P := ⟨false, rfl, ⟨fun e => Bool.noConfusion e, fun e => absurd e h⟩⟩
theorem TellsO.yes {P : Prop} (h : P) : TellsO (.returned (.bool true)) P := ⟨true, rfl, ⟨fun _ => h, fun _ => rfl⟩⟩

theorem drewN_add7 (w : World) (q : Nat) : ∀ n, (w.drewN q).drewN n = w.drewN (q + n)
  | 0 => rfl
  | n + 1 => by show ((w.drewN q).drewN n).drew = (w.drewN (q + n)).drew; rw [drewN_add7 w q n]
set_option maxHeartbeats 1000000 in
theorem same7_any (A B : Option Addr) (n m ca cb : Nat) (f g : Nat → Int) (hn : n ≤ 4611686018427387904) (hm : m ≤ 4611686018427387904) (w : World) (ha : RowAt w A n f) (hb : RowAt w B m g) :
    Calls Try.prog 9 #[.slice A n ca, .slice B m cb] w fun e w' => TellsO e (n = m ∧ ∀ i, i < n → f i = g i) ∧ ∃ q, w' = w.drewN q := by
  by_cases hnm : n = m
  · subst hnm
    have e1 : ((n : Int) != (n : Int)) = false := by rw [bne_eq_false_iff_eq]
    go_enter Try.func9, Try.ntmps9
    go_wp2
    go_loopw [4, 5] (fun r i wr => ∃ (k q : Nat), k ≤ n ∧ r = .bool false ∧ i = .int .i64 (k : Int) ∧ Hid (∀ i, i < k → f i = g i) ∧ Hid (wr = w.drewN q)) (fun _ i _ => n - (intOf i).toNat)
    case atStart => exact ⟨0, 0, Nat.zero_le _, rfl, rfl, fun i hi => by omega, rfl⟩
    case round =>
      obtain ⟨k, q, hk, rfl, rfl, hall, hq⟩ := hrel
      have k0 : (0 : Int) ≤ (k : Int) := Int.natCast_nonneg _
      have hbw : Bw w wr := by rw [hq.out]; exact Bw.drewN w q
      by_cases hlt : k < n
      · obtain ⟨b1, o1, rfl, hc1⟩ := (ha.keep hbw).at hlt
        obtain ⟨b2, o2, rfl, hc2⟩ := (hb.keep hbw).at hlt
        have c1 := hc1 k hlt
        have c2 := hc2 k hlt
        have t1 : (k : Int) < (n : Int) := by omega
        have hq2 : Hid (∀ nq, wr.drewN nq = w.drewN (q + nq)) := fun nq => by rw [hq.out]; exact drewN_add7 w q nq
        clear hc1 hc2
        by_cases hfg : f k = g k
        · have e2 : (f k != g k) = false := by rw [bne_eq_false_iff_eq]; exact hfg
          have hH : Hid (f k = g k) := hfg
          clear hfg
          go_wp2
          go_quiet (fail)
          go_wp2
          go_roundw
          case rel => exact ⟨k + 1, _, by omega, rfl, by go_num, fun i hi => by rcases Nat.lt_or_ge i k with h | h; exact hall.out i h; rw [show i = k by omega]; exact hH.out, hq2.out _⟩
          case measure => simp [intOf]; omega
        · have e2 : (f k != g k) = true := by rw [bne_iff_ne]; exact hfg
          go_wp2
          go_quiet (fail)
          go_wp2
          go_ret
          exact ⟨TellsO.no (fun h => hfg (h.2 k hlt)), _, hq2.out _⟩
      · have ek : k = n := by omega
        subst ek
        have t1 : ¬ (k : Int) < (k : Int) := by omega
        go_wp2
        go_ret
        first | exact ⟨TellsO.yes ⟨rfl, hall.out⟩, q, hq.out⟩ | exact ⟨TellsO.yes hall.out, q, hq.out⟩
  · have e1 : ((n : Int) != (m : Int)) = true := by rw [bne_iff_ne]; omega
    go_enter Try.func9, Try.ntmps9
    go_wp2
    go_ret
    exact ⟨TellsO.no (fun h => hnm h.1), 0, rfl⟩

/-- the bytes are the form of n in as many bytes -/
def IsForm (L : Nat) (f : Nat → Int) (n : Nat) : Prop := (n < 8 ^ (L - 1) ∨ n < 256 ^ (L - 1)) ∧ ∀ i, i < L → Oct.formF n L i = f i
/-- what Exact answers, where Get answers n, a, er -/
structure ExactSays (L : Nat) (f : Nat → Int) (n er : Int) (e : Ending) : Prop where
  bad : er ≠ 0 → e = .returned (.tuple #[.int .i64 0, .int .i64 er])
  no : er = 0 → ¬ IsForm L f n.toNat → e = .returned (.tuple #[.int .i64 0, .int .i64 71])
  yes : er = 0 → IsForm L f n.toNat → e = .returned (.tuple #[.int .i64 n, .int .i64 0])
theorem says_ok {L : Nat} {f : Nat → Int} (hf : ∀ i, 0 ≤ f i ∧ f i < 256) {n a er : Int} (h : Oct.Says L f n a er) (h0 : er = 0) : 2 ≤ L ∧ L ≤ 12 ∧ 0 ≤ n ∧ n ≤ 9223372036854775807 := by
  by_cases h1 : 2 ≤ L ∧ L ≤ 12
  · refine ⟨h1.1, h1.2, ?_⟩
    by_cases h2 : f 0 = 128
    · by_cases h3 : Oct.num (fun i => f (1 + i)) (L - 1) ≤ 9223372036854775807
      · obtain ⟨rfl, -, -⟩ := h.wide h1.1 h1.2 h2 h3
        exact ⟨Oct.num_nonneg (fun i => hf _) _, h3⟩
      · have := (h.long h1.1 h1.2 h2 h3).2.2; omega
    · obtain ⟨p, hp⟩ := Oct.run_ex Oct.Blank f L 0 (Nat.zero_le _)
      obtain ⟨q, hq⟩ := Oct.run_ex Oct.Digit f L p hp.top
      obtain ⟨r, hr⟩ := Oct.run_ex Oct.Tail f L q hq.top
      have a1 := h.loose h1.1 h1.2 h2 p q r hp hq hr
      rcases Nat.lt_or_ge r L with h3 | h3
      · have := (a1.2 h3).2.2; omega
      · obtain ⟨rfl, -, -⟩ := a1.1 (by have := hr.top; omega)
        have hqt := hq.top
        have := oct_small (f := f) (p := p) (k := q - p) (by omega) (fun i hi => hq.all (p + i) (by omega) (by omega))
        omega
  · have := (h.arg h1).2.2; omega

end Go.Proofs.Ythmkjccidmjlnab
