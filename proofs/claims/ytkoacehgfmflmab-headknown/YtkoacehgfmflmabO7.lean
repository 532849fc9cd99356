/- The contract of the document's own Exact; of the statements' own same, of layer 7. -/
import Derived.Test.YtkoacehgfmflmabO6
import Derived.BigRegion
namespace Go.Proofs.Ytkoacehgfmflmab
open Go.RowKit Go.Deep
set_option linter.unusedVariables false
set_option linter.unusedSimpArgs false

/-- a call answers whether something holds -/
def TellsO (e : Ending) (P : Prop) : Prop := ∃ x : Bool, e = .returned (.bool x) ∧ (x = true ↔ P)
theorem TellsO.no {P : Prop} (h : ¬ P) : TellsO (.returned (.bool false)) P := ⟨false, rfl, ⟨fun e => Bool.noConfusion e, fun e => absurd e h⟩⟩
theorem TellsO.yes {P : Prop} (h : P) : TellsO (.returned (.bool true)) P := ⟨true, rfl, ⟨fun _ => h, fun _ => rfl⟩⟩

theorem drewN_add7 (w : World) (q : Nat) : ∀ n, (w.drewN q).drewN n = w.drewN (q + n)
  | 0 => rfl
  | n + 1 => by show ((w.drewN q).drewN n).drew = (w.drewN (q + n)).drew; rw [drewN_add7 w q n]
/-- the bytes are the form of n in as many bytes -/
def IsForm (L : Nat) (f : Nat → Int) (n : Nat) : Prop := (n < 8 ^ (L - 1) ∨ n < 256 ^ (L - 1)) ∧ ∀ i, i < L → Oct.formF n L i = f i
/-- what Exact answers, where Get answers n, a, er -/
structure ExactSays (L : Nat) (f : Nat → Int) (n er : Int) (e : Ending) : Prop where
  bad : er ≠ 0 → e = .returned (.tuple #[.int .i64 0, .int .i64 er])
  no : er = 0 → ¬ IsForm L f n.toNat → e = .returned (.tuple #[.int .i64 0, .int .i64 71])
  yes : er = 0 → IsForm L f n.toNat → e = .returned (.tuple #[.int .i64 n, .int .i64 0])
theorem says_ok {L : Nat} {f : Nat → Int} (hf : ∀ i, 0 ≤ f i ∧ f i < 256) {n a er : Int} (h : Oct.Says L f n a er) (h0 : er = 0) : 2 ≤ L ∧ L ≤ 12 ∧ 0 ≤ n ∧ n ≤ 9223372036854775807 := by
  by_cases h1 : 2 ≤ L ∧ L ≤ 12
  · refine ⟨h1.1, h1.2, ?_⟩
    by_cases h2 : f 0 = 128
    · by_cases h3 : Oct.num (fun i => f (1 + i)) (L - 1) ≤ 9223372036854775807
      · obtain ⟨rfl, -, -⟩ := h.wide h1.1 h1.2 h2 h3
        exact ⟨Oct.num_nonneg (fun i => hf _) _, h3⟩
      · have := (h.long h1.1 h1.2 h2 h3).2.2; omega
    · obtain ⟨p, hp⟩ := Oct.run_ex Oct.Blank f L 0 (Nat.zero_le _)
      obtain ⟨q, hq⟩ := Oct.run_ex Oct.Digit f L p hp.top
      obtain ⟨r, hr⟩ := Oct.run_ex Oct.Tail f L q hq.top
      have a1 := h.loose h1.1 h1.2 h2 p q r hp hq hr
      rcases Nat.lt_or_ge r L with h3 | h3
      · have := (a1.2 h3).2.2; omega
      · obtain ⟨rfl, -, -⟩ := a1.1 (by have := hr.top; omega)
        have hqt := hq.top
        have := oct_small (f := f) (p := p) (k := q - p) (by omega) (fun i hi => hq.all (p + i) (by omega) (by omega))
        omega
  · have := (h.arg h1).2.2; omega

end Go.Proofs.Ytkoacehgfmflmab
