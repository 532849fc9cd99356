/- Contracts of the statements' own lent and kept, of layer 7. -/
import Derived.Test.YtkoacehgfmflmabO7
namespace Go.Proofs.Ytkoacehgfmflmab
open Go.RowKit Go.Deep
set_option linter.unusedVariables false
set_option linter.unusedSimpArgs false

/-- bytes, and two marks behind them -/
def lentF (f : Nat → Int) (L i : Nat) : Int := if i < L then f i else if i = L then 201 else 202
theorem lentF_bd {f : Nat → Int} (hf : ∀ i, 0 ≤ f i ∧ f i < 256) (L i : Nat) : 0 ≤ lentF f L i ∧ lentF f L i < 256 := by
  unfold lentF; split
  · exact hf i
  · split <;> decide
theorem row_less7 {w : World} {A : Option Addr} {L m : Nat} {f : Nat → Int} (h : RowAt w A L f) (hm : m ≤ L) : RowAt w A m f := by
  refine ⟨?_, h.2⟩
  rcases h.1 with h0 | ⟨b, off, hA, hc⟩
  · exact Or.inl (by omega)
  · exact Or.inr ⟨b, off, hA, fun i hi => hc i (by omega)⟩
theorem says_err {L : Nat} {f : Nat → Int} {n a er : Int} (h : Oct.Says L f n a er) : 0 ≤ er ∧ er ≤ 100 := by
  by_cases h1 : 2 ≤ L ∧ L ≤ 12
  · by_cases h2 : f 0 = 128
    · by_cases h3 : Oct.num (fun i => f (1 + i)) (L - 1) ≤ 9223372036854775807
      · have := (h.wide h1.1 h1.2 h2 h3).2.2; omega
      · have := (h.long h1.1 h1.2 h2 h3).2.2; omega
    · obtain ⟨p, hp⟩ := Oct.run_ex Oct.Blank f L 0 (Nat.zero_le _)
      obtain ⟨q, hq⟩ := Oct.run_ex Oct.Digit f L p hp.top
      obtain ⟨r, hr⟩ := Oct.run_ex Oct.Tail f L q hq.top
      have a1 := h.loose h1.1 h1.2 h2 p q r hp hq hr
      rcases Nat.lt_or_ge r L with h3 | h3
      · have := (a1.2 h3).2.2; omega
      · have := (a1.1 (by have := hr.top; omega)).2.2; omega
  · have := (h.arg h1).2.2; omega
/-- the document's Says has an answer -/
theorem says_ex (L : Nat) (f : Nat → Int) : ∃ n a er, Oct.Says L f n a er := by
  by_cases h1 : 2 ≤ L ∧ L ≤ 12
  · by_cases h2 : f 0 = 128
    · by_cases h3 : Oct.num (fun i => f (1 + i)) (L - 1) ≤ 9223372036854775807
      · exact ⟨_, 0, 0, fun h => absurd h1 h, fun _ _ _ _ => ⟨rfl, rfl, rfl⟩, fun _ _ _ h => absurd h3 h, fun _ _ h => absurd h2 h⟩
      · exact ⟨0, 0, 2, fun h => absurd h1 h, fun _ _ _ h => absurd h h3, fun _ _ _ _ => ⟨rfl, rfl, rfl⟩, fun _ _ h => absurd h2 h⟩
    · obtain ⟨p, hp⟩ := Oct.run_ex Oct.Blank f L 0 (Nat.zero_le _)
      obtain ⟨q, hq⟩ := Oct.run_ex Oct.Digit f L p hp.top
      obtain ⟨r, hr⟩ := Oct.run_ex Oct.Tail f L q hq.top
      rcases Nat.lt_or_ge r L with h3 | h3
      · refine ⟨0, r, 70, fun h => absurd h1 h, fun _ _ h => absurd h h2, fun _ _ h => absurd h h2, fun _ _ _ p' q' r' hp' hq' hr' => ?_⟩
        obtain rfl := Oct.run_unique hp' hp
        obtain rfl := Oct.run_unique hq' hq
        obtain rfl := Oct.run_unique hr' hr
        exact ⟨fun h => by omega, fun _ => ⟨rfl, rfl, rfl⟩⟩
      · refine ⟨Oct.oct f p (q - p), 0, 0, fun h => absurd h1 h, fun _ _ h => absurd h h2, fun _ _ h => absurd h h2, fun _ _ _ p' q' r' hp' hq' hr' => ?_⟩
        obtain rfl := Oct.run_unique hp' hp
        obtain rfl := Oct.run_unique hq' hq
        obtain rfl := Oct.run_unique hr' hr
        exact ⟨fun _ => ⟨rfl, rfl, rfl⟩, fun h => by omega⟩
  · exact ⟨0, 0, 1, fun _ => ⟨rfl, rfl, rfl⟩, fun h1' h2' => absurd ⟨h1', h2'⟩ h1, fun h1' h2' => absurd ⟨h1', h2'⟩ h1, fun h1' h2' => absurd ⟨h1', h2'⟩ h1⟩
end Go.Proofs.Ytkoacehgfmflmab
