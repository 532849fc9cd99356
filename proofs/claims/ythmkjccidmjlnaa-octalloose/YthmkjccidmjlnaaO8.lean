/- Contracts of the statements' own lent and kept, of layer 7. -/
import Derived.Test.YthmkjccidmjlnaaO7
namespace Go.Proofs.Ythmkjccidmjlnaa
open Go.RowKit Go.Deep
set_option linter.unusedVariables false
set_option linter.unusedSimpArgs false

/-- bytes, and two marks behind them -/
def lentF (f : Nat → Int) (L i : Nat) : Int := if i < L then f i else if i = L then 201 else 202
theorem lentF_bd {f : Nat → Int} (hf : ∀ i, 0 ≤ f i ∧ f i < 256) (L i : Nat) : 0 ≤ lentF f L i ∧ lentF f L i < 256 := by
  unfold lentF; split
  · exact hf i
  · split <;> decide
set_option maxHeartbeats 1000000 in
theorem lent_any (A : Option Addr) (L ca : Nat) (f : Nat → Int) (hL : L ≤ 140737488351232) (w : World) (hrow : RowAt w A L f) (hnil : A = none → ca = 0) :
    Calls Try.prog 14 #[.slice A L ca] w fun e w' => ∃ g cap, e = .returned (.slice (some ⟨g, 0, none⟩) L cap) ∧ Own w' g (L + 2) (lentF f L) ∧ w.heap.size ≤ g ∧ L + 2 ≤ cap ∧ cap ≤ maxLen ∧ Bw w w' := by
  obtain ⟨i0, hi0, hz0, hz1, hz2⟩ := info_parts info_u8
  have hmx : 0 + L ≤ maxLen := by unfold maxLen; omega
  have hmx2 : L + 2 ≤ maxLen := by unfold maxLen; omega
  go_enter Try.func14, Try.ntmps14
  go_wp2_with (first
    | (at_builtin; refine wpList_append_rowat _ (by rfl) (.tmp 4) (.tmp 5) _ (by rfl) w.heap.size 5 i0 _ 1 Try.underlying22 hi0 hz0 hz1 hz2 rfl _ _ _ (by rfl) (World.ownsRow_nil w _ _ _) A L ca f (by rfl) hrow hnil hmx (by omega) (Nat.le_refl _) ?_; intro v1 w1 hown1 hgrow1; simp only [Nat.zero_add, List.nil_append] at hown1; have bw1 : Bw w w1 := (Below.refl _ _).grown hgrow1 (Nat.le_refl _) (fun k hk => by simp [Value.ownBlock] at hk); have sz1 := bw1.size)
    | (at_builtin; refine wpList_append_lies _ (by rfl) (.tmp 7) (.tmp 8) _ (by rfl) w.heap.size 5 i0 _ 1 1 Try.underlying22 hi0 hz0 hz1 hz2 rfl (by omega) _ _ _ (by rfl) (hown1.alloc _) ⟨w1.heap.size, 0, none⟩ 2 2 [_, _] (by rfl) (by rfl) (World.news_of_block (cs := #[_, _]) (t := 5) (fr := (0, 0)) (heap_alloc_new w1 _)) (by simp [Value.oneCell']) (by omega) hmx2 (by omega) (by simp; omega) (w1.heap.size + 1) (by simp) ?_; intro g3 c3 w3 hown3 hgrow3 hat3 hlt3; have hcap3 : L + 2 ≤ c3 := (by rcases hown3.2 with ⟨e1, _⟩ | ⟨g, cap, cur, e1, _, _, h1, _⟩; cases e1; cases e1; exact h1); have hcap3' : (L : Int) ≤ (c3 : Int) := (by omega)))
  go_ret
  have hown4 : w3.ownsRow w.heap.size 5 1 (.slice (some ⟨g3, 0, none⟩) (L + 2) c3) (L + 2) (cellsU (lentF f L) (L + 2)) := by
    have e : cellsU (lentF f L) (L + 2) = cellsU f L ++ [.int .u8 201, .int .u8 202] := by
      rw [cellsU_succ, cellsU_succ, List.append_assoc]
      congr 1
      · exact List.map_congr_left fun i hi => by unfold lentF; rw [if_pos (List.mem_range.1 hi)]
      · unfold lentF; rw [if_neg (by omega), if_pos rfl, if_neg (by omega), if_neg (by omega)]; rfl
    rw [e]; exact hown3
  obtain ⟨g5, c5, e5, hg5, hc5, hc5', ho5⟩ := Own.of hown4 (by omega)
  cases e5
  exact ⟨g3, c3, rfl, ho5, hg5, hc5, hc5', bw_grow hgrow3 (Below.alloc bw1 sz1 _) (by rw [size_alloc]; omega) (hown1.alloc _)⟩
theorem row_less7 {w : World} {A : Option Addr} {L m : Nat} {f : Nat → Int} (h : RowAt w A L f) (hm : m ≤ L) : RowAt w A m f := by
  refine ⟨?_, h.2⟩
  rcases h.1 with h0 | ⟨b, off, hA, hc⟩
  · exact Or.inl (by omega)
  · exact Or.inr ⟨b, off, hA, fun i hi => hc i (by omega)⟩
set_option maxHeartbeats 1000000 in
theorem kept_yes (g L cap : Nat) (A : Option Addr) (ca : Nat) (f : Nat → Int) (hL : L ≤ 140737488351232) (hcap : L + 2 ≤ cap) (w : World) (hin : RowAt w (some ⟨g, 0, none⟩) (L + 2) (lentF f L)) (hb : RowAt w A L f) :
    Calls Try.prog 17 #[.slice (some ⟨g, 0, none⟩) L cap, .slice A L ca] w fun e w' => e = .returned (.bool true) ∧ Bw w w' := by
  have hlo := row_less7 hin (m := L) (by omega)
  have hcap' : (L : Int) + 2 ≤ (cap : Int) := by omega
  have l0 : (0 : Int) ≤ (L : Int) := Int.natCast_nonneg _
  have cL : ∀ W, Bw w W → W.cell? ⟨g, L, none⟩ = some (.int .u8 201) ∧ W.cell? ⟨g, L + 1, none⟩ = some (.int .u8 202) := fun W hW => by
    obtain ⟨b', o', e, hc⟩ := (hin.keep hW).at (k := 0) (by omega)
    cases e
    have h1 := hc L (by omega)
    have h2 := hc (L + 1) (by omega)
    rw [Nat.zero_add] at h1 h2
    unfold lentF at h1 h2
    rw [if_neg (by omega), if_pos rfl] at h1
    rw [if_neg (by omega), if_neg (by omega)] at h2
    exact ⟨h1, h2⟩
  have HL : Hid (∀ W, Bw w W → W.cell? ⟨g, L, none⟩ = some (.int .u8 201) ∧ W.cell? ⟨g, L + 1, none⟩ = some (.int .u8 202)) := cL
  clear cL
  go_enter Try.func17, Try.ntmps17
  go_wp2_with (go_at_call 11; refine (same7_any _ _ L L cap ca (lentF f L) f (by omega) (by omega) _ hlo hb).mono ?_; rintro e w1 ⟨⟨x, rfl, hx⟩, q, hq⟩; obtain rfl : x = true := hx.2 ⟨rfl, fun i hi => by unfold lentF; rw [if_pos hi]⟩; have hw1 : Bw w w1 := (by rw [hq]; exact Bw.drewN w q); clear hq hx; obtain ⟨k1, k2⟩ := HL.out _ hw1)
  go_ret
  exact ⟨rfl, hw1⟩
theorem says_err {L : Nat} {f : Nat → Int} {n a er : Int} (h : Oct.Says L f n a er) : 0 ≤ er ∧ er ≤ 100 := by
  by_cases h1 : 2 ≤ L ∧ L ≤ 12
  · by_cases h2 : f 0 = 128
    · by_cases h3 : Oct.num (fun i => f (1 + i)) (L - 1) ≤ 9223372036854775807
      · have := (h.wide h1.1 h1.2 h2 h3).2.2; omega
      · have := (h.long h1.1 h1.2 h2 h3).2.2; omega
    · obtain ⟨p, hp⟩ := Oct.run_ex Oct.Blank f L 0 (Nat.zero_le _)
      obtain ⟨q, hq⟩ := Oct.run_ex Oct.Digit f L p hp.top
      obtain ⟨r, hr⟩ := Oct.run_ex Oct.Tail f L q hq.top
      have a1 := h.loose h1.1 h1.2 h2 p q r hp hq hr
      rcases Nat.lt_or_ge r L with h3 | h3
      · have := (a1.2 h3).2.2; omega
      · have := (a1.1 (by have := hr.top; omega)).2.2; omega
  · have := (h.arg h1).2.2; omega
/-- the document's Says has an answer -/
theorem says_ex (L : Nat) (f : Nat → Int) : ∃ n a er, Oct.Says L f n a er := by
  by_cases h1 : 2 ≤ L ∧ L ≤ 12
  · by_cases h2 : f 0 = 128
    · by_cases h3 : Oct.num (fun i => f (1 + i)) (L - 1) ≤ 9223372036854775807
      · exact ⟨_, 0, 0, fun h => absurd h1 h, fun _ _ _ _ => ⟨rfl, rfl, rfl⟩, fun _ _ _ h => absurd h3 h, fun _ _ h => absurd h2 h⟩
      · exact ⟨0, 0, 2, fun h => absurd h1 h, fun _ _ _ h => absurd h h3, fun _ _ _ _ => ⟨rfl, rfl, rfl⟩, fun _ _ h => absurd h2 h⟩
    · obtain ⟨p, hp⟩ := Oct.run_ex Oct.Blank f L 0 (Nat.zero_le _)
      obtain ⟨q, hq⟩ := Oct.run_ex Oct.Digit f L p hp.top
      obtain ⟨r, hr⟩ := Oct.run_ex Oct.Tail f L q hq.top
      rcases Nat.lt_or_ge r L with h3 | h3
      · refine ⟨0, r, 70, fun h => absurd h1 h, fun _ _ h => absurd h h2, fun _ _ h => absurd h h2, fun _ _ _ p' q' r' hp' hq' hr' => ?_⟩
        obtain rfl := Oct.run_unique hp' hp
        obtain rfl := Oct.run_unique hq' hq
        obtain rfl := Oct.run_unique hr' hr
        exact ⟨fun h => by omega, fun _ => ⟨rfl, rfl, rfl⟩⟩
      · refine ⟨Oct.oct f p (q - p), 0, 0, fun h => absurd h1 h, fun _ _ h => absurd h h2, fun _ _ h => absurd h h2, fun _ _ _ p' q' r' hp' hq' hr' => ?_⟩
        obtain rfl := Oct.run_unique hp' hp
        obtain rfl := Oct.run_unique hq' hq
        obtain rfl := Oct.run_unique hr' hr
        exact ⟨fun _ => ⟨rfl, rfl, rfl⟩, fun h => by omega⟩
  · exact ⟨0, 0, 1, fun _ => ⟨rfl, rfl, rfl⟩, fun h1' h2' => absurd ⟨h1', h2'⟩ h1, fun h1' h2' => absurd ⟨h1', h2'⟩ h1, fun h1' h2' => absurd ⟨h1', h2'⟩ h1⟩
end Go.Proofs.Ythmkjccidmjlnaa
