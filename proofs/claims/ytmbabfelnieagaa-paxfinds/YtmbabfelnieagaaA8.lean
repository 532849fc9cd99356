/- Lists of pairs in memory; the document's own Find (of tabularyref09). -/
import Derived.Test.YtmbabfelnieagaaA7
namespace Go.Proofs.Ytmbabfelnieagaa
open Go.RowKit Go.Deep
set_option linter.unusedVariables false
set_option linter.unusedSimpArgs false

/-- a list of pairs in memory -/
def PrsAt (w : World) (A : Option Addr) (L : List Px.Pr) : Prop := L = [] ∨ ∃ b off, A = some ⟨b, off, none⟩ ∧ ∀ (i : Nat) (p : Px.Pr), L[i]? = some p → w.cell? ⟨b, off + i * 2, none⟩ = some (.string (Nm.S p.1)) ∧ w.cell? ⟨b, off + i * 2 + 1, none⟩ = some (.string (Nm.S p.2))
theorem PrsAt.keep {w w' : World} {A : Option Addr} {L : List Px.Pr} (h : PrsAt w A L) (g : Bw w w') : PrsAt w' A L := by
  rcases h with h | ⟨b, off, h1, h2⟩
  · exact .inl h
  · refine .inr ⟨b, off, h1, fun i p hp => ?_⟩
    obtain ⟨h3, h4⟩ := h2 i p hp
    have hb := block_lt_of_cell h3
    rw [g.cell (p := ⟨b, off + i * 2, none⟩) hb, g.cell (p := ⟨b, off + i * 2 + 1, none⟩) hb]
    exact ⟨h3, h4⟩
theorem PrsAt.at {w : World} {A : Option Addr} {L : List Px.Pr} (h : PrsAt w A L) (hne : 0 < L.length) : ∃ b off, A = some ⟨b, off, none⟩ ∧ ∀ (i : Nat) (p : Px.Pr), L[i]? = some p → w.cell? ⟨b, off + i * 2, none⟩ = some (.string (Nm.S p.1)) ∧ w.cell? ⟨b, off + i * 2 + 1, none⟩ = some (.string (Nm.S p.2)) := by
  rcases h with h | h
  · rw [h] at hne; simp at hne
  · exact h
namespace Px
theorem find_at {l : List Pr} {k : B} {i : Nat} {p : Pr} (h : l[i]? = some p) (hk : p.1 = k) (hno : ∀ (j : Nat) (q : Pr), j < i → l[j]? = some q → q.1 ≠ k) : find l k = some p.2 := by
  induction l generalizing i with
  | nil => simp at h
  | cons a l ih =>
    cases i with
    | zero =>
      simp at h
      subst h
      unfold find
      rw [if_pos hk]
    | succ i =>
      have ha := hno 0 a (by omega) rfl
      unfold find
      rw [if_neg ha]
      exact ih (by simpa using h) (fun j q hj hq => hno (j + 1) q (by omega) (by simpa using hq))
/-- what Find answers -/
def findE (l : List Pr) (k : B) : B × Nat := match find l k with | some v => (v, 0) | none => ([], 4)
theorem S_eql (a b : B) : ((Nm.S a).toList == (Nm.S b).toList) = decide (a = b) := by
  rw [Nm.toList_S, Nm.toList_S]
  by_cases h : a = b
  · subst h; simp
  · rw [decide_eq_false h, beq_eq_false_iff_ne]; exact h
end Px
set_option maxRecDepth 100000 in
set_option maxHeartbeats 1000000 in
theorem rfind_any (A : Option Addr) (cap : Nat) (L : List Px.Pr) (k : Px.B) (hn : L.length ≤ 4611686018427387904) (w : World) (ha : PrsAt w A L) :
    Calls Try.prog 6 #[.slice A L.length cap, .string (Nm.S k)] w fun e w' => e = .returned (.tuple #[.string (Nm.S (Px.findE L k).1), .int .i64 ((Px.findE L k).2 : Int)]) ∧ w' = w := by
  obtain ⟨rA, rE, hR⟩ : ∃ a b, Hid (Px.findE L k = (a, b)) := ⟨_, _, show Px.findE L k = _ from rfl⟩
  rw [hR.out]
  dsimp only
  obtain ⟨n, hnn⟩ : ∃ n, Hid (L.length = n) := ⟨_, rfl⟩
  rw [hnn.out] at hn ⊢
  have HA : Hid (PrsAt w A L) := ha
  clear ha
  go_enter Try.func6, Try.ntmps6
  go_wp2
  go_loop [6] (fun i => ∃ k' : Nat, k' ≤ n ∧ i = .int .i64 (k' : Int) ∧ Hid (∀ (j : Nat) (q : Px.Pr), j < k' → L[j]? = some q → q.1 ≠ k)) (fun i => n - (intOf i).toNat)
  case atStart => exact ⟨0, Nat.zero_le _, rfl, fun j q hj => absurd hj (Nat.not_lt_zero _)⟩
  case round =>
    obtain ⟨i, hi, rfl, hno⟩ := hrel
    have i0 : (0 : Int) ≤ (i : Int) := Int.natCast_nonneg _
    by_cases hlt : i < n
    · have i1 : (i : Int) < (n : Int) := by omega
      obtain ⟨p, hp⟩ : ∃ p, Hid (L[i]? = some p) := ⟨_, List.getElem?_eq_getElem (by rw [hnn.out]; exact hlt)⟩
      obtain ⟨b, off, rfl, hc⟩ := HA.out.at (by rw [hnn.out]; omega)
      obtain ⟨c1, c2⟩ := hc i p hp.out
      clear hc
      have es := Px.S_eql p.1 k
      by_cases hk : p.1 = k
      · rw [decide_eq_true hk] at es
        have hr := hR.out
        unfold Px.findE at hr
        rw [Px.find_at hp.out hk hno.out] at hr
        rw [Prod.mk.injEq] at hr
        obtain ⟨rfl, rfl⟩ := hr
        clear hk
        go_wp2
        go_ret2
        exact ⟨rfl, rfl⟩
      · rw [decide_eq_false hk] at es
        have hno2 : Hid (∀ (j : Nat) (q : Px.Pr), j < i + 1 → L[j]? = some q → q.1 ≠ k) := fun j q hj hq => by
          rcases Nat.lt_or_ge j i with h | h
          · exact hno.out j q h hq
          · rw [show j = i by omega, hp.out, Option.some.injEq] at hq; rw [← hq]; exact hk
        clear hk
        go_wp2
        go_round
        case rel => exact ⟨i + 1, by omega, by go_num, hno2⟩
        case measure => simp [intOf]; omega
    · have ei : i = n := by omega
      subst ei
      have hr := hR.out
      unfold Px.findE at hr
      rw [Px.find_none (fun x hx => by
        obtain ⟨j, hj⟩ := List.getElem?_of_mem hx
        exact hno.out j x (by have := (List.getElem?_eq_some_iff.1 hj).1; rw [hnn.out] at this; exact this) hj)] at hr
      rw [Prod.mk.injEq] at hr
      obtain ⟨rfl, rfl⟩ := hr
      go_wp2
      go_ret2
      exact ⟨rfl, rfl⟩
end Go.Proofs.Ytmbabfelnieagaa
