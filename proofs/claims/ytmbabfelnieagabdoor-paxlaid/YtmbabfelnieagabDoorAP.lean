/- The program's own Find, as landed at 7a0984bd. -/
import Derived.Test.YtmbabfelnieagabDoorAG
namespace Go.Proofs.YtmbabfelnieagabDoor
open Go.RowKit Go.Deep
set_option linter.unusedVariables false
set_option linter.unusedSimpArgs false

set_option maxRecDepth 100000 in
set_option maxHeartbeats 1000000 in
theorem pfind_any (A : Option Addr) (cap : Nat) (L : List Px.Pr) (k : Px.B) (hn : L.length ≤ 4611686018427387904) (w : World) (ha : PrsAt w A L) :
    Calls Tryd.prog 14 #[.slice A L.length cap, .string (Nm.S k)] w fun e w' => e = .returned (.tuple #[.string (Nm.S (Px.findE L k).1), .int .i64 ((Px.findE L k).2 : Int)]) ∧ Bw w w' := by
  obtain ⟨rA, rE, hR⟩ : ∃ a b, Hid (Px.findE L k = (a, b)) := ⟨_, _, show Px.findE L k = _ from rfl⟩
  rw [hR.out]
  dsimp only
  obtain ⟨n, hnn⟩ : ∃ n, Hid (L.length = n) := ⟨_, rfl⟩
  rw [hnn.out] at hn ⊢
  have HA : Hid (PrsAt w A L) := ha
  clear ha
  go_enter Tryd.func14, Tryd.ntmps14
  go_wp2
  go_loopw [10] (fun i wr => ∃ k' : Nat, k' ≤ n ∧ i = .int .i64 (k' : Int) ∧ Hid (∀ (j : Nat) (q : Px.Pr), j < k' → L[j]? = some q → q.1 ≠ k) ∧ Bw w wr) (fun i _ => n - (intOf i).toNat)
  case atStart => exact ⟨0, Nat.zero_le _, rfl, fun j q hj => absurd hj (Nat.not_lt_zero _), Bw.refl _⟩
  case round =>
    obtain ⟨i, hi, rfl, hno, hbw⟩ := hrel
    have i0 : (0 : Int) ≤ (i : Int) := Int.natCast_nonneg _
    by_cases hlt : i < n
    · have i1 : (i : Int) < (n : Int) := by omega
      obtain ⟨p, hp⟩ : ∃ p, Hid (L[i]? = some p) := ⟨_, List.getElem?_eq_getElem (by rw [hnn.out]; exact hlt)⟩
      obtain ⟨b, off, rfl, hc⟩ := (HA.out.keep hbw).at (by rw [hnn.out]; omega)
      obtain ⟨c1, c2⟩ := hc i p hp.out
      clear hc
      have es := Px.S_eql p.1 k
      have hal : ∀ cs : Array Value, Bw w (wr.alloc (.cells cs 23)) := fun cs => hbw.trans (Below.alloc (Below.refl _ _) (Nat.le_refl _) _)
      by_cases hk : p.1 = k
      · rw [decide_eq_true hk] at es
        have hr := hR.out
        unfold Px.findE at hr
        rw [Px.find_at hp.out hk hno.out] at hr
        rw [Prod.mk.injEq] at hr
        obtain ⟨rfl, rfl⟩ := hr
        clear hk
        go_wp2
        go_ret2
        exact ⟨rfl, hal _⟩
      · rw [decide_eq_false hk] at es
        have hno2 : Hid (∀ (j : Nat) (q : Px.Pr), j < i + 1 → L[j]? = some q → q.1 ≠ k) := fun j q hj hq => by
          rcases Nat.lt_or_ge j i with h | h
          · exact hno.out j q h hq
          · rw [show j = i by omega, hp.out, Option.some.injEq] at hq; rw [← hq]; exact hk
        clear hk
        go_wp2
        go_roundw
        case rel => exact ⟨i + 1, by omega, by go_num, hno2, hal _⟩
        case measure => simp [intOf]; omega
    · have ei : i = n := by omega
      subst ei
      have hr := hR.out
      unfold Px.findE at hr
      rw [Px.find_none (fun x hx => by
        obtain ⟨j, hj⟩ := List.getElem?_of_mem hx
        exact hno.out j x (by have := (List.getElem?_eq_some_iff.1 hj).1; rw [hnn.out] at this; exact this) hj)] at hr
      rw [Prod.mk.injEq] at hr
      obtain ⟨rfl, rfl⟩ := hr
      go_wp2
      go_ret2
      exact ⟨rfl, hbw⟩
end Go.Proofs.YtmbabfelnieagabDoor
