/- The statements' helpers of layer 11: whether a lent list was kept. -/
import Derived.Test.YtjifdoneejofiaaU7
namespace Go.Proofs.Ytjifdoneejofiaa
open Go.RowKit Go.Deep
set_option linter.unusedVariables false
set_option linter.unusedSimpArgs false

set_option maxRecDepth 100000 in
set_option maxHeartbeats 4000000 in
theorem kept11_any (g c cb : Nat) (B : Option Addr) (M L : List Tr.Iv) (hl : L.length ≤ 4611686018427387904) (he : Tr.its M = Tr.its L) (w : World) (ha : LentAt w g c M) (hb : ItsAt w B L) :
    Calls Try.prog 14 #[.slice (some ⟨g, 0, none⟩) L.length c, .slice B L.length cb] w fun e w' => e = .returned (.bool true) ∧ Bw w w' := by
  have hml : M.length = L.length := by have := congrArg List.length he; rwa [Tr.its_len, Tr.its_len] at this
  have HS : Hid (∀ u, Bw w u → Calls Try.prog 19 #[.slice (some ⟨g, 0, none⟩) L.length c, .slice B L.length cb] u fun e w' => e = .returned (.bool true) ∧ Bw u w') := fun u hu => by
    have := rsame11_any (some ⟨g, 0, none⟩) B c cb M L (by omega) hl u (ha.its.keep hu) (hb.keep hu)
    rw [hml] at this
    refine this.mono fun e w' h => ?_
    obtain ⟨⟨x, rfl, hx⟩, hw⟩ := h
    rw [hx.2 he]; exact ⟨rfl, hw⟩
  obtain ⟨n, hnn⟩ : ∃ n, Hid (L.length = n) := ⟨_, rfl⟩
  rw [hnn.out] at hl hml HS ⊢
  have HA : Hid (LentAt w g c M) := ha
  have HML : Hid (M.length = n) := hml
  have hroom : n + 1 ≤ c := by have := ha.room; omega
  have hc1 : (n : Int) + 1 ≤ (c : Int) := by omega
  have hm0 : Hid (∀ u, Bw w u → u.cell? ⟨g, n * 6, none⟩ = some (.string ⟨#[109, 97, 114, 107]⟩)) := fun u hu => by
    have := (HA.out.keep hu).mark
    rwa [HML.out] at this
  clear ha hb he hml
  have n0 : (0 : Int) ≤ (n : Int) := Int.natCast_nonneg _
  have n1 : (0 : Int) ≤ (n : Int) + 1 := by omega
  go_enter Try.func14, Try.ntmps14
  go_wp2
  go_loop [5] (fun i => ∃ k : Nat, k ≤ n ∧ i = .int .i64 (k : Int)) (fun i => n - (intOf i).toNat)
  case atStart => exact ⟨0, Nat.zero_le _, rfl⟩
  case round =>
    obtain ⟨i, hi, rfl⟩ := hrel
    have i0 : (0 : Int) ≤ (i : Int) := Int.natCast_nonneg _
    by_cases hlt : i < n
    · have i1 : (i : Int) < (n : Int) := by omega
      obtain ⟨y, hy⟩ : ∃ y, Hid (M[i]? = some y) := ⟨_, List.getElem?_eq_getElem (by rw [HML.out]; exact hlt)⟩
      have hym := List.mem_of_getElem? hy.out
      obtain ⟨b', off', e', hY, -⟩ := HA.out.its.at hy.out
      cases e'
      obtain ⟨gb, had, hmk, hcp⟩ := (HA.out.marks y hym).mark
      have c4 := hY.c4
      rw [had] at c4
      rw [Nat.zero_add] at c4
      obtain ⟨q, hq⟩ : ∃ q, Hid (y.it.body.length = q) := ⟨_, rfl⟩
      have hqb : q ≤ 140737488351232 := by rw [← hq.out]; exact ((HA.out.marks y hym).body).fit.body
      rw [hq.out] at c4 hmk hcp
      have q0 : (0 : Int) ≤ (q : Int) := Int.natCast_nonneg _
      have q1 : (0 : Int) ≤ (q : Int) + 1 := by omega
      have q2 : (q : Int) + 1 ≤ (y.cp : Int) := by omega
      have q3 : (q : Int) < (q : Int) + 1 := by omega
      clear hY had hym
      go_wp2
      go_round
      case rel => exact ⟨i + 1, by omega, by go_num⟩
      case measure => simp [intOf]; omega
    · have ei : i = n := by omega
      subst ei
      have i3 : (i : Int) < (i : Int) + 1 := by omega
      go_wp2_with (go_at_call 19; refine (HS.out _ (Bw.refl _)).mono ?_; rintro e w1 ⟨rfl, hw1⟩; have cm := hm0.out w1 hw1)
      go_ret
      exact ⟨rfl, hw1⟩
end Go.Proofs.Ytjifdoneejofiaa
