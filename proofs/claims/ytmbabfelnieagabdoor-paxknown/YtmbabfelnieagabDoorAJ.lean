/- Layer 9: lists laid over one another: what Over answers of nothing, of three lists, and what Find answers of it. -/
import Derived.Test.YtmbabfelnieagabDoorAH
namespace Go.Proofs.YtmbabfelnieagabDoor
open Go.RowKit Go.Deep
set_option linter.unusedVariables false
set_option linter.unusedSimpArgs false

set_option maxHeartbeats 1000000 in
theorem said9_any (n : Nat) (h1 : 1 ≤ n) (hn : n ≤ 4611686018427387904) (w : World) :
    Calls Tryd.prog 9 #[.int .i64 (n : Int)] w fun e w' => e = .returned (.int .i64 (Px.dl n : Int)) ∧ w' = w := by
  obtain ⟨D, hD⟩ : ∃ D, Hid (Px.dl n = D) := ⟨_, rfl⟩
  rw [hD.out]
  have hDb : D ≤ n + 1 := by rw [← hD.out]; exact Px.dl_le n
  go_enter Tryd.func9, Tryd.ntmps9
  go_wp2
  go_loop [0, 3] (fun m d => ∃ k j : Nat, k ≤ n ∧ m = .int .i64 (k : Int) ∧ d = .int .i64 (j : Int) ∧ j ≤ D ∧ Hid (D = j + if k = 0 then 0 else Px.dl k)) (fun m _ => (intOf m).toNat)
  case atStart => exact ⟨n, 0, Nat.le_refl _, rfl, rfl, Nat.zero_le _, by show _ = _; rw [if_neg (by omega), hD.out]; omega⟩
  case round =>
    obtain ⟨k, j, hk, rfl, rfl, hj, hst⟩ := hrel
    have k0 : (0 : Int) ≤ (k : Int) := Int.natCast_nonneg _
    have j0 : (0 : Int) ≤ (j : Int) := Int.natCast_nonneg _
    by_cases hlt : 0 < k
    · have t1 : (0 : Int) < (k : Int) := by omega
      have hnx : Hid (D = (j + 1) + if k / 10 = 0 then 0 else Px.dl (k / 10)) := by
        have := hst.out
        rw [if_neg (by omega)] at this
        show _ = _
        by_cases h10 : k < 10
        · rw [Px.dl_one h10] at this
          rw [if_pos (by omega)]; omega
        · rw [Px.dl_more h10] at this
          rw [if_neg (by omega)]; omega
      have hj1 : j + 1 ≤ D := by have := hnx.out; omega
      go_wp2
      go_round
      case rel => exact ⟨k / 10, j + 1, by omega, by go_num, by go_num, hj1, hnx⟩
      case measure => simp [intOf]; omega
    · have ek : k = 0 := by omega
      subst ek
      have hfin : Hid (D = j) := by have := hst.out; rw [if_pos rfl] at this; exact this
      go_wp2
      go_ret
      exact ⟨ret_int (by rw [hfin.out]), rfl⟩
end Go.Proofs.YtmbabfelnieagabDoor
namespace Go.Proofs.YtmbabfelnieagabDoor
open Go.RowKit Go.Deep
set_option linter.unusedVariables false
set_option linter.unusedSimpArgs false

namespace Px
theorem put_nil : putF [] = ([], 0, 0) := rfl
theorem overF_nil_r (l : List Pr) : overF l [] = (if (putF l).2.2 = 0 then l else [], (putF l).2.2) := by
  unfold overF
  by_cases h : (putF l).2.2 = 0
  · rw [if_neg (fun h' => h' h), put_nil, if_neg (by simp), over_nil_r, if_neg (by have := ((put_ok l).1 h).1; omega), if_pos h, h]
  · rw [if_pos h, if_neg h]
theorem overF_nil_l (l : List Pr) : overF [] l = (if (putF l).2.2 = 0 then l else [], (putF l).2.2) := by
  unfold overF
  rw [put_nil, if_neg (by simp)]
  by_cases h : (putF l).2.2 = 0
  · rw [if_neg (fun h' => h' h), over_nil_l, if_neg (by have := ((put_ok l).1 h).1; omega), if_pos h, h]
  · rw [if_pos h, if_neg h]
theorem overF_ok {l m : List Pr} (h : (overF l m).2 = 0) : (putF l).2.2 = 0 ∧ (putF m).2.2 = 0 ∧ (over l m).length ≤ 64 ∧ overF l m = (over l m, 0) := by
  unfold overF at h ⊢
  split at h
  · rename_i h1; exact absurd h h1
  · rename_i h1
    split at h
    · rename_i h2; exact absurd h h2
    · rename_i h2
      split at h
      · cases h
      · rename_i h3
        rw [if_neg h1, if_neg h2, if_neg h3]
        exact ⟨Classical.not_not.1 h1, Classical.not_not.1 h2, by omega, rfl⟩
theorem put_over {l m : List Pr} (hl : (putF l).2.2 = 0) (hm : (putF m).2.2 = 0) (h64 : (over l m).length ≤ 64) : (putF (over l m)).2.2 = 0 := by
  have h1 := (put_ok l).1 hl
  have h2 := (put_ok m).1 hm
  exact (put_ok _).2 ⟨h64, fun p hp => (overs_mem hp).elim (h1.2.1 p) (h2.2.1 p), overs_srt h1.2.2 h2.2.2⟩
theorem overF_of {l m : List Pr} (hl : (putF l).2.2 = 0) (hm : (putF m).2.2 = 0) : overF l m = if 64 < (over l m).length then ([], 3) else (over l m, 0) := by
  unfold overF
  rw [if_neg (fun x => x hl), if_neg (fun x => x hm)]
theorem laid3 {l m n : List Pr} (h : (overF l m).2 = 0) (h' : (overF m n).2 = 0) : overF (over l m) n = overF l (over m n) := by
  obtain ⟨a1, a2, a3, _⟩ := overF_ok h
  obtain ⟨b1, b2, b3, _⟩ := overF_ok h'
  have c1 := put_over a1 a2 a3
  have c2 := put_over b1 b2 b3
  rw [overF_of c1 b2, overF_of a1 c2, over_assoc ((put_ok l).1 a1).2.2 ((put_ok m).1 a2).2.2 ((put_ok n).1 b2).2.2]
theorem find_laid {l m : List Pr} (h : (overF l m).2 = 0) (k : B) : findE (over l m) k = if (findE m k).2 = 0 then findE m k else findE l k := by
  obtain ⟨a1, a2, a3, _⟩ := overF_ok h
  have e := overs_find ((put_ok l).1 a1).2.2 ((put_ok m).1 a2).2.2 k
  unfold findE
  rw [e]
  cases find m k with
  | some v => rfl
  | none => rfl
theorem findE_er (l : List Pr) (k : B) : (findE l k).2 ≤ 4 := by
  unfold findE
  split
  · exact Nat.zero_le _
  · exact Nat.le_refl _
theorem small_of_put {l : List Pr} (h : (putF l).2.2 = 0) : ∀ p ∈ l, p.1.length ≤ 140737488355328 ∧ p.2.length ≤ 140737488355328 := fun p hp => by
  have h1 := fits_ok (((put_ok l).1 h).2.1 p hp)
  have h2 := (key_ok h1.1).2.2
  exact ⟨by omega, by omega⟩
end Px
theorem prs_nil (w : World) (A : Option Addr) : PrsAt w A [] := .inl rfl
end Go.Proofs.YtmbabfelnieagabDoor
