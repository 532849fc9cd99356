/- The document's own Nul, part and Check. -/
import Derived.Test.YtpkdnockbbppiaaN2
namespace Go.Proofs.Ytpkdnockbbppiaa
open Go.RowKit Go.Deep
set_option linter.unusedVariables false
set_option linter.unusedSimpArgs false

namespace Nm
/-- where the first byte 0 is -/
def nul : B → Option Nat
  | [] => none
  | c :: l => if c = 0 then some 0 else (nul l).map (· + 1)
theorem nul_some : ∀ (l : B) (i : Nat), l[i]? = some 0 → (∀ j, j < i → l[j]? ≠ some 0) → nul l = some i
  | [], i, h, _ => by simp at h
  | c :: l, 0, h, _ => by
    simp at h
    unfold nul; rw [if_pos h]
  | c :: l, i + 1, h, k => by
    have h0 : c ≠ 0 := fun e => k 0 (by omega) (by simp [e])
    unfold nul
    rw [if_neg h0, nul_some l i (by simpa using h) (fun j hj => by have := k (j + 1) (by omega); simpa using this)]; rfl
theorem nul_none : ∀ (l : B), (∀ j, j < l.length → l[j]? ≠ some 0) → nul l = none
  | [], _ => rfl
  | c :: l, k => by
    have h0 : c ≠ 0 := fun e => k 0 (by simp) (by simp [e])
    unfold nul
    rw [if_neg h0, nul_none l (fun j hj => by have := k (j + 1) (by simpa using hj); simpa using this)]; rfl
theorem nul_lt : ∀ (l : B) (i : Nat), nul l = some i → i < l.length
  | [], i, h => by simp [nul] at h
  | c :: l, i, h => by
    unfold nul at h
    by_cases h0 : c = 0
    · rw [if_pos h0] at h; cases h; simp
    · rw [if_neg h0] at h
      cases e : nul l with
      | none => rw [e] at h; cases h
      | some j =>
        rw [e] at h
        have := nul_lt l j e
        simp at h
        subst h
        simpa using this
theorem nul_none_iff : ∀ (l : B), nul l = none ↔ (0 : UInt8) ∉ l
  | [] => by simp [nul]
  | c :: l => by
    unfold nul
    by_cases h0 : c = 0
    · subst h0; simp
    · rw [if_neg h0, Option.map_eq_none_iff, nul_none_iff l, List.mem_cons]
      constructor
      · intro h k; rcases k with k | k
        · exact h0 k.symm
        · exact h k
      · exact fun h k => h (Or.inr k)
/-- what Nul answers -/
def nulI (l : B) : Int := match nul l with | some n => (n : Int) | none => -1
/-- the first thing that is wrong with a piece, and where in it -/
def partE (p : B) : Nat × Int := if p = [] then (0, 80) else if 120 < p.length then (0, 2) else if p = [46] ∨ p = [46, 46] then (0, 81) else match nul p with | some n => (n, 82) | none => (0, 0)
def chk : Nat → List B → Int × Int
  | _, [] => (0, 0)
  | k, p :: ps => if (partE p).2 = 0 then chk (k + p.length + 1) ps else (((k + (partE p).1 : Nat) : Int), (partE p).2)
theorem chk_all : ∀ (k : Nat) (ps : List B), (∀ p ∈ ps, (partE p).2 = 0) → chk k ps = (0, 0)
  | _, [], _ => rfl
  | k, p :: ps, h => by unfold chk; rw [if_pos (h p (by simp))]; exact chk_all _ ps (fun q hq => h q (List.mem_cons_of_mem _ hq))
theorem chk_at : ∀ (k : Nat) (ps : List B) (j : Nat) (h : j < ps.length), (∀ i (hi : i < ps.length), i < j → (partE ps[i]).2 = 0) → (partE ps[j]).2 ≠ 0 → chk k ps = (((k + tot (ps.take j) + (partE ps[j]).1 : Nat) : Int), (partE ps[j]).2)
  | k, p :: ps, 0, h, _, hn => by
    unfold chk
    rw [if_neg (by simpa using hn)]
    simp [tot]
  | k, p :: ps, j + 1, h, h0, hn => by
    have hp : (partE p).2 = 0 := h0 0 (by simp) (by omega)
    unfold chk
    rw [if_pos hp, chk_at _ ps j (by simpa using h) (fun i hi hij => by have := h0 (i + 1) (by simpa using hi) (by omega); simpa using this) (by simpa using hn)]
    simp only [List.take_succ_cons, tot, List.getElem_cons_succ]
    congr 2
    omega
/-- the first thing that is wrong with a text, and where -/
def check (l : B) : Int × Int := if 400 < l.length then (0, 2) else chk 0 (pieces l)
end Nm

set_option maxHeartbeats 1000000 in
theorem rnul_any (s : ByteArray) (hs : s.size ≤ 4611686018427387904) (w : World) :
    Calls Try.prog 36 #[.string s] w fun e w' => e = .returned (.int .i64 (Nm.nulI s.toList)) ∧ w' = w := by
  have HSZ : Hid (s.toList.length = s.size) := Nm.size_toList s
  go_enter Try.func36, Try.ntmps36
  go_wp2
  go_loop [2, 3] (fun r i => ∃ (k : Nat), k ≤ s.size ∧ r = .int .i64 0 ∧ i = .int .i64 (k : Int) ∧ Hid (∀ j, j < k → s.toList[j]? ≠ some 0)) (fun _ i => s.size - (intOf i).toNat)
  case atStart => exact ⟨0, Nat.zero_le _, rfl, rfl, fun j hj => by omega⟩
  case round =>
    obtain ⟨k, hk, rfl, rfl, hall⟩ := hrel
    have k0 : (0 : Int) ≤ (k : Int) := Int.natCast_nonneg _
    by_cases hlt : k < s.size
    · have t1 : (k : Int) < (s.size : Int) := by omega
      have hg : Hid (s.toList[k]? = some s[k]) := by
        show _ = _
        rw [List.getElem?_eq_getElem (by rw [HSZ.out]; exact hlt), Nm.get_toList s k hlt (by rw [HSZ.out]; exact hlt)]
      by_cases h0 : s[k] = 0
      · have e1 : ((s[k].toNat : Int) == 0) = true := by rw [h0]; rfl
        have hans : Hid (Nm.nulI s.toList = (k : Int)) := by
          show _ = _
          unfold Nm.nulI
          rw [Nm.nul_some s.toList k (by rw [hg.out, h0]) hall.out]
        clear h0
        go_wp2
        go_ret
        exact ⟨ret_int hans.out.symm, rfl⟩
      · have e1 : ((s[k].toNat : Int) == 0) = false := by
          rw [beq_eq_false_iff_ne]
          exact fun h => h0 ((Nm.byte_eq _ 0).1 h)
        have hn : Hid (∀ j, j < k + 1 → s.toList[j]? ≠ some 0) := fun j hj => by
          rcases Nat.lt_or_ge j k with h | h
          · exact hall.out j h
          · rw [show j = k by omega, hg.out]; exact fun e => h0 (Option.some.inj e)
        clear h0
        go_wp2
        go_round
        case rel => exact ⟨k + 1, by omega, rfl, by go_num, hn⟩
        case measure => simp [intOf]; omega
    · have ek : k = s.size := by omega
      subst ek
      have hans : Hid (Nm.nulI s.toList = -1) := by
        show _ = _
        unfold Nm.nulI
        rw [Nm.nul_none s.toList (by rw [HSZ.out]; exact hall.out)]
      go_wp2
      go_ret
      exact ⟨ret_int hans.out.symm, rfl⟩

set_option maxHeartbeats 1000000 in
theorem rpart_any (s : ByteArray) (hs : s.size ≤ 4611686018427387904) (w : World) :
    Calls Try.prog 24 #[.string s] w fun e w' => e = .returned (.tuple #[.int .i64 (((Nm.partE s.toList).1 : Nat) : Int), .int .i64 (Nm.partE s.toList).2]) ∧ w' = w := by
  have hsz : s.toList.length = s.size := Nm.size_toList s
  have HSZ : Hid (s.toList.length = s.size) := hsz
  obtain ⟨E, hE⟩ : ∃ E, Hid (Nm.partE s.toList = E) := ⟨_, rfl⟩
  rw [hE.out]
  by_cases h0 : s.toList = []
  · have hE2 : E = (0, 80) := by rw [← hE.out]; unfold Nm.partE; rw [if_pos h0]
    subst hE2
    go_enter Try.func24, Try.ntmps24
    go_wp2
    go_ret2
    exact ⟨rfl, rfl⟩
  · by_cases h1 : 120 < s.size
    · have hE2 : E = (0, 2) := by rw [← hE.out]; unfold Nm.partE; rw [if_neg h0, if_pos (by omega)]
      subst hE2
      clear hsz
      have e0 : (s.toList == []) = false := by rw [beq_eq_false_iff_ne]; exact h0
      go_enter Try.func24, Try.ntmps24
      go_wp2
      go_ret2
      exact ⟨rfl, rfl⟩
    · by_cases h2 : s.toList = [46]
      · have hE2 : E = (0, 81) := by rw [← hE.out]; unfold Nm.partE; rw [if_neg h0, if_neg (by omega), if_pos (Or.inl h2)]
        subst hE2
        clear hsz
        go_enter Try.func24, Try.ntmps24
        go_wp2
        go_ret2
        exact ⟨rfl, rfl⟩
      · by_cases h3 : s.toList = [46, 46]
        · have hE2 : E = (0, 81) := by rw [← hE.out]; unfold Nm.partE; rw [if_neg h0, if_neg (by omega), if_pos (Or.inr h3)]
          subst hE2
          clear hsz
          go_enter Try.func24, Try.ntmps24
          go_wp2
          go_ret2
          exact ⟨rfl, rfl⟩
        · have e0 : (s.toList == []) = false := by rw [beq_eq_false_iff_ne]; exact h0
          have e2 : (s.toList == [46]) = false := by rw [beq_eq_false_iff_ne]; exact h2
          have e3 : (s.toList == [46, 46]) = false := by rw [beq_eq_false_iff_ne]; exact h3
          cases hn : Nm.nul s.toList with
          | none =>
            have hE2 : E = (0, 0) := by rw [← hE.out]; unfold Nm.partE; rw [if_neg h0, if_neg (by omega), if_neg (fun h => h.elim h2 h3), hn]
            subst hE2
            have hI : Hid (Nm.nulI s.toList = -1) := by show _ = _; unfold Nm.nulI; rw [hn]
            clear hsz hn
            go_enter Try.func24, Try.ntmps24
            go_wp2_with (go_at_call 36; refine (rnul_any s hs _).mono ?_; rintro e w' ⟨rfl, hw'⟩; subst w'; rw [hI.out])
            go_ret2
            exact ⟨rfl, rfl⟩
          | some n =>
            have hE2 : E = (n, 82) := by rw [← hE.out]; unfold Nm.partE; rw [if_neg h0, if_neg (by omega), if_neg (fun h => h.elim h2 h3), hn]
            subst hE2
            have hI : Hid (Nm.nulI s.toList = (n : Int)) := by show _ = _; unfold Nm.nulI; rw [hn]
            have n0 : (0 : Int) ≤ (n : Int) := Int.natCast_nonneg _
            clear hsz hn
            go_enter Try.func24, Try.ntmps24
            go_wp2_with (go_at_call 36; refine (rnul_any s hs _).mono ?_; rintro e w' ⟨rfl, hw'⟩; subst w'; rw [hI.out])
            go_ret2
            exact ⟨rfl, rfl⟩
end Go.Proofs.Ytpkdnockbbppiaa
