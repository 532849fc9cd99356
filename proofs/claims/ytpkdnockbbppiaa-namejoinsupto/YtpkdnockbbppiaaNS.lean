/- The program's own Join. -/
import Derived.Test.YtpkdnockbbppiaaNR
import Derived.Test.YtpkdnockbbppiaaNJ
namespace Go.Proofs.Ytpkdnockbbppiaa
open Go.RowKit Go.Deep Go.Shelf
set_option linter.unusedVariables false
set_option linter.unusedSimpArgs false

namespace Nm
theorem joined_tail : ∀ (r : List B) (x : B), joined (x :: r) = x ++ Lib.joinTail [47] r
  | [], x => by simp [joined, Lib.joinTail]
  | y :: r, x => by
    rw [joined_cons x (by simp), joined_tail r y]
    simp [Lib.joinTail]
theorem joined_lib (ps : List B) : Lib.join ps [47] = joined ps := by
  cases ps with
  | nil => rfl
  | cons x r => rw [Lib.join_cons, joined_tail]
theorem idx_has (l : B) : decide (0 ≤ Lib.indexByte l 47) = decide ((47 : UInt8) ∈ l) := by
  by_cases h : (47 : UInt8) ∈ l
  · rw [idx_stroke l h, decide_eq_true h, decide_eq_true (Int.natCast_nonneg _)]
  · rw [idx_no l _ h, decide_eq_false h]; rfl
end Nm
theorem lx_contains (s : ByteArray) (w : World) : Calls Try.prog 26 #[.string s, .string ⟨#[47]⟩] w fun e w' => e = .returned (.bool (decide ((47 : UInt8) ∈ s.toList))) ∧ w' = w := by
  rw [← Nm.idx_has, ByteArray.toList_eq]
  exact Any.strings_Contains_one sx144 s 47 w
theorem lx_join (A : Option Addr) (n cap : Nat) (T : Nat → ByteArray) (hn0 : 0 < n) (hn : n ≤ 140737488355328) (hcap : n ≤ cap) (hsum : (Nm.joined (partsL T n)).length ≤ 140737488355328) (w : World) (ha : StrsAt w A n T) :
    Calls Try.prog 27 #[.slice A n cap, .string ⟨#[47]⟩] w fun e w' => e = .returned (.string (Nm.S (Nm.joined (partsL T n)))) ∧ Bw w w' := by
  obtain ⟨b, off, rfl, hc⟩ := StrsAt.at ha hn0
  have hx : ((List.range n).map T).map (fun s : ByteArray => s.data.toList) = partsL T n := by
    unfold partsL
    rw [List.map_map]
    exact List.map_congr_left fun i _ => (ByteArray.toList_eq (T i)).symm
  have hl : ((List.range n).map T).length = n := by simp
  have h := Any.strings_Join sx156 sx156x b off cap ((List.range n).map T) ⟨#[47]⟩ w (fun j x hj => by
      obtain ⟨hj1, e⟩ := List.getElem?_eq_some_iff.1 hj
      simp only [List.getElem_map, List.getElem_range] at e
      rw [← e]
      exact hc j (by rw [hl] at hj1; exact hj1)) (block_lt_of_cell (hc 0 hn0)) (by rw [hl]; exact hn) (by rw [hl]; exact hcap) (by rw [hx]; show (Lib.join (partsL T n) [47]).length ≤ _; rw [Nm.joined_lib]; exact hsum)
  rw [hl, hx] at h
  have e : Lib.join (partsL T n) (⟨#[47]⟩ : ByteArray).data.toList = Nm.joined (partsL T n) := Nm.joined_lib _
  rw [e] at h
  exact h
set_option maxRecDepth 100000 in
set_option maxHeartbeats 1000000 in
theorem njoin_any (A : Option Addr) (n cap : Nat) (T : Nat → ByteArray) (hn : n ≤ 140737488355328) (hcap : n ≤ cap) (hsum : (Nm.joined (partsL T n)).length ≤ 140737488355328) (w : World) (ha : StrsAt w A n T) :
    Calls Try.prog 13 #[.slice A n cap] w fun e w' => e = .returned (.tuple #[.string (Nm.S (Nm.joinE (partsL T n)).1), .int .i64 (Nm.joinE (partsL T n)).2]) ∧ Bw w w' := by
  obtain ⟨U, rE, hJ⟩ : ∃ a b, Hid (Nm.joinE (partsL T n) = (a, b)) := ⟨_, _, show Nm.joinE (partsL T n) = _ from rfl⟩
  rw [hJ.out]
  by_cases h0 : n = 0
  · subst h0
    have hU : (U, rE) = (([], 4) : Nm.B × Int) := by rw [← hJ.out]; rfl
    simp only [Prod.mk.injEq] at hU
    obtain ⟨rfl, rfl⟩ := hU
    go_enter Try.func13, Try.ntmps13
    go_wp2
    go_ret2
    exact ⟨rfl, Bw.refl _⟩
  · have hn0 : 0 < n := by omega
    have n0 : ((n : Int) == 0) = false := by rw [beq_eq_false_iff_ne]; omega
    have hne : Hid (partsL T n ≠ []) := by
      intro h
      have := partsL_len T n
      rw [h] at this
      simp at this; omega
    obtain ⟨b, off, rfl, hc⟩ := StrsAt.at ha hn0
    have hc2 : Hid (∀ i, i < n → w.cell? ⟨b, off + i, none⟩ = some (.string (T i))) := hc
    clear hc
    go_enter Try.func13, Try.ntmps13
    go_wp2
    go_loopw [14] (fun i wr => ∃ k : Nat, k ≤ n ∧ i = .int .i64 (k : Int) ∧ Hid (wr = w) ∧ Hid (∀ j, j < k → (47 : UInt8) ∉ (T j).toList)) (fun i _ => n - (intOf i).toNat)
    case atStart => exact ⟨0, Nat.zero_le _, rfl, rfl, fun j hj => absurd hj (Nat.not_lt_zero _)⟩
    case round =>
      obtain ⟨k, hk, rfl, hwr, hfree⟩ := hrel
      have := hwr.out
      subst this
      have k0 : (0 : Int) ≤ (k : Int) := Int.natCast_nonneg _
      by_cases hlt : k < n
      · have k1 : (k : Int) < (n : Int) := by omega
        have hcell := hc2.out k hlt
        by_cases h47 : (47 : UInt8) ∈ (T k).toList
        · have hd : Hid (decide ((47 : UInt8) ∈ (T k).toList) = true) := decide_eq_true h47
          have hU : (U, rE) = (([], 1) : Nm.B × Int) := by
            rw [← hJ.out]
            unfold Nm.joinE
            rw [if_neg hne.out, if_pos ⟨(T k).toList, partsL_mem.2 ⟨k, hlt, rfl⟩, h47⟩]
          simp only [Prod.mk.injEq] at hU
          obtain ⟨rfl, rfl⟩ := hU
          clear h47
          go_wp2_with (go_at_call 26; refine (lx_contains (T k) _).mono ?_; rintro e w1 ⟨rfl, hw1⟩; subst w1; rw [hd.out])
          go_ret2
          exact ⟨rfl, Bw.refl _⟩
        · have hd : Hid (decide ((47 : UInt8) ∈ (T k).toList) = false) := decide_eq_false h47
          have hf2 : Hid (∀ j, j < k + 1 → (47 : UInt8) ∉ (T j).toList) := fun j hj => by
            rcases Nat.lt_or_ge j k with h | h
            · exact hfree.out j h
            · rw [show j = k by omega]; exact h47
          clear h47
          go_wp2_with (go_at_call 26; refine (lx_contains (T k) _).mono ?_; rintro e w1 ⟨rfl, hw1⟩; subst w1; rw [hd.out])
          go_roundw
          case rel => exact ⟨k + 1, by omega, by go_num, by first | exact rfl | exact True.intro, hf2⟩
          case measure => simp [intOf]; omega
      · have ek : k = n := by omega
        subst ek
        have hno : Hid (¬ ∃ p ∈ partsL T k, (47 : UInt8) ∈ p) := by
          rintro ⟨p, hp, h⟩
          obtain ⟨i, hi, rfl⟩ := partsL_mem.1 hp
          exact hfree.out i hi h
        obtain ⟨X, hX⟩ : ∃ X, Hid (Nm.joined (partsL T k) = X) := ⟨_, rfl⟩
        obtain ⟨cA, cE, hck⟩ : ∃ a b, Hid (Nm.check X = (a, b)) := ⟨_, _, show Nm.check X = _ from rfl⟩
        have hck2 : Hid (Nm.check (Nm.S X).toList = (cA, cE)) := by show _ = _; rw [Nm.toList_S]; exact hck.out
        have hb := Nm.check_bd X
        rw [hck.out] at hb
        obtain ⟨b1, b2, b3, b4⟩ := hb
        dsimp only at b1 b2 b3 b4
        have hXs : Hid ((Nm.S X).size ≤ 4611686018427387904) := by show _ ≤ _; rw [Nm.size_S, ← hX.out]; omega
        have hE : Hid ((U, rE) = if cE = 0 then (X, 0) else (([], cE) : Nm.B × Int)) := by
          show _ = _
          rw [← hJ.out]
          unfold Nm.joinE
          rw [if_neg hne.out, if_neg hno.out, hX.out, hck.out]
        by_cases h1 : cE = 0
        · have hU := hE.out
          rw [if_pos h1, Prod.mk.injEq] at hU
          obtain ⟨rfl, rfl⟩ := hU
          subst h1
          go_wp2_with (first
            | (go_at_call 27; refine (lx_join _ k cap T hn0 hn hcap hsum _ ha).mono ?_; rintro e w1 ⟨rfl, hw1⟩; rw [hX.out])
            | (go_at_call 9; refine (ncheck_any (Nm.S U) hXs.out _).mono ?_; rintro e w2 ⟨rfl, hw2⟩; rw [hck2.out]))
          go_ret2
          exact ⟨rfl, hw1.trans hw2⟩
        · have hU := hE.out
          rw [if_neg h1, Prod.mk.injEq] at hU
          obtain ⟨rfl, rfl⟩ := hU
          have e1 : (rE != 0) = true := by rw [bne_iff_ne]; exact h1
          go_wp2_with (first
            | (go_at_call 27; refine (lx_join _ k cap T hn0 hn hcap hsum _ ha).mono ?_; rintro e w1 ⟨rfl, hw1⟩; rw [hX.out])
            | (go_at_call 9; refine (ncheck_any (Nm.S X) hXs.out _).mono ?_; rintro e w2 ⟨rfl, hw2⟩; rw [hck2.out]))
          go_ret2
          exact ⟨rfl, hw1.trans hw2⟩
end Go.Proofs.Ytpkdnockbbppiaa
