/- Texts of mine, put together. -/
import Derived.Test.YtldkhbkgmiicbabGreatDoorBu5

/- The program's own Up, Beneath and Split. -/
namespace Go.Proofs.YtldkhbkgmiicbabGreatDoor
open Go.RowKit Go.Deep Go.Shelf
set_option linter.unusedVariables false
set_option linter.unusedSimpArgs false

namespace Nm
theorem pieces_two : ∀ a b : B, pieces (a ++ 47 :: b) = pieces a ++ pieces b
  | [], b => pieces_stroke
  | c :: a, b => by
    have ih := pieces_two a b
    by_cases hc : c = 47
    · subst hc
      show pieces (47 :: (a ++ 47 :: b)) = _
      rw [pieces_stroke, pieces_stroke, ih]; rfl
    · cases e : pieces a with
      | nil => exact absurd e (pieces_ne a)
      | cons p ps =>
        rw [e] at ih
        show pieces (c :: (a ++ 47 :: b)) = _
        rw [pieces_other hc ih, pieces_other hc e]; rfl
theorem split_at {l : B} {i : Nat} (h : l[i]? = some 47) : l = l.take i ++ 47 :: l.drop (i + 1) := by
  obtain ⟨hi, e⟩ := List.getElem?_eq_some_iff.1 h
  conv => lhs; rw [← List.take_append_drop i l]
  rw [List.drop_eq_getElem_cons hi, e]
theorem free_behind {l : B} {i : Nat} (h : ∀ j, i < j → l[j]? ≠ some 47) : (47 : UInt8) ∉ l.drop (i + 1) := by
  intro hm
  obtain ⟨k, hk⟩ := List.getElem?_of_mem hm
  rw [List.getElem?_drop] at hk
  exact h _ (by omega) hk
theorem up_none {l : B} (h : (47 : UInt8) ∉ l) : up l = [] := by unfold up; rw [pieces_free l h]; rfl
theorem up_at {l : B} {i : Nat} (h : l[i]? = some 47) (h2 : ∀ j, i < j → l[j]? ≠ some 47) : up l = l.take i := by
  unfold up
  rw [split_at h, pieces_two, pieces_free _ (free_behind h2), List.dropLast_concat, joined_pieces]
  have e := split_at h
  have : i ≤ l.length := Nat.le_of_lt (List.getElem?_eq_some_iff.1 h).1
  rw [List.take_append_of_le_length (by rw [List.length_take]; omega), List.take_take, Nat.min_self]
theorem chk_zero8 : ∀ (k : Nat) (ps : List B), (chk k ps).2 = 0 → ∀ p ∈ ps, (partE p).2 = 0
  | _, [], _, p, hp => by simp at hp
  | k, q :: ps, h, p, hp => by
    unfold chk at h
    by_cases hq : (partE q).2 = 0
    · rw [if_pos hq] at h
      rcases List.mem_cons.1 hp with rfl | hp
      · exact hq
      · exact chk_zero8 _ ps h p hp
    · rw [if_neg hq] at h; exact absurd h hq
theorem check_iff (l : B) : (check l).2 = 0 ↔ l.length ≤ 400 ∧ ∀ p ∈ pieces l, (partE p).2 = 0 := by
  unfold check
  by_cases h : 400 < l.length
  · rw [if_pos h]
    exact ⟨fun e => absurd e (by decide), fun e => by omega⟩
  · rw [if_neg h]
    constructor
    · intro e; exact ⟨by omega, chk_zero8 _ _ e⟩
    · intro e; rw [chk_all 0 _ e.2]
theorem last_cases (s : ByteArray) : ((47 : UInt8) ∉ s.toList ∧ Lib.lastIndexByte s 47 = -1) ∨ ∃ i : Nat, i < s.size ∧ Lib.lastIndexByte s 47 = (i : Int) ∧ s.toList[i]? = some 47 ∧ ∀ j, i < j → s.toList[j]? ≠ some 47 := by
  have hat : ∀ j, j < s.size → (((s.data[j]!).toNat : Int) = 47 ↔ s.toList[j]? = some 47) := fun j hj => by
    have e : s.toList = s.data.toList := ByteArray.toList_eq s
    rw [e, Array.getElem?_toList]
    have hj2 : j < s.data.size := hj
    rw [getElem!_pos s.data j hj2, Array.getElem?_eq_getElem hj2, Option.some.injEq]
    exact byte_eq _ 47
  unfold Lib.lastIndexByte
  rcases Lib.lastIdx_spec s 47 s.size with ⟨h1, h2⟩ | ⟨i, h1, h2, h3, h4⟩
  · refine .inl ⟨fun hm => ?_, h1⟩
    obtain ⟨j, hj⟩ := List.getElem?_of_mem hm
    have hl := (List.getElem?_eq_some_iff.1 hj).1
    rw [size_toList] at hl
    exact h2 j hl ((hat j hl).2 hj)
  · refine .inr ⟨i, h1, h2, (hat i h1).1 h3, fun j hj e => ?_⟩
    have hl := (List.getElem?_eq_some_iff.1 e).1
    rw [size_toList] at hl
    exact h4 j hj hl ((hat j hl).2 e)
end Nm
theorem lx_last (s : ByteArray) (hs : s.size < 4611686018427387904) (w : World) : Calls Tryz.prog 53 #[.string s, .string ⟨#[47]⟩] w fun e w' => e = .returned (.int .i64 (Lib.lastIndexByte s 47)) ∧ w' = w :=
  Any.strings_LastIndex_one sx148 s ⟨#[47]⟩ rfl hs w
set_option maxRecDepth 100000 in
set_option maxHeartbeats 1000000 in
theorem nup_still (s : ByteArray) (hs : s.size ≤ 1099511627776) (w : World) :
    Calls Tryz.prog 41 #[.string s] w fun e w' => e = .returned (.string (Nm.S (Nm.up s.toList))) ∧ w' = w := by
  rcases Nm.last_cases s with ⟨h1, h2⟩ | ⟨i, h1, h2, h3, h4⟩
  · have hL : Hid (Lib.lastIndexByte s 47 = -1) := h2
    have hu : Hid (Nm.S (Nm.up s.toList) = s.extract 0 0) := by show _ = _; rw [Nm.up_none h1, Nm.extract_to]; rfl
    rw [hu.out]
    clear h1 h2
    go_enter Tryz.func41, Tryz.ntmps41
    go_wp2_with (go_at_call 53; refine (lx_last s (by omega) _).mono ?_; rintro e w1 ⟨rfl, hw1⟩; subst w1; rw [hL.out])
    go_ret
    exact ⟨rfl, rfl⟩
  · have hL : Hid (Lib.lastIndexByte s 47 = (i : Int)) := h2
    have hu : Hid (Nm.S (Nm.up s.toList) = s.extract 0 i) := by show _ = _; rw [Nm.up_at h3 h4, Nm.extract_to]
    rw [hu.out]
    have i0 : (0 : Int) ≤ (i : Int) := Int.natCast_nonneg _
    have i1 : (i : Int) ≤ (s.size : Int) := by omega
    clear h2 h3 h4
    go_enter Tryz.func41, Tryz.ntmps41
    go_wp2_with (go_at_call 53; refine (lx_last s (by omega) _).mono ?_; rintro e w1 ⟨rfl, hw1⟩; subst w1; rw [hL.out])
    go_ret
    exact ⟨rfl, rfl⟩
theorem lx_hasp (s p : ByteArray) (w : World) : Calls Tryz.prog 67 #[.string s, .string p] w fun e w' => e = .returned (.bool (p.toList.isPrefixOf s.toList)) ∧ w' = w := by
  rw [ByteArray.toList_eq, ByteArray.toList_eq]
  exact Any.strings_HasPrefix sx99 s p w
namespace Nm
theorem ahead_no {l : B} (h : (47 : UInt8) ∉ l.take 156) : ∀ j, ¬ CutAt l j := by
  rintro j ⟨h1, h2, h3⟩
  refine h (List.mem_of_getElem? (i := j) ?_)
  rw [List.getElem?_take, if_pos (by omega)]; exact h1
theorem ahead_yes {l : B} {i : Nat} (h1 : (l.take 156)[i]? = some 47) (h2 : ∀ j, i < j → (l.take 156)[j]? ≠ some 47) :
    l[i]? = some 47 ∧ i ≤ 155 ∧ (l.length - i - 1 ≤ 100 → CutAt l i ∧ ∀ j, i < j → ¬ CutAt l j) ∧ (100 < l.length - i - 1 → ∀ j, ¬ CutAt l j) := by
  rw [List.getElem?_take] at h1
  by_cases hi : i < 156
  · rw [if_pos hi] at h1
    have hb : ∀ j, i < j → ¬ CutAt l j := by
      rintro j hj ⟨g1, g2, g3⟩
      refine h2 j hj ?_
      rw [List.getElem?_take, if_pos (by omega)]; exact g1
    refine ⟨h1, by omega, fun h => ⟨⟨h1, by omega, h⟩, hb⟩, fun h j hc => ?_⟩
    rcases Nat.lt_or_ge i j with k | k
    · exact hb j k hc
    · have := hc.2.2; omega
  · rw [if_neg hi] at h1; cases h1
end Nm
set_option maxRecDepth 100000 in
set_option maxHeartbeats 1000000 in
theorem nsplit_any (s : ByteArray) (hs : s.size ≤ 4611686018427387904) (w : World) :
    Calls Tryz.prog 38 #[.string s] w fun e w' => SplitEnds s.toList e ∧ Bw w w' := by
  have HSZ : Hid (s.toList.length = s.size) := Nm.size_toList s
  obtain ⟨cA, cE, hc⟩ : ∃ a b, Hid (Nm.check s.toList = (a, b)) := ⟨_, _, show Nm.check s.toList = _ from rfl⟩
  have hb := Nm.check_bd s.toList
  rw [hc.out] at hb
  obtain ⟨b1, b2, b3, b4⟩ := hb
  dsimp only at b1 b2 b3 b4
  have hc2 : Hid ((Nm.check s.toList).2 = cE) := by show _ = _; rw [hc.out]
  by_cases h0 : cE = 0
  · subst h0
    have hl4 : s.size ≤ 400 := by have := ((Nm.check_iff _).1 hc2.out).1; rw [HSZ.out] at this; exact this
    by_cases h1 : s.size ≤ 100
    · have hS : Hid (SplitEnds s.toList (.returned (.tuple #[.string ⟨#[]⟩, .string s, .int .i64 0]))) := ⟨[], s.toList, 0, by rw [Nm.S_toList]; rfl, ⟨fun h => absurd hc2.out h, fun _ _ => ⟨rfl, rfl, rfl⟩, fun _ h => absurd h (by rw [HSZ.out]; omega), fun _ h => absurd h (by rw [HSZ.out]; omega)⟩⟩
      go_enter Tryz.func38, Tryz.ntmps38
      go_wp2_with (go_at_call 35; refine (ncheck_any s hs _).mono ?_; rintro e w1 ⟨rfl, hw1⟩; rw [hc.out])
      refine bodyPost_ret (results_tmp3 rfl _ _ _) rfl ?_
      exact ⟨hS.out, hw1⟩
    · have s1 : (100 : Int) < (s.size : Int) := by omega
      have s4 : (s.size : Int) ≤ 400 := by omega
      obtain ⟨A, hA⟩ : ∃ A, Hid (s.extract 0 (min (s.size : Int) 156).toNat = A) := ⟨_, rfl⟩
      have hAl : Hid (A.toList = s.toList.take 156) := by
        show _ = _
        rw [← hA.out, Nm.extract_to, Nm.toList_S]
        rcases Nat.lt_or_ge s.size 156 with h | h
        · rw [show (min (s.size : Int) 156).toNat = s.size by omega, List.take_of_length_le (by rw [HSZ.out]; exact Nat.le_refl _), List.take_of_length_le (by rw [HSZ.out]; omega)]
        · rw [show (min (s.size : Int) 156).toNat = 156 by omega]
      have hAs : A.size < 4611686018427387904 := by
        rw [← Nm.size_toList, hAl.out, List.length_take, HSZ.out]; omega
      rcases Nm.last_cases A with ⟨h2, h3⟩ | ⟨i, h2, h3, h4, h5⟩
      · have hL : Hid (Lib.lastIndexByte A 47 = -1) := h3
        have hno : Hid (∀ j, ¬ Nm.CutAt s.toList j) := by rw [hAl.out] at h2; exact Nm.ahead_no h2
        have hS : Hid (SplitEnds s.toList (.returned (.tuple #[.string ⟨#[]⟩, .string ⟨#[]⟩, .int .i64 2]))) := ⟨[], [], 2, rfl, ⟨fun h => absurd hc2.out h, fun _ h => absurd h (by rw [HSZ.out]; omega), fun _ _ i hi => absurd hi (hno.out i), fun _ _ _ => ⟨rfl, rfl, rfl⟩⟩⟩
        clear h2 h3
        go_enter Tryz.func38, Tryz.ntmps38
        go_wp2_with (first
          | (go_at_call 35; refine (ncheck_any s hs _).mono ?_; rintro e w1 ⟨rfl, hw1⟩; rw [hc.out])
          | (go_at_call 53; rw [hA.out]; refine (lx_last A hAs _).mono ?_; rintro e w2 ⟨rfl, hw2⟩; subst w2; rw [hL.out]))
        refine bodyPost_ret (results_tmp3 rfl _ _ _) rfl ?_
        exact ⟨hS.out, hw1⟩
      · have hL : Hid (Lib.lastIndexByte A 47 = (i : Int)) := h3
        rw [hAl.out] at h4
        have hya := Nm.ahead_yes h4 (fun j hj => by have := h5 j hj; rwa [hAl.out] at this)
        clear h3 h4 h5
        obtain ⟨g1, g2, g3, g4⟩ := hya
        have hil : i < s.size := by have := (List.getElem?_eq_some_iff.1 g1).1; rw [HSZ.out] at this; exact this
        rw [HSZ.out] at g3 g4
        have i0 : (0 : Int) ≤ (i : Int) := Int.natCast_nonneg _
        have i1 : (i : Int) < (s.size : Int) := by omega
        have i2 : (i : Int) ≤ (s.size : Int) := by omega
        have i3 : (i : Int) + 1 ≤ (s.size : Int) := by omega
        have i4 : (0 : Int) ≤ (i : Int) + 1 := by omega
        have i5 : (i : Int) ≤ 155 := by omega
        by_cases h6 : s.size - i - 1 ≤ 100
        · obtain ⟨q1, q2⟩ := g3 h6
          have t1 : (s.size : Int) - (i : Int) - 1 ≤ 100 := by omega
          have hS : Hid (SplitEnds s.toList (.returned (.tuple #[.string (s.extract 0 i), .string (s.extract (i + 1) s.size), .int .i64 0]))) := ⟨s.toList.take i, s.toList.drop (i + 1), 0, by rw [Nm.extract_to, Nm.extract_from], ⟨fun h => absurd hc2.out h, fun _ h => absurd h (by rw [HSZ.out]; omega), fun _ _ k hk1 hk2 => by
            have : k = i := by
              rcases Nat.lt_trichotomy k i with h | h | h
              · exact absurd q1 (hk2 i h)
              · exact h
              · exact absurd hk1 (q2 k h)
            subst this
            exact ⟨rfl, rfl, rfl⟩, fun _ _ h => absurd q1 (h i)⟩⟩
          clear g1 g3 g4 q1 q2
          go_enter Tryz.func38, Tryz.ntmps38
          go_wp2_with (first
            | (go_at_call 35; refine (ncheck_any s hs _).mono ?_; rintro e w1 ⟨rfl, hw1⟩; rw [hc.out])
            | (go_at_call 53; rw [hA.out]; refine (lx_last A hAs _).mono ?_; rintro e w2 ⟨rfl, hw2⟩; subst w2; rw [hL.out]))
          go_region
          go_wp2
          refine bodyPost_ret (results_tmp3 rfl _ _ _) rfl ?_
          exact ⟨hS.out, hw1.drew⟩
        · have hno : Hid (∀ j, ¬ Nm.CutAt s.toList j) := g4 (by omega)
          have t1 : (100 : Int) < (s.size : Int) - (i : Int) - 1 := by omega
          have hS : Hid (SplitEnds s.toList (.returned (.tuple #[.string ⟨#[]⟩, .string ⟨#[]⟩, .int .i64 2]))) := ⟨[], [], 2, rfl, ⟨fun h => absurd hc2.out h, fun _ h => absurd h (by rw [HSZ.out]; omega), fun _ _ i hi => absurd hi (hno.out i), fun _ _ _ => ⟨rfl, rfl, rfl⟩⟩⟩
          clear g1 g3 g4
          go_enter Tryz.func38, Tryz.ntmps38
          go_wp2_with (first
            | (go_at_call 35; refine (ncheck_any s hs _).mono ?_; rintro e w1 ⟨rfl, hw1⟩; rw [hc.out])
            | (go_at_call 53; rw [hA.out]; refine (lx_last A hAs _).mono ?_; rintro e w2 ⟨rfl, hw2⟩; subst w2; rw [hL.out]))
          refine bodyPost_ret (results_tmp3 rfl _ _ _) rfl ?_
          exact ⟨hS.out, hw1⟩
  · have e1 : (cE != 0) = true := by rw [bne_iff_ne]; exact h0
    have hS : Hid (SplitEnds s.toList (.returned (.tuple #[.string ⟨#[]⟩, .string ⟨#[]⟩, .int .i64 cE]))) := ⟨[], [], cE, rfl, ⟨fun _ => ⟨rfl, rfl, hc2.out.symm⟩, fun h => absurd (hc2.out.symm.trans h) h0, fun h => absurd (hc2.out.symm.trans h) h0, fun h => absurd (hc2.out.symm.trans h) h0⟩⟩
    go_enter Tryz.func38, Tryz.ntmps38
    go_wp2_with (go_at_call 35; refine (ncheck_any s hs _).mono ?_; rintro e w1 ⟨rfl, hw1⟩; rw [hc.out])
    refine bodyPost_ret (results_tmp3 rfl _ _ _) rfl ?_
    exact ⟨hS.out, hw1⟩
end Go.Proofs.YtldkhbkgmiicbabGreatDoor
