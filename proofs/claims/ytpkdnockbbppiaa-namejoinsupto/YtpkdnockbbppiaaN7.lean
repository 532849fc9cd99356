/- The document's own Split and Joined. -/
import Derived.Test.YtpkdnockbbppiaaN6
namespace Go.Proofs.Ytpkdnockbbppiaa
open Go.RowKit Go.Deep
set_option linter.unusedVariables false
set_option linter.unusedSimpArgs false

/-- what Split answers, as a call's end -/
def SplitEnds (l : Nm.B) (e : Ending) : Prop := ∃ a b er, e = .returned (.tuple #[.string (Nm.S a), .string (Nm.S b), .int .i64 er]) ∧ Nm.SplitSays l a b er
theorem str_nil : (⟨#[]⟩ : ByteArray) = Nm.S [] := rfl
set_option maxRecDepth 100000 in
set_option maxHeartbeats 2000000 in
theorem rsplit_any (s : ByteArray) (hs : s.size ≤ 4611686018427387904) (w : World) :
    Calls Try.prog 22 #[.string s] w fun e w' => SplitEnds s.toList e ∧ Bw w w' := by
  obtain ⟨cs, es, hcs⟩ : ∃ a b, Hid (Nm.check s.toList = (a, b)) := ⟨(Nm.check s.toList).1, (Nm.check s.toList).2, show Nm.check s.toList = _ from rfl⟩
  have HSZ : Hid (s.toList.length = s.size) := Nm.size_toList s
  by_cases h1 : es = 0
  · have hc0 : Hid ((Nm.check s.toList).2 = 0) := by show _ = _; rw [hcs.out]; exact h1
    have hss : s.size ≤ 400 := by
      rcases Nat.lt_or_ge 400 s.size with h | h
      · have := hcs.out; unfold Nm.check at this; rw [if_pos (by rw [Nm.size_toList]; exact h)] at this; cases this; omega
      · exact h
    subst h1
    by_cases h2 : s.size ≤ 100
    · have hans : Hid (Nm.SplitSays s.toList [] s.toList 0) := ⟨fun h => absurd hc0.out h, fun _ _ => ⟨rfl, rfl, rfl⟩, fun _ h => by rw [HSZ.out] at h; omega, fun _ h => by rw [HSZ.out] at h; omega⟩
      go_enter Try.func22, Try.ntmps22
      go_wp2_with (go_at_call 10; refine (rcheck_any s hs _).mono ?_; rintro e w1 ⟨rfl, hw1⟩; rw [hcs.out])
      try simp only [Exit.inBlock, Exit.then]
      refine bodyPost_ret (results_tmp3 rfl _ _ _) rfl ?_
      exact ⟨⟨[], s.toList, 0, by rw [Nm.S_toList]; rfl, hans.out⟩, hw1⟩
    · have t2 : ¬ (s.size : Int) ≤ 100 := by omega
      go_enter Try.func22, Try.ntmps22
      go_wp2_with (go_at_call 10; refine (rcheck_any s hs _).mono ?_; rintro e w1 ⟨rfl, hw1⟩; rw [hcs.out])
      go_loopw [2, 3, 4, 7] (fun p q r i wr => ∃ y : Nat, y ≤ s.size ∧ p = .string ⟨#[]⟩ ∧ q = .string ⟨#[]⟩ ∧ r = .int .i64 0 ∧ i = .int .i64 ((y : Int) - 1) ∧ Hid (∀ j, y ≤ j → ¬ Nm.CutAt s.toList j) ∧ wr = w1) (fun _ _ _ i _ => (intOf i + 1).toNat)
      case atStart => exact ⟨s.size, Nat.le_refl _, rfl, rfl, rfl, by go_num, fun j hj h => by have := Nm.cut_lt h; rw [HSZ.out] at this; omega, rfl⟩
      case round =>
        obtain ⟨y, hy, rfl, rfl, rfl, rfl, hall, hww⟩ := hrel
        subst wr
        rcases y with _ | y
        · have hans : Hid (Nm.SplitSays s.toList [] [] 2) := ⟨fun h => absurd hc0.out h, fun _ h => by rw [HSZ.out] at h; omega, fun _ _ i hi => absurd hi (hall.out i (Nat.zero_le _)), fun _ _ _ => ⟨rfl, rfl, rfl⟩⟩
          go_wp2
          try simp only [Exit.inBlock, Exit.then]
          refine bodyPost_ret (results_tmp3 rfl _ _ _) rfl ?_
          exact ⟨⟨[], [], 2, rfl, hans.out⟩, hw1⟩
        · have ey : ((y + 1 : Nat) : Int) - 1 = (y : Int) := by omega
          rw [ey]
          clear ey
          have y0 : (0 : Int) ≤ (y : Int) := Int.natCast_nonneg _
          have y1 : (y : Int) < (s.size : Int) := by omega
          have hlt : y < s.size := by omega
          have hg : Hid (s.toList[y]? = some s[y]) := by
            show _ = _
            rw [List.getElem?_eq_getElem (by rw [HSZ.out]; exact hlt), Nm.get_toList s y hlt (by rw [HSZ.out]; exact hlt)]
          by_cases h47 : s[y] = 47
          · have e1 : ((s[y].toNat : Int) == 47) = true := by rw [h47]; rfl
            by_cases h5 : y ≤ 155
            · by_cases h6 : s.size - y - 1 ≤ 100
              · have hcut : Nm.CutAt s.toList y := ⟨by rw [hg.out, h47], h5, by rw [HSZ.out]; exact h6⟩
                have hans : Hid (Nm.SplitSays s.toList (s.toList.take y) (s.toList.drop (y + 1)) 0) := ⟨fun h => absurd hc0.out h, fun _ h => by rw [HSZ.out] at h; omega, fun _ _ i hi hl => by
                  have : i = y := by
                    rcases Nat.lt_trichotomy i y with h | h | h
                    · exact absurd hcut (hl y h)
                    · exact h
                    · exact absurd hi (hall.out i (by omega))
                  subst this
                  exact ⟨rfl, rfl, rfl⟩, fun _ _ h => absurd hcut (h y)⟩
                have t6 : (s.size : Int) - (y : Int) - 1 ≤ 100 := by omega
                have t5 : (y : Int) ≤ 155 := by omega
                have t7 : (y : Int) + 1 ≤ (s.size : Int) := by omega
                have t8 : (y : Int) ≤ (s.size : Int) := by omega
                have hfin : Hid (∀ nq, Bw w (w1.drewN nq)) := fun nq => hw1.trans (Bw.drewN _ nq)
                clear h47 hcut
                go_wp2
                go_quiet (fail)
                go_wp2
                try simp only [Exit.inBlock, Exit.then]
                refine bodyPost_ret (results_tmp3 rfl _ _ _) rfl ?_
                exact ⟨⟨_, _, 0, by rw [← Nm.extract_to, ← Nm.extract_from]; rfl, hans.out⟩, hfin.out _⟩
              · have t6 : ¬ (s.size : Int) - (y : Int) - 1 ≤ 100 := by omega
                have t5 : (y : Int) ≤ 155 := by omega
                have hn : Hid (∀ j, y ≤ j → ¬ Nm.CutAt s.toList j) := fun j hj h => by
                  rcases Nat.lt_or_ge y j with k | k
                  · exact hall.out j (by omega) h
                  · obtain rfl : j = y := by omega
                    have := h.2.2; rw [HSZ.out] at this; omega
                clear h47
                go_wp2
                go_roundw
                case rel => exact ⟨y, by omega, rfl, rfl, rfl, by go_num, hn, by first | rfl | trivial⟩
                case measure => simp [intOf]
            · have t5 : ¬ (y : Int) ≤ 155 := by omega
              have hn : Hid (∀ j, y ≤ j → ¬ Nm.CutAt s.toList j) := fun j hj h => by have := h.2.1; omega
              clear h47
              go_wp2
              go_roundw
              case rel => exact ⟨y, by omega, rfl, rfl, rfl, by go_num, hn, by first | rfl | trivial⟩
              case measure => simp [intOf]
          · have e1 : ((s[y].toNat : Int) == 47) = false := by
              rw [beq_eq_false_iff_ne]
              exact fun h => h47 ((Nm.byte_eq _ 47).1 h)
            have hn : Hid (∀ j, y ≤ j → ¬ Nm.CutAt s.toList j) := fun j hj h => by
              rcases Nat.lt_or_ge y j with k | k
              · exact hall.out j (by omega) h
              · obtain rfl : j = y := by omega
                have := h.1; rw [hg.out] at this; exact h47 (Option.some.inj this)
            clear h47
            go_wp2
            go_roundw
            case rel => exact ⟨y, by omega, rfl, rfl, rfl, by go_num, hn, by first | rfl | trivial⟩
            case measure => simp [intOf]
  · have e1 : (es != 0) = true := by rw [bne_iff_ne]; exact h1
    have hans : Hid (Nm.SplitSays s.toList [] [] es) := ⟨fun _ => ⟨rfl, rfl, by rw [hcs.out]⟩, fun h => absurd (by rw [← h, hcs.out]) h1, fun h => absurd (by rw [← h, hcs.out]) h1, fun h => absurd (by rw [← h, hcs.out]) h1⟩
    go_enter Try.func22, Try.ntmps22
    go_wp2_with (go_at_call 10; refine (rcheck_any s hs _).mono ?_; rintro e w1 ⟨rfl, hw1⟩; rw [hcs.out])
    try simp only [Exit.inBlock, Exit.then]
    refine bodyPost_ret (results_tmp3 rfl _ _ _) rfl ?_
    exact ⟨⟨[], [], es, rfl, hans.out⟩, hw1⟩

/-- a list of texts in memory -/
def StrsAt (w : World) (A : Option Addr) (n : Nat) (T : Nat → ByteArray) : Prop := n = 0 ∨ ∃ b off, A = some ⟨b, off, none⟩ ∧ ∀ i, i < n → w.cell? ⟨b, off + i, none⟩ = some (.string (T i))
theorem StrsAt.keep {w w' : World} {A : Option Addr} {n : Nat} {T : Nat → ByteArray} (h : StrsAt w A n T) (g : Bw w w') : StrsAt w' A n T := by
  rcases h with h0 | ⟨b, off, hA, hc⟩
  · exact Or.inl h0
  · refine Or.inr ⟨b, off, hA, fun i hi => ?_⟩
    have := hc i hi
    rw [g.cell (p := ⟨b, off + i, none⟩) (block_lt_of_cell this)]
    exact this
theorem StrsAt.at {w : World} {A : Option Addr} {n : Nat} {T : Nat → ByteArray} (h : StrsAt w A n T) {k : Nat} (hk : k < n) : ∃ b off, A = some ⟨b, off, none⟩ ∧ ∀ i, i < n → w.cell? ⟨b, off + i, none⟩ = some (.string (T i)) := by
  rcases h with h0 | h
  · omega
  · exact h
/-- the parts, as lists of bytes -/
def partsL (T : Nat → ByteArray) (n : Nat) : List Nm.B := (List.range n).map fun i => (T i).toList
theorem partsL_succ (T : Nat → ByteArray) (n : Nat) : partsL T (n + 1) = partsL T n ++ [(T n).toList] := by unfold partsL; rw [List.range_succ, List.map_append]; rfl
theorem partsL_len (T : Nat → ByteArray) (n : Nat) : (partsL T n).length = n := by unfold partsL; simp
theorem joined_next (T : Nat → ByteArray) (k : Nat) : Nm.joined (partsL T (k + 1)) = if k = 0 then (T 0).toList else Nm.joined (partsL T k) ++ (47 :: (T k).toList) := by
  rw [partsL_succ]
  by_cases h : k = 0
  · subst h; rw [if_pos rfl]; rfl
  · rw [if_neg h, Nm.joined_append _ _ (fun e => h (by have := partsL_len T k; rw [e] at this; exact this.symm))]
set_option maxRecDepth 100000 in
set_option maxHeartbeats 2000000 in
theorem rjoined_any (A : Option Addr) (n cap : Nat) (T : Nat → ByteArray) (hn : n ≤ 4611686018427387904) (hsum : (Nm.joined (partsL T n)).length ≤ 4611686018427387904) (w : World) (ha : StrsAt w A n T) :
    Calls Try.prog 28 #[.slice A n cap] w fun e w' => e = .returned (.string (Nm.S (Nm.joined (partsL T n)))) ∧ w' = w := by
  have HT : Hid (∀ k, k ≤ n → (Nm.joined (partsL T k)).length ≤ 4611686018427387904) := by
    intro k hk
    have : ∀ d k, k + d = n → (Nm.joined (partsL T k)).length ≤ (Nm.joined (partsL T n)).length := by
      intro d
      induction d with
      | zero => intro k h; rw [show k = n by omega]; exact Nat.le_refl _
      | succ d ih =>
        intro k h
        refine Nat.le_trans ?_ (ih (k + 1) (by omega))
        rw [joined_next]
        split
        · rename_i h0; subst h0; exact Nat.zero_le _
        · rw [List.length_append]; omega
    exact Nat.le_trans (this (n - k) k (by omega)) hsum
  have HJ : Hid (∀ k, Nm.joined (partsL T (k + 1)) = if k = 0 then (T 0).toList else Nm.joined (partsL T k) ++ (47 :: (T k).toList)) := joined_next T
  clear hsum
  go_enter Try.func28, Try.ntmps28
  go_wp2
  go_loop [3, 4] (fun x i => ∃ (k : Nat) (X : ByteArray), k ≤ n ∧ i = .int .i64 (k : Int) ∧ x = .string X ∧ Hid (X = Nm.S (Nm.joined (partsL T k)))) (fun _ i => n - (intOf i).toNat)
  case atStart => exact ⟨0, ⟨#[]⟩, Nat.zero_le _, rfl, rfl, rfl⟩
  case round =>
    obtain ⟨k, X, hk, rfl, rfl, hX⟩ := hrel
    have k0 : (0 : Int) ≤ (k : Int) := Int.natCast_nonneg _
    by_cases hlt : k < n
    · obtain ⟨b1, o1, rfl, hc1⟩ := ha.at hlt
      have c1 := hc1 k hlt
      have t1 : (k : Int) < (n : Int) := by omega
      clear hc1
      have hj := HT.out (k + 1) (by omega)
      rw [HJ.out k] at hj
      by_cases h0 : k = 0
      · rw [if_pos h0] at hj
        subst h0
        rw [Nat.add_zero] at c1
        have hX0 : X = ⟨#[]⟩ := by rw [hX.out]; rfl
        subst hX0
        have hadd : (⟨#[]⟩ : ByteArray) ++ T 0 = T 0 := by
          rw [← Nm.S_toList (T 0), show (⟨#[]⟩ : ByteArray) = Nm.S [] from rfl, Nm.append_S]; rfl
        have hsz : (T 0).size ≤ 4611686018427387904 := by rw [Nm.size_toList] at hj; exact hj
        have hrun : ∀ u : World, (Op.stringOp .add ⟨#[]⟩ (T 0)).run Try.prog u = .ok (.string (T 0)) u := fun u => by
          rw [run_string_add_sum _ _ _ (by rw [show (⟨#[]⟩ : ByteArray).size = 0 from rfl]; omega), hadd]
        have hnx : Hid (T 0 = Nm.S (Nm.joined (partsL T (0 + 1)))) := by show _ = _; rw [HJ.out 0, if_pos rfl, Nm.S_toList]
        clear hadd
        go_wp2
        go_round
        case rel => exact ⟨1, T 0, by omega, by go_num, rfl, hnx⟩
        case measure => simp [intOf]; omega
      · rw [if_neg h0, List.length_append, List.length_cons, Nm.size_toList] at hj
        have t2 : (0 : Int) < (k : Int) := by omega
        have hXs : X.size = (Nm.joined (partsL T k)).length := by rw [hX.out, Nm.size_S]
        obtain ⟨Y, hY⟩ : ∃ Y, Y = X ++ (⟨#[47]⟩ : ByteArray) := ⟨_, rfl⟩
        have hYs : Y.size = X.size + 1 := by rw [hY, ByteArray.size_append]; rfl
        have hrun1 : ∀ u : World, (Op.stringOp .add X ⟨#[47]⟩).run Try.prog u = .ok (.string Y) u := fun u => by
          rw [run_string_add_sum _ _ _ (by rw [show (⟨#[47]⟩ : ByteArray).size = 1 from rfl]; omega), hY]
        obtain ⟨Z, hZ⟩ : ∃ Z, Z = Y ++ T k := ⟨_, rfl⟩
        have hrun2 : ∀ u : World, (Op.stringOp .add Y (T k)).run Try.prog u = .ok (.string Z) u := fun u => by
          rw [run_string_add_sum _ _ _ (by omega), hZ]
        have hnx : Hid (Z = Nm.S (Nm.joined (partsL T (k + 1)))) := by
          show _ = _
          rw [HJ.out k, if_neg h0, hZ, hY, hX.out, ← Nm.S_toList (T k), show (⟨#[47]⟩ : ByteArray) = Nm.S [47] from rfl, Nm.append_S, Nm.append_S, Nm.toList_S]
          simp
        clear hY hZ hXs hYs hj
        go_wp2
        go_round
        case rel => exact ⟨k + 1, Z, by omega, by go_num, rfl, hnx⟩
        case measure => simp [intOf]; omega
    · have ek : k = n := by omega
      subst ek
      go_wp2
      go_ret
      exact ⟨by rw [← hX.out]; rfl, rfl⟩
end Go.Proofs.Ytpkdnockbbppiaa
