/- Layer 16: slices.Replace, slices.Insert. -/
import Derived.Test.YtfdfkhmaeeonpaaRg
namespace Go.Proofs.Ytfdfkhmaeeonpaa
open Go.RowKit Go.Deep
set_option linter.unusedVariables false
set_option linter.unusedSimpArgs false

def RepEnds (b : Nat) (M : List Sp.Rn) (w : World) (e : Ending) (w' : World) : Prop := ∃ b' c', e = .returned (.slice (some ⟨b', 0, none⟩) M.length c') ∧ RB w' 48 b' c' M ∧ (b' = b ∨ w.heap.size ≤ b') ∧ Bx (· = b) w w'
theorem rep_ends {b c k : Nat} {M N : List Sp.Rn} {w w' : World} (h : RB w' 48 b c M) (hN : M.take k = N) (hk : N.length = k) (hx : Bx (· = b) w w') : RepEnds b N w (.returned (.slice (some ⟨b, 0, none⟩) k c)) w' :=
  ⟨b, c, by rw [hk], by rw [← hN]; exact h.take k, .inl rfl, hx⟩
set_option maxRecDepth 100000 in
set_option maxHeartbeats 2000000 in
theorem rep_shrink (b c n m i j vb vc : Nat) (L V : List Sp.Rn) (w : World) (hb : RB w 48 b c L) (hv : RB w 48 vb vc V) (hne : vb ≠ b) (hn : L.length = n) (hm : V.length = m) (hij : i < j) (hj : j < n) (him : i + m ≤ j) (hn2 : n ≤ 1000000) :
    Calls Try.prog 38 #[.slice (some ⟨b, 0, none⟩) n c, .int .i64 (i : Int), .int .i64 (j : Int), .slice (some ⟨vb, 0, none⟩) m vc] w fun e w' => RepEnds b (L.take i ++ V ++ L.drop j) w e w' := by
  have hcap := hb.cap
  have hle := hb.le
  rw [hn] at hle
  have hc63 : c ≤ 9223372036854775807 := by unfold maxLen at hcap; omega
  clear hcap
  have i0 : (0 : Int) ≤ (i : Int) := Int.natCast_nonneg _
  have j0 : (0 : Int) ≤ (j : Int) := Int.natCast_nonneg _
  have j1 : (j : Int) < (n : Int) := by omega
  have ij1 : (i : Int) < (j : Int) := by omega
  have c1 : (j : Int) ≤ (c : Int) := by omega
  have jn : j ≤ n := by omega
  have e1 : ((i : Int) == (j : Int)) = false := by rw [beq_eq_false_iff_ne]; omega
  have e2 : ((j : Int) == (n : Int)) = false := by rw [beq_eq_false_iff_ne]; omega
  have cj : ¬ c = j := by omega
  have ci : ¬ c = i := by omega
  have c0 : ¬ c = 0 := by omega
  have him' : (i : Int) + (m : Int) ≤ (j : Int) := by omega
  have cim : ¬ c = i + m := by omega
  have h1c : (i : Int) ≤ (i : Int) + (m : Int) + ((n - j : Nat) : Int) := by omega
  have hw1 : IntKind.i64.wrap ((i : Int) + (m : Int)) = (i : Int) + (m : Int) := by rw [IntKind.wrap_i64]; omega
  have hb1 : (0 : Int) ≤ (i : Int) + (m : Int) := by omega
  have hb2 : (i : Int) + (m : Int) ≤ (i : Int) + (m : Int) + ((n - j : Nat) : Int) := by omega
  have htn : ((i : Int) + (m : Int)).toNat = i + m := by omega
  go_enter Try.func38, Try.ntmps38
  go_upto_region 9 with fail
  go_quiet (fail)
  go_upto_region 17 with fail
  obtain ⟨W, hW⟩ : ∃ W, W = w.drewN nq := ⟨_, rfl⟩
  rw [← hW]
  have kW : Bw w W := by rw [hW]; exact Bw.drewN _ _
  clear hW
  obtain ⟨w1, hc1, hR1, hX1⟩ := copyR (hb.keep kW) (o := i) (V := V) (by omega) (by omega) (hv.keep kW).src0 (i + m + (n - j) - i) (c - i) m vc (by rw [hm]; simp only [Nat.min_def]; split <;> omega)
  rw [hm] at hc1 hR1
  have kd : Bw w1 w1.drew := (Bw.refl _).drew
  have hL1 : (L.take i ++ V ++ L.drop (i + m)).drop j = L.drop j := by
    rw [List.drop_append, List.drop_eq_nil_of_le (by simp; omega), List.nil_append, List.drop_drop]
    congr 1
    simp only [List.length_append, List.length_take]
    omega
  have hS1 : RsAt w1.drew (some ⟨b, j * 2, none⟩) (L.drop j) := by have := (hR1.keep kd).src j; rwa [hL1] at this
  have hl1 : (L.take i ++ V ++ L.drop (i + m)).length = n := by simp only [List.length_append, List.length_take, List.length_drop]; omega
  obtain ⟨w2, hc2, hR2, hX2⟩ := copyR (hR1.keep kd) (o := i + m) (V := L.drop j) (by rw [hl1]; omega) (by rw [List.length_drop]; omega) hS1 (n - j) (c - (i + m)) (n - j) (c - j) (by rw [List.length_drop, hn]; exact (Nat.min_self _).symm)
  have hl2 : (L.drop j).length = n - j := by rw [List.length_drop, hn]
  rw [hl2] at hc2 hR2
  have hL2 : ((L.take i ++ V ++ L.drop (i + m)).take (i + m) ++ L.drop j ++ (L.take i ++ V ++ L.drop (i + m)).drop (i + m + (n - j))).take (i + m + (n - j)) = L.take i ++ V ++ L.drop j := by
    have e : (L.take i ++ V ++ L.drop (i + m)).take (i + m) = L.take i ++ V := List.take_left' (by simp; omega)
    rw [e, List.take_left' (by simp; omega)]
  have hl3 : (L.take i ++ V ++ L.drop j).length = i + m + (n - j) := by simp only [List.length_append, List.length_take, List.length_drop]; omega
  have hl4 : ((L.take i ++ V ++ L.drop (i + m)).take (i + m) ++ L.drop j ++ (L.take i ++ V ++ L.drop (i + m)).drop (i + m + (n - j))).length = n := by simp only [List.length_append, List.length_take, List.length_drop]; omega
  have hXX : Bx (· = b) w w2 := ((Bx.of_bw kW).trans hX1).trans ((Bx.of_bw kd).trans hX2)
  go_upto_region 18 with fail
  refine wp_region_any (by kernel_rfl) ?_
  change wpAny _ _ _ _ _ _ _ (World.drew _)
  refine wpAny_take (i := 0) (v := ?_) rfl (by kernel_rfl) (by kernel_rfl) (by kernel_rfl) (fun _ _ _ h => h) (Or.inl ⟨by rfl, ?_⟩) ?_
  rotate_left
  · intro w; go_simp; all_goals (with_reducible rfl)
  try simp only [Act.put, List.setIfInBounds_toArray, List.set_cons_zero, List.set_cons_succ, List.getElem_toArray, List.getElem_cons_succ, List.getElem_cons_zero]
  refine wpAny_take (i := 1) (v := ?_) rfl (by kernel_rfl) (by kernel_rfl) (by kernel_rfl) (fun _ _ _ h => h) (Or.inl ⟨by rfl, ?_⟩) ?_
  rotate_left
  · intro w; go_simp; all_goals (with_reducible rfl)
  try simp only [Act.put, List.setIfInBounds_toArray, List.set_cons_zero, List.set_cons_succ, List.getElem_toArray, List.getElem_cons_succ, List.getElem_cons_zero]
  refine wpAny_take (i := 2) (v := ?_) rfl (by kernel_rfl) (by kernel_rfl) (by kernel_rfl) (fun _ _ _ h => h) (Or.inl ⟨by rfl, ?_⟩) ?_
  rotate_left
  · intro w; go_simp; all_goals (with_reducible rfl)
  try simp only [Act.put, List.setIfInBounds_toArray, List.set_cons_zero, List.set_cons_succ, List.getElem_toArray, List.getElem_cons_succ, List.getElem_cons_zero]
  refine wpAny_take (i := 3) (v := ?_) rfl (by kernel_rfl) (by kernel_rfl) (by kernel_rfl) (fun _ _ _ h => h) (Or.inl ⟨by rfl, ?_⟩) ?_
  rotate_left
  · intro w; go_simp; all_goals (with_reducible rfl)
  try simp only [Act.put, List.setIfInBounds_toArray, List.set_cons_zero, List.set_cons_succ, List.getElem_toArray, List.getElem_cons_succ, List.getElem_cons_zero]
  refine wpAny_take (i := 4) (v := ?_) rfl (by kernel_rfl) (by kernel_rfl) (by kernel_rfl) (fun _ _ _ h => h) (Or.inl ⟨by rfl, ?_⟩) ?_
  rotate_left
  · intro w; go_simp; all_goals (with_reducible rfl)
  try simp only [Act.put, List.setIfInBounds_toArray, List.set_cons_zero, List.set_cons_succ, List.getElem_toArray, List.getElem_cons_succ, List.getElem_cons_zero]
  refine wpAny_take (i := 5) (v := ?_) rfl (by kernel_rfl) (by kernel_rfl) (by kernel_rfl) (fun _ _ _ h => h) (Or.inl ⟨by rfl, ?_⟩) ?_
  rotate_left
  · intro w; go_simp; all_goals (with_reducible rfl)
  try simp only [Act.put, List.setIfInBounds_toArray, List.set_cons_zero, List.set_cons_succ, List.getElem_toArray, List.getElem_cons_succ, List.getElem_cons_zero]
  refine wpAny_take (i := 6) (v := ?_) rfl (by kernel_rfl) (by kernel_rfl) (by kernel_rfl) (fun _ _ _ h => h) (Or.inl ⟨by rfl, ?_⟩) ?_
  rotate_left
  · intro w; go_simp; all_goals (with_reducible rfl)
  try simp only [Act.put, List.setIfInBounds_toArray, List.set_cons_zero, List.set_cons_succ, List.getElem_toArray, List.getElem_cons_succ, List.getElem_cons_zero]
  refine wpAny_take (i := 7) (v := ?_) rfl (by kernel_rfl) (by kernel_rfl) (by kernel_rfl) (fun _ _ _ h => h) (Or.inl ⟨by rfl, ?_⟩) ?_
  rotate_left
  · intro w; go_simp; all_goals (with_reducible rfl)
  try simp only [Act.put, List.setIfInBounds_toArray, List.set_cons_zero, List.set_cons_succ, List.getElem_toArray, List.getElem_cons_succ, List.getElem_cons_zero]
  refine wpAny_take (i := 8) (v := ?_) rfl (by kernel_rfl) (by kernel_rfl) (by kernel_rfl) (fun _ _ _ h => h) (Or.inl ⟨by rfl, ?_⟩) ?_
  rotate_left
  · intro w; go_simp; all_goals (with_reducible rfl)
  try simp only [Act.put, List.setIfInBounds_toArray, List.set_cons_zero, List.set_cons_succ, List.getElem_toArray, List.getElem_cons_succ, List.getElem_cons_zero]
  refine wpAny_ready (rs := [9]) (by kernel_rfl) (by simp) ?_
  refine AllReady.cons rfl (fun K hK => ?_) AllReady.nil
  go_simp
  refine hK _ _ ?_
  clear hK K
  try simp only [Act.put, List.setIfInBounds_toArray, List.set_cons_zero, List.set_cons_succ, List.getElem_toArray, List.getElem_cons_succ, List.getElem_cons_zero]
  refine wpAny_done (by kernel_rfl) ?_ _
  by_cases hq : i + m + (n - j) < n
  · obtain ⟨w3, hc3, hR3, hX3⟩ := clearR hR2 (o := i + m + (n - j)) (n := n - (i + m + (n - j))) (by rw [hl4]; omega) (by omega) (by omega) (c - (i + m + (n - j)))
    have HE : Hid (RepEnds b (L.take i ++ V ++ L.drop j) w (.returned (.slice (some ⟨b, 0, none⟩) (i + m + (n - j)) c)) w3) := by
      refine rep_ends hR3 ?_ hl3 (hXX.trans hX3)
      rw [List.append_assoc, List.take_left' (by rw [List.length_take, hl4]; omega)]
      exact hL2
    have ct : ¬ c = i + m + (n - j) := by omega
    have h2c : (i : Int) + (m : Int) + ((n - j : Nat) : Int) ≤ (n : Int) := by omega
    clear hR2 hR3 hX3 hL2 hl4 hc1 hc2
    go_wp2
    go_ret
    exact HE.out
  · have eq : i + m + (n - j) = n := by omega
    have HE : Hid (RepEnds b (L.take i ++ V ++ L.drop j) w (.returned (.slice (some ⟨b, 0, none⟩) (i + m + (n - j)) c)) w2) := rep_ends hR2 hL2 hl3 hXX
    have h2c : (i : Int) + (m : Int) + ((n - j : Nat) : Int) ≤ (n : Int) := by omega
    have h2d : i + m + (n - j) - (i + m + (n - j)) = 0 := by omega
    have h2e : n - (i + m + (n - j)) = 0 := by omega
    have hcl := clear_none w2
    clear hR2 hL2 hl4 hc1 hc2
    by_cases ct : c = i + m + (n - j)
    · go_wp2
      go_ret
      exact HE.out
    · go_wp2
      go_ret
      exact HE.out
end Go.Proofs.Ytfdfkhmaeeonpaa
