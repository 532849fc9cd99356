/- Layer 16: slices.Insert, slices.Replace at runs. -/
import Derived.Test.YtfdfkhmaeeonpaaRi
namespace Go.Proofs.Ytfdfkhmaeeonpaa
open Go.RowKit Go.Deep
set_option linter.unusedVariables false
set_option linter.unusedSimpArgs false

theorem Sp.lay_grow {L V : List Sp.Rn} {i j m n k : Nat} (hn : L.length = n) (hm : V.length = m) (hi : i ≤ n) (hk : k = m + (n - j)) :
    ((((L.take i ++ List.replicate k (0, 0)).take i ++ V ++ (L.take i ++ List.replicate k (0, 0)).drop (i + m)).take (i + m) ++ L.drop j) ++ ((L.take i ++ List.replicate k (0, 0)).take i ++ V ++ (L.take i ++ List.replicate k (0, 0)).drop (i + m)).drop (i + m + (n - j))) = L.take i ++ V ++ L.drop j := by
  have hl : (L.take i).length = i := by rw [List.length_take]; omega
  have e1 : (L.take i ++ List.replicate k ((0, 0) : Sp.Rn)).take i = L.take i := List.take_left' hl
  have hl2 : (L.take i ++ V).length = i + m := by rw [List.length_append, hl, hm]
  rw [e1, List.take_left' hl2]
  have e3 : (L.take i ++ V ++ List.drop (i + m) (L.take i ++ List.replicate k ((0, 0) : Sp.Rn))).drop (i + m + (n - j)) = [] := List.drop_eq_nil_of_le (by simp only [List.length_append, hl2, List.length_drop, hl, List.length_replicate]; omega)
  rw [e3, List.append_nil]
theorem Sp.lay_fit {L V D : List Sp.Rn} {i m n : Nat} (hn : L.length = n) (him : i + m ≤ n) : (L.take (i + m) ++ D).take i ++ V ++ (L.take (i + m) ++ D).drop (i + m) = L.take i ++ V ++ D := by
  have hl : (L.take (i + m)).length = i + m := by rw [List.length_take]; omega
  have e1 : (L.take (i + m) ++ D).take i = L.take i := by
    rw [List.take_append_of_le_length (by omega), List.take_take, Nat.min_eq_left (by omega)]
  rw [e1, List.drop_left' hl]
theorem rep_all {b b' c' k : Nat} {M : List Sp.Rn} {w w' : World} (h : RB w' 48 b' c' M) (hk : M.length = k) (hb : b' = b ∨ w.heap.size ≤ b') (hx : Bx (· = b) w w') : RepEnds b M w (.returned (.slice (some ⟨b', 0, none⟩) k c')) w' :=
  ⟨b', c', by rw [hk], h, hb, hx⟩
set_option maxRecDepth 100000 in
set_option maxHeartbeats 2000000 in
theorem ins_end (b c n m i j vb vc : Nat) (L V : List Sp.Rn) (w : World) (hb : RB w 48 b c L) (hv : RB w 48 vb vc V) (hne : vb ≠ b) (hn : L.length = n) (hm : V.length = m) (hi : i = n) (hm0 : 0 < m) (hm2 : m ≤ 2) (hn2 : n ≤ 1000000) (Z : List Sp.Rn) (hZ : L.take i ++ V ++ L.drop i = Z) :
    Calls Try.prog 45 #[.slice (some ⟨b, 0, none⟩) n c, .int .i64 (i : Int), .slice (some ⟨vb, 0, none⟩) m vc] w fun e w' => RepEnds b Z w e w' := by
  have hcap := hb.cap
  have hle := hb.le
  rw [hn] at hle
  have hc63 : c ≤ 9223372036854775807 := by unfold maxLen at hcap; omega
  clear hcap
  have i0 : (0 : Int) ≤ (i : Int) := Int.natCast_nonneg _
  have HI : Hid (i = n) := hi
  have z1 : ((m : Int) == 0) = false := by rw [beq_eq_false_iff_ne]; omega
  have z2 : ((i : Int) == (n : Int)) = true := by rw [beq_iff_eq]; omega
  obtain ⟨b', c', w', hrun, hR, hbb, hX, -⟩ := appR hb (i := n) (by omega) hm hv.src0 vc (by omega)
  have HE : Hid (RepEnds b Z w (.returned (.slice (some ⟨b', 0, none⟩) (n + m) c')) w') := by
    rw [← hZ, hi, List.drop_eq_nil_of_le (by omega), List.append_nil]
    exact rep_all hR (by simp; omega) hbb hX
  have hin : (i : Int) ≤ (n : Int) := by omega
  have hin2 : i ≤ n := by omega
  clear hR hbb hX hb hv hi hZ
  go_enter Try.func45, Try.ntmps45
  go_wp2_with (at_builtin; refine Lib.wpList_append_run _ rfl _ _ _ _ rfl _ _ rfl rfl _ _ hrun ?_)
  all_goals go_ret
  all_goals exact HE.out
set_option maxRecDepth 100000 in
set_option maxHeartbeats 2000000 in
theorem ins_grow (b c n m i j vb vc : Nat) (L V : List Sp.Rn) (w : World) (hb : RB w 48 b c L) (hv : RB w 48 vb vc V) (hne : vb ≠ b) (hn : L.length = n) (hm : V.length = m) (hi : i < n) (him : i + m ≤ n) (hm0 : 0 < m) (hm2 : m ≤ 2) (hroom : c < n + m) (hn2 : n ≤ 1000000) (Z : List Sp.Rn) (hZ : L.take i ++ V ++ L.drop i = Z) :
    Calls Try.prog 45 #[.slice (some ⟨b, 0, none⟩) n c, .int .i64 (i : Int), .slice (some ⟨vb, 0, none⟩) m vc] w fun e w' => RepEnds b Z w e w' := by
  have hcap := hb.cap
  have hle := hb.le
  rw [hn] at hle
  have hc63 : c ≤ 9223372036854775807 := by unfold maxLen at hcap; omega
  clear hcap
  have i0 : (0 : Int) ≤ (i : Int) := Int.natCast_nonneg _
  have hz1 : ¬ ((m : Int) = 0) := by omega
  have hz2 : ¬ ((i : Int) = (n : Int)) := by omega
  have hz3 : (c : Int) < (n : Int) + (m : Int) := by omega
  have hkk : (n : Int) + (m : Int) - (i : Int) = ((n + m - i : Nat) : Int) := by omega
  have hik : i + (n + m - i) = n + m := by omega
  obtain ⟨G, w1, hrun, hR1, hB1⟩ := growR hb (i := i) (k := n + m - i) (by omega) (by omega) (by omega) (by omega)
  rw [hik, ← hkk] at hrun
  clear hkk hik
  have hG : G ≤ 9223372036854775807 := by have := hR1.cap; unfold maxLen at this; omega
  have hGn : n + m ≤ G := by have := hR1.le; simp only [List.length_append, List.length_take, List.length_replicate] at this; omega
  obtain ⟨w2, hc1, hR2, hX2⟩ := copyR hR1 (o := i) (V := V) (by simp; omega) (by rw [hm]; omega) (hv.keep hB1).src0 (n + m - i) (G - i) m vc (by rw [hm]; simp only [Nat.min_def]; split <;> omega)
  rw [hm] at hc1 hR2
  have kd : Bw w2 w2.drew := (Bw.refl _).drew
  have hNb : ¬ b = w.heap.size := by have := hb.lt; omega
  have hbX : Bx (· = w.heap.size) w w2 := (Bx.of_bw hB1).trans hX2
  have hS2 : RsAt w2.drew (some ⟨b, i * 2, none⟩) (L.drop i) := ((hb.keepx hbX hNb).keep kd).src i
  obtain ⟨w3, hc2, hR3, hX3⟩ := copyR (hR2.keep kd) (o := i + m) (V := L.drop i) (by simp; omega) (by rw [List.length_drop]; omega) hS2 (n + m - (i + m)) (G - (i + m)) (n - i) (c - i) (by rw [List.length_drop, hn]; simp only [Nat.min_def]; split <;> omega)
  have hl2 : (L.drop i).length = n - i := by rw [List.length_drop, hn]
  rw [hl2] at hc2 hR3
  have hX : Bx (· = b) w w3 := by
    have h1 : Bx (· = w.heap.size) w w3 := hbX.trans ((Bx.of_bw kd).trans hX3)
    exact Bx.of_bw (h1.below (Nat.le_refl _) (fun x hx => by omega))
  have hHE : RepEnds b Z w (.returned (.slice (some ⟨w.heap.size, 0, none⟩) (n + m) G)) w3 := by
    have hM : ∀ X Y : List Sp.Rn, X = Y → RB w3 48 w.heap.size G X → RB w3 48 w.heap.size G Y := fun X Y e h => by rw [← e]; exact h
    rw [← hZ]
    refine rep_all (hM _ _ ?_ hR3) (by simp only [List.length_append, List.length_take, List.length_drop]; omega) (.inr (Nat.le_refl _)) hX
    exact Sp.lay_grow hn hm (by omega) (by omega)
  have HE : Hid (RepEnds b Z w (.returned (.slice (some ⟨w.heap.size, 0, none⟩) (n + m) G)) w3) := hHE
  have hGi : ¬ (G = i) := by omega
  have hGim : ¬ (G = i + m) := by omega
  have hci : ¬ (c = i) := by omega
  have hw1 : IntKind.i64.wrap ((i : Int) + (m : Int)) = (i : Int) + (m : Int) := by rw [IntKind.wrap_i64]; omega
  have hb1 : (0 : Int) ≤ (i : Int) + (m : Int) := by omega
  have hin : i ≤ n := by omega
  have htn : ((i : Int) + (m : Int)).toNat = i + m := by omega
  have hb3 : (i : Int) ≤ (n : Int) := by omega
  have hb4 : (i : Int) + (m : Int) ≤ (n : Int) + (m : Int) := by omega
  have hb5 : (i : Int) ≤ (n : Int) + (m : Int) := by omega
  have hb6 : i ≤ n + m := by omega
  have hb7 : i + m ≤ n + m := by omega
  clear hHE hX hX3 hR3 hS2 hbX hX2 hR2 hR1 hb hv hl2
  go_enter Try.func45, Try.ntmps45
  go_upto_region 11 with (at_builtin; refine Lib.wpList_append_run _ rfl _ _ _ _ rfl _ _ rfl rfl _ _ hrun ?_)
  refine wp_region_any (by kernel_rfl) ?_
  change wpAny _ _ _ _ _ _ _ (World.drew _)
  refine wpAny_take (i := 0) (v := ?_) rfl (by kernel_rfl) (by kernel_rfl) (by kernel_rfl) (fun _ _ _ h => h) (Or.inl ⟨by rfl, ?_⟩) ?_
  rotate_left
  · intro w; go_simp; all_goals (with_reducible rfl)
  try simp only [Act.put, List.setIfInBounds_toArray, List.set_cons_zero, List.set_cons_succ, List.getElem_toArray, List.getElem_cons_succ, List.getElem_cons_zero]
  refine wpAny_take (i := 1) (v := ?_) rfl (by kernel_rfl) (by kernel_rfl) (by kernel_rfl) (fun _ _ _ h => h) (Or.inl ⟨by rfl, ?_⟩) ?_
  rotate_left
  · intro w; go_simp; all_goals (with_reducible rfl)
  try simp only [Act.put, List.setIfInBounds_toArray, List.set_cons_zero, List.set_cons_succ, List.getElem_toArray, List.getElem_cons_succ, List.getElem_cons_zero]
  refine wpAny_take (i := 2) (v := ?_) rfl (by kernel_rfl) (by kernel_rfl) (by kernel_rfl) (fun _ _ _ h => h) (Or.inl ⟨by rfl, ?_⟩) ?_
  rotate_left
  · intro w; go_simp; all_goals (with_reducible rfl)
  try simp only [Act.put, List.setIfInBounds_toArray, List.set_cons_zero, List.set_cons_succ, List.getElem_toArray, List.getElem_cons_succ, List.getElem_cons_zero]
  refine wpAny_take (i := 3) (v := ?_) rfl (by kernel_rfl) (by kernel_rfl) (by kernel_rfl) (fun _ _ _ h => h) (Or.inl ⟨by rfl, ?_⟩) ?_
  rotate_left
  · intro w; go_simp; all_goals (with_reducible rfl)
  try simp only [Act.put, List.setIfInBounds_toArray, List.set_cons_zero, List.set_cons_succ, List.getElem_toArray, List.getElem_cons_succ, List.getElem_cons_zero]
  refine wpAny_take (i := 4) (v := ?_) rfl (by kernel_rfl) (by kernel_rfl) (by kernel_rfl) (fun _ _ _ h => h) (Or.inl ⟨by rfl, ?_⟩) ?_
  rotate_left
  · intro w; go_simp; all_goals (with_reducible rfl)
  try simp only [Act.put, List.setIfInBounds_toArray, List.set_cons_zero, List.set_cons_succ, List.getElem_toArray, List.getElem_cons_succ, List.getElem_cons_zero]
  refine wpAny_take (i := 5) (v := ?_) rfl (by kernel_rfl) (by kernel_rfl) (by kernel_rfl) (fun _ _ _ h => h) (Or.inl ⟨by rfl, ?_⟩) ?_
  rotate_left
  · intro w; go_simp; all_goals (with_reducible rfl)
  try simp only [Act.put, List.setIfInBounds_toArray, List.set_cons_zero, List.set_cons_succ, List.getElem_toArray, List.getElem_cons_succ, List.getElem_cons_zero]
  refine wpAny_take (i := 6) (v := ?_) rfl (by kernel_rfl) (by kernel_rfl) (by kernel_rfl) (fun _ _ _ h => h) (Or.inl ⟨by rfl, ?_⟩) ?_
  rotate_left
  · intro w; go_simp; all_goals (with_reducible rfl)
  try simp only [Act.put, List.setIfInBounds_toArray, List.set_cons_zero, List.set_cons_succ, List.getElem_toArray, List.getElem_cons_succ, List.getElem_cons_zero]
  refine wpAny_take (i := 7) (v := ?_) rfl (by kernel_rfl) (by kernel_rfl) (by kernel_rfl) (fun _ _ _ h => h) (Or.inl ⟨by rfl, ?_⟩) ?_
  rotate_left
  · intro w; go_simp; all_goals (with_reducible rfl)
  try simp only [Act.put, List.setIfInBounds_toArray, List.set_cons_zero, List.set_cons_succ, List.getElem_toArray, List.getElem_cons_succ, List.getElem_cons_zero]
  refine wpAny_ready (rs := [8]) (by kernel_rfl) (by simp) ?_
  refine AllReady.cons rfl (fun K hK => ?_) AllReady.nil
  go_simp
  refine hK _ _ ?_
  clear hK K
  try simp only [Act.put, List.setIfInBounds_toArray, List.set_cons_zero, List.set_cons_succ, List.getElem_toArray, List.getElem_cons_succ, List.getElem_cons_zero]
  refine wpAny_done (by kernel_rfl) ?_ _
  go_wp2
  go_ret
  exact HE.out
set_option maxRecDepth 100000 in
set_option maxHeartbeats 2000000 in
theorem ins_shift (b c n m i j vb vc : Nat) (L V : List Sp.Rn) (w : World) (hb : RB w 48 b c L) (hv : RB w 48 vb vc V) (hne : vb ≠ b) (hn : L.length = n) (hm : V.length = m) (hi : i < n) (him : i + m ≤ n) (hm0 : 0 < m) (hm2 : m ≤ 2) (hroom : n + m ≤ c) (hvc : 0 < vc) (hn2 : n ≤ 1000000) (Z : List Sp.Rn) (hZ : L.take i ++ V ++ L.drop i = Z) :
    Calls Try.prog 45 #[.slice (some ⟨b, 0, none⟩) n c, .int .i64 (i : Int), .slice (some ⟨vb, 0, none⟩) m vc] w fun e w' => RepEnds b Z w e w' := by
  have hcap := hb.cap
  have hle := hb.le
  rw [hn] at hle
  have hc63 : c ≤ 9223372036854775807 := by unfold maxLen at hcap; omega
  clear hcap
  have i0 : (0 : Int) ≤ (i : Int) := Int.natCast_nonneg _
  have hz1 : ¬ ((m : Int) = 0) := by omega
  have hz2 : ¬ ((i : Int) = (n : Int)) := by omega
  have hz3 : (n : Int) + (m : Int) ≤ (c : Int) := by omega
  have hov : ∀ lb cb, (callFunc 46 #[.slice (some ⟨vb, 0, none⟩) m vc, .slice (some ⟨b, (i + m) * 2, none⟩) lb cb]).run Try.prog w = .ok (.value (.bool false)) w := fun lb cb => overR (a := ⟨vb, 0, none⟩) (b := ⟨b, (i + m) * 2, none⟩) hv hb (by omega) hne rfl
  have kd : Bw w w.drew := (Bw.refl _).drew
  have kw : Bw w w.drew := kd
  obtain ⟨w1, hc1, hR1, hX1⟩ := copyR (hb.keep kw) (o := i + m) (V := L.drop i) (by omega) (by rw [List.length_drop]; omega) ((hb.keep kw).src i) (n + m - (i + m)) (c - (i + m)) (n + m - i) (c - i) (by rw [List.length_drop, hn]; simp only [Nat.min_def]; split <;> omega)
  have hl1 : (L.drop i).length = n - i := by rw [List.length_drop, hn]
  rw [hl1, show L.drop (i + m + (n - i)) = [] from List.drop_eq_nil_of_le (by omega), List.append_nil] at hR1
  rw [hl1] at hc1
  obtain ⟨w2, hc2, hR2, hX2⟩ := copyR hR1 (o := i) (V := V) (by simp; omega) (by omega) ((hv.keep kw).keepx hX1 hne).src0 (n + m - i) (c - i) m vc (by rw [hm]; simp only [Nat.min_def]; split <;> omega)
  rw [hm] at hc2 hR2
  have HE : Hid (RepEnds b Z w (.returned (.slice (some ⟨b, 0, none⟩) (n + m) c)) w2) := by
    have hM : ∀ X Y : List Sp.Rn, X = Y → RB w2 48 b c X → RB w2 48 b c Y := fun X Y e h => by rw [← e]; exact h
    rw [← hZ]
    refine rep_all (hM _ _ ?_ hR2) (by simp only [List.length_append, List.length_take, List.length_drop]; omega) (.inl rfl) (((Bx.of_bw kw).trans hX1).trans hX2)
    exact Sp.lay_fit hn him
  have hci : ¬ (c = i) := by omega
  have hcim : ¬ (c = i + m) := by omega
  have hw1 : IntKind.i64.wrap ((i : Int) + (m : Int)) = (i : Int) + (m : Int) := by rw [IntKind.wrap_i64]; omega
  have hb1 : (0 : Int) ≤ (i : Int) + (m : Int) := by omega
  have hin : i ≤ n := by omega
  have htn : ((i : Int) + (m : Int)).toNat = i + m := by omega
  have hb2 : (i : Int) + (m : Int) ≤ (n : Int) + (m : Int) := by omega
  have hb3 : (i : Int) ≤ (n : Int) + (m : Int) := by omega
  have hb5 : (i : Int) ≤ (n : Int) := by omega
  have hb6 : i ≤ n + m := by omega
  have hb7 : i + m ≤ n + m := by omega
  clear hR1 hR2 hX1 hX2 hb hv hl1 hZ
  go_enter Try.func45, Try.ntmps45
  go_upto_region 15 with (simp only [hov])
  refine wp_region_any (by kernel_rfl) ?_
  change wpAny _ _ _ _ _ _ _ (World.drew _)
  refine wpAny_take (i := 0) (v := ?_) rfl (by kernel_rfl) (by kernel_rfl) (by kernel_rfl) (fun _ _ _ h => h) (Or.inl ⟨by rfl, ?_⟩) ?_
  rotate_left
  · intro w; go_simp; all_goals (with_reducible rfl)
  try simp only [Act.put, List.setIfInBounds_toArray, List.set_cons_zero, List.set_cons_succ, List.getElem_toArray, List.getElem_cons_succ, List.getElem_cons_zero]
  refine wpAny_take (i := 1) (v := ?_) rfl (by kernel_rfl) (by kernel_rfl) (by kernel_rfl) (fun _ _ _ h => h) (Or.inl ⟨by rfl, ?_⟩) ?_
  rotate_left
  · intro w; go_simp; all_goals (with_reducible rfl)
  try simp only [Act.put, List.setIfInBounds_toArray, List.set_cons_zero, List.set_cons_succ, List.getElem_toArray, List.getElem_cons_succ, List.getElem_cons_zero]
  refine wpAny_take (i := 2) (v := ?_) rfl (by kernel_rfl) (by kernel_rfl) (by kernel_rfl) (fun _ _ _ h => h) (Or.inl ⟨by rfl, ?_⟩) ?_
  rotate_left
  · intro w; go_simp; all_goals (with_reducible rfl)
  try simp only [Act.put, List.setIfInBounds_toArray, List.set_cons_zero, List.set_cons_succ, List.getElem_toArray, List.getElem_cons_succ, List.getElem_cons_zero]
  refine wpAny_take (i := 3) (v := ?_) rfl (by kernel_rfl) (by kernel_rfl) (by kernel_rfl) (fun _ _ _ h => h) (Or.inl ⟨by rfl, ?_⟩) ?_
  rotate_left
  · intro w; go_simp; all_goals (with_reducible rfl)
  try simp only [Act.put, List.setIfInBounds_toArray, List.set_cons_zero, List.set_cons_succ, List.getElem_toArray, List.getElem_cons_succ, List.getElem_cons_zero]
  refine wpAny_take (i := 4) (v := ?_) rfl (by kernel_rfl) (by kernel_rfl) (by kernel_rfl) (fun _ _ _ h => h) (Or.inl ⟨by rfl, ?_⟩) ?_
  rotate_left
  · intro w; go_simp; all_goals (with_reducible rfl)
  try simp only [Act.put, List.setIfInBounds_toArray, List.set_cons_zero, List.set_cons_succ, List.getElem_toArray, List.getElem_cons_succ, List.getElem_cons_zero]
  refine wpAny_take (i := 5) (v := ?_) rfl (by kernel_rfl) (by kernel_rfl) (by kernel_rfl) (fun _ _ _ h => h) (Or.inl ⟨by rfl, ?_⟩) ?_
  rotate_left
  · intro w; go_simp; all_goals (with_reducible rfl)
  try simp only [Act.put, List.setIfInBounds_toArray, List.set_cons_zero, List.set_cons_succ, List.getElem_toArray, List.getElem_cons_succ, List.getElem_cons_zero]
  refine wpAny_take (i := 6) (v := ?_) rfl (by kernel_rfl) (by kernel_rfl) (by kernel_rfl) (fun _ _ _ h => h) (Or.inl ⟨by rfl, ?_⟩) ?_
  rotate_left
  · intro w; go_simp; all_goals (with_reducible rfl)
  try simp only [Act.put, List.setIfInBounds_toArray, List.set_cons_zero, List.set_cons_succ, List.getElem_toArray, List.getElem_cons_succ, List.getElem_cons_zero]
  refine wpAny_take (i := 7) (v := ?_) rfl (by kernel_rfl) (by kernel_rfl) (by kernel_rfl) (fun _ _ _ h => h) (Or.inl ⟨by rfl, ?_⟩) ?_
  rotate_left
  · intro w; go_simp; all_goals (with_reducible rfl)
  try simp only [Act.put, List.setIfInBounds_toArray, List.set_cons_zero, List.set_cons_succ, List.getElem_toArray, List.getElem_cons_succ, List.getElem_cons_zero]
  refine wpAny_ready (rs := [8]) (by kernel_rfl) (by simp) ?_
  refine AllReady.cons rfl (fun K hK => ?_) AllReady.nil
  go_simp
  refine hK _ _ ?_
  clear hK K
  try simp only [Act.put, List.setIfInBounds_toArray, List.set_cons_zero, List.set_cons_succ, List.getElem_toArray, List.getElem_cons_succ, List.getElem_cons_zero]
  refine wpAny_done (by kernel_rfl) ?_ _
  go_wp2
  go_ret
  exact HE.out
theorem ins_any (b c n m i vb vc : Nat) (L V : List Sp.Rn) (w : World) (hb : RB w 48 b c L) (hv : RB w 48 vb vc V) (hne : vb ≠ b) (hn : L.length = n) (hm : V.length = m) (hi : i ≤ n) (hm1 : m = 1) (hn2 : n ≤ 1000000) :
    Calls Try.prog 45 #[.slice (some ⟨b, 0, none⟩) n c, .int .i64 (i : Int), .slice (some ⟨vb, 0, none⟩) m vc] w fun e w' => RepEnds b (L.take i ++ V ++ L.drop i) w e w' := by
  have hvl := hv.le
  rcases Nat.lt_or_ge i n with h | h
  · rcases Nat.lt_or_ge c (n + m) with h2 | h2
    · exact ins_grow b c n m i 0 vb vc L V w hb hv hne hn hm h (by omega) (by omega) (by omega) h2 hn2 _ rfl
    · exact ins_shift b c n m i 0 vb vc L V w hb hv hne hn hm h (by omega) (by omega) (by omega) h2 (by omega) hn2 _ rfl
  · exact ins_end b c n m i 0 vb vc L V w hb hv hne hn hm (by omega) (by omega) (by omega) hn2 _ rfl
set_option maxRecDepth 100000 in
set_option maxHeartbeats 2000000 in
theorem rep_same (b c n m i vb vc : Nat) (L V : List Sp.Rn) (w : World) (hb : RB w 48 b c L) (hv : RB w 48 vb vc V) (hne : vb ≠ b) (hn : L.length = n) (hm : V.length = m) (hi : i ≤ n) (hm1 : m = 1) (hn2 : n ≤ 1000000) :
    Calls Try.prog 38 #[.slice (some ⟨b, 0, none⟩) n c, .int .i64 (i : Int), .int .i64 (i : Int), .slice (some ⟨vb, 0, none⟩) m vc] w fun e w' => RepEnds b (L.take i ++ V ++ L.drop i) w e w' := by
  have HI : Hid (Calls Try.prog 45 #[.slice (some ⟨b, 0, none⟩) n c, .int .i64 (i : Int), .slice (some ⟨vb, 0, none⟩) m vc] w fun e w' => ∃ v, e = .returned v ∧ RepEnds b (L.take i ++ V ++ L.drop i) w (.returned v) w') := by
    refine (ins_any b c n m i vb vc L V w hb hv hne hn hm hi hm1 hn2).mono ?_
    rintro e w' ⟨b', c', rfl, h⟩
    exact ⟨_, rfl, b', c', rfl, h⟩
  obtain ⟨Z, hZ⟩ : ∃ Z, Hid (L.take i ++ V ++ L.drop i = Z) := ⟨_, rfl⟩
  rw [hZ.out] at HI ⊢
  have hle := hb.le
  have i0 : (0 : Int) ≤ (i : Int) := Int.natCast_nonneg _
  have j1 : (i : Int) ≤ (n : Int) := by omega
  have c1 : (i : Int) ≤ (c : Int) := by omega
  clear hb hv hm1 hm hn
  go_enter Try.func38, Try.ntmps38
  go_wp2_with (go_at_call 45; refine HI.out.mono ?_; rintro e w1 ⟨v, rfl, hd⟩)
  all_goals go_ret
  all_goals exact hd
set_option maxRecDepth 100000 in
set_option maxHeartbeats 2000000 in
theorem rep_end (b c n m i j vb vc : Nat) (L V : List Sp.Rn) (w : World) (hb : RB w 48 b c L) (hv : RB w 48 vb vc V) (hne : vb ≠ b) (hn : L.length = n) (hm : V.length = m) (hij : i < j) (hj : j = n) (hm2 : m ≤ 2) (hn2 : n ≤ 1000000) (Z : List Sp.Rn) (hZ : L.take i ++ V ++ L.drop j = Z) :
    Calls Try.prog 38 #[.slice (some ⟨b, 0, none⟩) n c, .int .i64 (i : Int), .int .i64 (j : Int), .slice (some ⟨vb, 0, none⟩) m vc] w fun e w' => RepEnds b Z w e w' := by
  have hcap := hb.cap
  have hle := hb.le
  rw [hn] at hle
  have hc63 : c ≤ 9223372036854775807 := by unfold maxLen at hcap; omega
  clear hcap
  have i0 : (0 : Int) ≤ (i : Int) := Int.natCast_nonneg _
  have j0 : (0 : Int) ≤ (j : Int) := Int.natCast_nonneg _
  have j1 : (j : Int) ≤ (n : Int) := by omega
  have jn : j ≤ n := by omega
  have ij1 : (i : Int) < (j : Int) := by omega
  have c1 : (j : Int) ≤ (c : Int) := by omega
  have e1 : ((i : Int) == (j : Int)) = false := by rw [beq_eq_false_iff_ne]; omega
  have cj : ¬ c = i := by omega
  have c0 : ¬ c = 0 := by omega
  have e2 : ((j : Int) == (n : Int)) = true := by rw [beq_iff_eq]; omega
  obtain ⟨b', c', w', hrun, hR, hbb, hX, hin⟩ := appR hb (i := i) (by omega) hm hv.src0 vc (by omega)
  have hdr : L.drop j = [] := List.drop_eq_nil_of_le (by omega)
  have hl : (L.take i ++ V).length = i + m := by simp; omega
  by_cases hq : i + m < n
  · obtain ⟨rfl, rfl, hR2⟩ := hin (by omega)
    have hl3 : (L.take i ++ V ++ L.drop (i + m)).length = n := by simp only [List.length_append, List.length_take, List.length_drop]; omega
    obtain ⟨w3, hc3, hR3, hX3⟩ := clearR hR2 (o := i + m) (n := n - (i + m)) (by rw [hl3]; omega) (by omega) (by omega) (c' - (i + m))
    have HE : Hid (RepEnds b' Z w (.returned (.slice (some ⟨b', 0, none⟩) (i + m) c')) w3) := by
      rw [← hZ, hdr, List.append_nil]
      refine rep_all ?_ hl (.inl rfl) (hX.trans hX3)
      have h5 := hR3.take (i + m)
      rw [List.append_assoc, List.take_left' (by rw [List.length_take, hl3]; omega), List.take_left' hl] at h5
      exact h5
    have ct : ¬ c' = i + m := by omega
    have q1 : i + m ≤ n := by omega
    have q3 : ((i : Int) + (m : Int)).toNat = i + m := by omega
    have q4 : ((i + m : Nat) : Int) ≤ (n : Int) := by omega
    have q5 : (i : Int) + (m : Int) < (n : Int) := by omega
    have q6 : (i : Int) + (m : Int) ≤ (n : Int) := by omega
    have q7 : (0 : Int) ≤ (i : Int) + (m : Int) := by omega
    clear hR hbb hX hin hR2 hR3 hX3 hb hv hdr hl hl3 hj hq hZ
    go_enter Try.func38, Try.ntmps38
    go_wp2_with (at_builtin; refine Lib.wpList_append_run _ rfl _ _ _ _ rfl _ _ rfl rfl _ _ hrun ?_)
    go_ret
    exact HE.out
  · have HE : Hid (RepEnds b Z w (.returned (.slice (some ⟨b', 0, none⟩) (i + m) c')) w') := by
      rw [← hZ, hdr, List.append_nil]
      exact rep_all hR hl hbb hX
    have q5 : (n : Int) ≤ (i : Int) + (m : Int) := by omega
    have q6 : ¬ ((i : Int) + (m : Int) < (n : Int)) := by omega
    clear hR hbb hX hin hb hv hdr hl hj hq hZ
    go_enter Try.func38, Try.ntmps38
    go_wp2_with (at_builtin; refine Lib.wpList_append_run _ rfl _ _ _ _ rfl _ _ rfl rfl _ _ hrun ?_)
    go_ret
    exact HE.out
set_option maxRecDepth 100000 in
set_option maxHeartbeats 2000000 in
theorem rep_grow (b c n m i j vb vc : Nat) (L V : List Sp.Rn) (w : World) (hb : RB w 48 b c L) (hv : RB w 48 vb vc V) (hne : vb ≠ b) (hn : L.length = n) (hm : V.length = m) (hij : i < j) (hj : j < n) (him : i + m ≤ n) (hm2 : m ≤ 2) (hroom : c < i + m + (n - j)) (hn2 : n ≤ 1000000) (Z : List Sp.Rn) (hZ : L.take i ++ V ++ L.drop j = Z) :
    Calls Try.prog 38 #[.slice (some ⟨b, 0, none⟩) n c, .int .i64 (i : Int), .int .i64 (j : Int), .slice (some ⟨vb, 0, none⟩) m vc] w fun e w' => RepEnds b Z w e w' := by
  have hcap := hb.cap
  have hle := hb.le
  rw [hn] at hle
  have hc63 : c ≤ 9223372036854775807 := by unfold maxLen at hcap; omega
  clear hcap
  have i0 : (0 : Int) ≤ (i : Int) := Int.natCast_nonneg _
  have j0 : (0 : Int) ≤ (j : Int) := Int.natCast_nonneg _
  have j1 : (j : Int) ≤ (n : Int) := by omega
  have jn : j ≤ n := by omega
  have ij1 : (i : Int) < (j : Int) := by omega
  have c1 : (j : Int) ≤ (c : Int) := by omega
  have e1 : ((i : Int) == (j : Int)) = false := by rw [beq_eq_false_iff_ne]; omega
  have cj : ¬ c = i := by omega
  have c0 : ¬ c = 0 := by omega
  have e2 : ((j : Int) == (n : Int)) = false := by rw [beq_eq_false_iff_ne]; omega
  have hz3 : (c : Int) < (i : Int) + (m : Int) + ((n - j : Nat) : Int) := by omega
  have hkk : (i : Int) + (m : Int) + ((n - j : Nat) : Int) - (i : Int) = ((i + m + (n - j) - i : Nat) : Int) := by omega
  have hik : i + (i + m + (n - j) - i) = i + m + (n - j) := by omega
  go_enter Try.func38, Try.ntmps38
  go_upto_region 9 with fail
  go_quiet (fail)
  obtain ⟨W, hW⟩ : ∃ W, W = w.drewN nq := ⟨_, rfl⟩
  rw [← hW]
  have kW : Bw w W := by rw [hW]; exact Bw.drewN _ _
  replace hb := hb.keep kW
  replace hv := hv.keep kW
  have HM : Hid (∀ M e w', RepEnds b M W e w' → RepEnds b M w e w') := fun M e w' ⟨b', c', h1, h2, h3, h4⟩ => ⟨b', c', h1, h2, h3.imp id (fun h => Nat.le_trans kW.size h), (Bx.of_bw kW).trans h4⟩
  clear hW kW
  obtain ⟨G, w1, hrun, hR1, hB1⟩ := growR hb (i := i) (k := i + m + (n - j) - i) (by omega) (by omega) (by omega) (by omega)
  rw [hik, ← hkk] at hrun
  clear hkk hik
  have hG : G ≤ 9223372036854775807 := by have := hR1.cap; unfold maxLen at this; omega
  have hGn : i + m + (n - j) ≤ G := by have := hR1.le; simp only [List.length_append, List.length_take, List.length_replicate] at this; omega
  obtain ⟨w2, hc1, hR2, hX2⟩ := copyR hR1 (o := i) (V := V) (by simp; omega) (by rw [hm]; omega) (hv.keep hB1).src0 (i + m + (n - j) - i) (G - i) m vc (by rw [hm]; simp only [Nat.min_def]; split <;> omega)
  rw [hm] at hc1 hR2
  have kd : Bw w2 w2.drew := (Bw.refl _).drew
  have hNb : ¬ b = W.heap.size := by have := hb.lt; omega
  have hbX : Bx (· = W.heap.size) W w2 := (Bx.of_bw hB1).trans hX2
  have hS2 : RsAt w2.drew (some ⟨b, j * 2, none⟩) (L.drop j) := ((hb.keepx hbX hNb).keep kd).src j
  obtain ⟨w3, hc2, hR3, hX3⟩ := copyR (hR2.keep kd) (o := i + m) (V := L.drop j) (by simp; omega) (by rw [List.length_drop]; omega) hS2 (n - j) (G - (i + m)) (n - j) (c - j) (by rw [List.length_drop, hn]; simp only [Nat.min_def]; split <;> omega)
  have hl2 : (L.drop j).length = n - j := by rw [List.length_drop, hn]
  rw [hl2] at hc2 hR3
  have hX : Bx (· = b) W w3 := by
    have h1 : Bx (· = W.heap.size) W w3 := hbX.trans ((Bx.of_bw kd).trans hX3)
    exact Bx.of_bw (h1.below (Nat.le_refl _) (fun x hx => by omega))
  have hHE : RepEnds b Z W (.returned (.slice (some ⟨W.heap.size, 0, none⟩) (i + m + (n - j)) G)) w3 := by
    have hM : ∀ X Y : List Sp.Rn, X = Y → RB w3 48 W.heap.size G X → RB w3 48 W.heap.size G Y := fun X Y e h => by rw [← e]; exact h
    rw [← hZ]
    refine rep_all (hM _ _ ?_ hR3) (by simp only [List.length_append, List.length_take, List.length_drop]; omega) (.inr (Nat.le_refl _)) hX
    exact Sp.lay_grow hn hm (by omega) (by omega)
  have HE : Hid (RepEnds b Z W (.returned (.slice (some ⟨W.heap.size, 0, none⟩) (i + m + (n - j)) G)) w3) := hHE
  have hGi : ¬ (G = i) := by omega
  have hGim : ¬ (G = i + m) := by omega
  have hci : ¬ (c = i) := by omega
  have hw1 : IntKind.i64.wrap ((i : Int) + (m : Int)) = (i : Int) + (m : Int) := by rw [IntKind.wrap_i64]; omega
  have hb1 : (0 : Int) ≤ (i : Int) + (m : Int) := by omega
  have hin : i ≤ n := by omega
  have htn : ((i : Int) + (m : Int)).toNat = i + m := by omega
  have hb3 : (i : Int) ≤ (i : Int) + (m : Int) + ((n - j : Nat) : Int) := by omega
  have hb4 : (i : Int) + (m : Int) ≤ (i : Int) + (m : Int) + ((n - j : Nat) : Int) := by omega
  have hb6 : i ≤ i + m + (n - j) := by omega
  have cj2 : ¬ c = j := by omega
  clear hHE hX hX3 hR3 hS2 hbX hX2 hR2 hR1 hb hv hl2 hZ
  go_upto_region 13 with (at_builtin; refine Lib.wpList_append_run _ rfl _ _ _ _ rfl _ _ rfl rfl _ _ hrun ?_)
  refine wp_region_any (by kernel_rfl) ?_
  change wpAny _ _ _ _ _ _ _ (World.drew _)
  refine wpAny_take (i := 0) (v := ?_) rfl (by kernel_rfl) (by kernel_rfl) (by kernel_rfl) (fun _ _ _ h => h) (Or.inl ⟨by rfl, ?_⟩) ?_
  rotate_left
  · intro w; go_simp; all_goals (with_reducible rfl)
  try simp only [Act.put, List.setIfInBounds_toArray, List.set_cons_zero, List.set_cons_succ, List.getElem_toArray, List.getElem_cons_succ, List.getElem_cons_zero]
  refine wpAny_take (i := 1) (v := ?_) rfl (by kernel_rfl) (by kernel_rfl) (by kernel_rfl) (fun _ _ _ h => h) (Or.inl ⟨by rfl, ?_⟩) ?_
  rotate_left
  · intro w; go_simp; all_goals (with_reducible rfl)
  try simp only [Act.put, List.setIfInBounds_toArray, List.set_cons_zero, List.set_cons_succ, List.getElem_toArray, List.getElem_cons_succ, List.getElem_cons_zero]
  refine wpAny_take (i := 2) (v := ?_) rfl (by kernel_rfl) (by kernel_rfl) (by kernel_rfl) (fun _ _ _ h => h) (Or.inl ⟨by rfl, ?_⟩) ?_
  rotate_left
  · intro w; go_simp; all_goals (with_reducible rfl)
  try simp only [Act.put, List.setIfInBounds_toArray, List.set_cons_zero, List.set_cons_succ, List.getElem_toArray, List.getElem_cons_succ, List.getElem_cons_zero]
  refine wpAny_take (i := 3) (v := ?_) rfl (by kernel_rfl) (by kernel_rfl) (by kernel_rfl) (fun _ _ _ h => h) (Or.inl ⟨by rfl, ?_⟩) ?_
  rotate_left
  · intro w; go_simp; all_goals (with_reducible rfl)
  try simp only [Act.put, List.setIfInBounds_toArray, List.set_cons_zero, List.set_cons_succ, List.getElem_toArray, List.getElem_cons_succ, List.getElem_cons_zero]
  refine wpAny_take (i := 4) (v := ?_) rfl (by kernel_rfl) (by kernel_rfl) (by kernel_rfl) (fun _ _ _ h => h) (Or.inl ⟨by rfl, ?_⟩) ?_
  rotate_left
  · intro w; go_simp; all_goals (with_reducible rfl)
  try simp only [Act.put, List.setIfInBounds_toArray, List.set_cons_zero, List.set_cons_succ, List.getElem_toArray, List.getElem_cons_succ, List.getElem_cons_zero]
  refine wpAny_take (i := 5) (v := ?_) rfl (by kernel_rfl) (by kernel_rfl) (by kernel_rfl) (fun _ _ _ h => h) (Or.inl ⟨by rfl, ?_⟩) ?_
  rotate_left
  · intro w; go_simp; all_goals (with_reducible rfl)
  try simp only [Act.put, List.setIfInBounds_toArray, List.set_cons_zero, List.set_cons_succ, List.getElem_toArray, List.getElem_cons_succ, List.getElem_cons_zero]
  refine wpAny_take (i := 6) (v := ?_) rfl (by kernel_rfl) (by kernel_rfl) (by kernel_rfl) (fun _ _ _ h => h) (Or.inl ⟨by rfl, ?_⟩) ?_
  rotate_left
  · intro w; go_simp; all_goals (with_reducible rfl)
  try simp only [Act.put, List.setIfInBounds_toArray, List.set_cons_zero, List.set_cons_succ, List.getElem_toArray, List.getElem_cons_succ, List.getElem_cons_zero]
  refine wpAny_take (i := 7) (v := ?_) rfl (by kernel_rfl) (by kernel_rfl) (by kernel_rfl) (fun _ _ _ h => h) (Or.inl ⟨by rfl, ?_⟩) ?_
  rotate_left
  · intro w; go_simp; all_goals (with_reducible rfl)
  try simp only [Act.put, List.setIfInBounds_toArray, List.set_cons_zero, List.set_cons_succ, List.getElem_toArray, List.getElem_cons_succ, List.getElem_cons_zero]
  refine wpAny_take (i := 8) (v := ?_) rfl (by kernel_rfl) (by kernel_rfl) (by kernel_rfl) (fun _ _ _ h => h) (Or.inl ⟨by rfl, ?_⟩) ?_
  rotate_left
  · intro w; go_simp; all_goals (with_reducible rfl)
  try simp only [Act.put, List.setIfInBounds_toArray, List.set_cons_zero, List.set_cons_succ, List.getElem_toArray, List.getElem_cons_succ, List.getElem_cons_zero]
  refine wpAny_ready (rs := [9]) (by kernel_rfl) (by simp) ?_
  refine AllReady.cons rfl (fun K hK => ?_) AllReady.nil
  go_simp
  refine hK _ _ ?_
  clear hK K
  try simp only [Act.put, List.setIfInBounds_toArray, List.set_cons_zero, List.set_cons_succ, List.getElem_toArray, List.getElem_cons_succ, List.getElem_cons_zero]
  refine wpAny_done (by kernel_rfl) ?_ _
  go_wp2
  go_ret
  exact HM.out _ _ _ HE.out
set_option maxRecDepth 100000 in
set_option maxHeartbeats 2000000 in
theorem rep_fit (b c n m i j vb vc : Nat) (L V : List Sp.Rn) (w : World) (hb : RB w 48 b c L) (hv : RB w 48 vb vc V) (hne : vb ≠ b) (hn : L.length = n) (hm : V.length = m) (hij : i < j) (hj : j < n) (him : i + m ≤ n) (hm2 : m ≤ 2) (hvc : 0 < vc) (hex : j < i + m) (hroom : i + m + (n - j) ≤ c) (hn2 : n ≤ 1000000) (Z : List Sp.Rn) (hZ : L.take i ++ V ++ L.drop j = Z) :
    Calls Try.prog 38 #[.slice (some ⟨b, 0, none⟩) n c, .int .i64 (i : Int), .int .i64 (j : Int), .slice (some ⟨vb, 0, none⟩) m vc] w fun e w' => RepEnds b Z w e w' := by
  have hcap := hb.cap
  have hle := hb.le
  rw [hn] at hle
  have hc63 : c ≤ 9223372036854775807 := by unfold maxLen at hcap; omega
  clear hcap
  have i0 : (0 : Int) ≤ (i : Int) := Int.natCast_nonneg _
  have j0 : (0 : Int) ≤ (j : Int) := Int.natCast_nonneg _
  have j1 : (j : Int) ≤ (n : Int) := by omega
  have jn : j ≤ n := by omega
  have ij1 : (i : Int) < (j : Int) := by omega
  have c1 : (j : Int) ≤ (c : Int) := by omega
  have e1 : ((i : Int) == (j : Int)) = false := by rw [beq_eq_false_iff_ne]; omega
  have cj : ¬ c = i := by omega
  have c0 : ¬ c = 0 := by omega
  have e2 : ((j : Int) == (n : Int)) = false := by rw [beq_eq_false_iff_ne]; omega
  have hz3 : (i : Int) + (m : Int) + ((n - j : Nat) : Int) ≤ (c : Int) := by omega
  have hz4 : (j : Int) < (i : Int) + (m : Int) := by omega
  go_enter Try.func38, Try.ntmps38
  go_upto_region 9 with fail
  go_quiet (fail)
  obtain ⟨W, hW⟩ : ∃ W, W = w.drewN nq := ⟨_, rfl⟩
  rw [← hW]
  have kW : Bw w W := by rw [hW]; exact Bw.drewN _ _
  clear hW
  have hov : ∀ lb cb, (callFunc 46 #[.slice (some ⟨b, (i + m) * 2, none⟩) lb cb, .slice (some ⟨vb, 0, none⟩) m vc]).run Try.prog W = .ok (.value (.bool false)) W := fun lb cb => overR (a := ⟨b, (i + m) * 2, none⟩) (b := ⟨vb, 0, none⟩) (hb.keep kW) (hv.keep kW) hvc (Ne.symm hne) rfl
  have kd : Bw W W.drew := (Bw.refl _).drew
  have kw : Bw w W.drew := kW.trans kd
  obtain ⟨w1, hc1, hR1, hX1⟩ := copyR (hb.keep kw) (o := i + m) (V := L.drop j) (by omega) (by rw [List.length_drop]; omega) ((hb.keep kw).src j) (n - j) (c - (i + m)) (n - j) (c - j) (by rw [List.length_drop, hn]; simp only [Nat.min_def]; split <;> omega)
  have hl1 : (L.drop j).length = n - j := by rw [List.length_drop, hn]
  rw [hl1, show L.drop (i + m + (n - j)) = [] from List.drop_eq_nil_of_le (by omega), List.append_nil] at hR1
  rw [hl1] at hc1
  obtain ⟨w2, hc2, hR2, hX2⟩ := copyR hR1 (o := i) (V := V) (by simp; omega) (by omega) ((hv.keep kw).keepx hX1 hne).src0 (i + m + (n - j) - i) (c - i) m vc (by rw [hm]; simp only [Nat.min_def]; split <;> omega)
  rw [hm] at hc2 hR2
  have HE : Hid (RepEnds b Z w (.returned (.slice (some ⟨b, 0, none⟩) (i + m + (n - j)) c)) w2) := by
    have hM : ∀ X Y : List Sp.Rn, X = Y → RB w2 48 b c X → RB w2 48 b c Y := fun X Y e h => by rw [← e]; exact h
    rw [← hZ]
    refine rep_all (hM _ _ ?_ hR2) (by simp only [List.length_append, List.length_take, List.length_drop]; omega) (.inl rfl) (((Bx.of_bw kw).trans hX1).trans hX2)
    exact Sp.lay_fit hn him
  have hci : ¬ (c = i) := by omega
  have hcim : ¬ (c = i + m) := by omega
  have hw1 : IntKind.i64.wrap ((i : Int) + (m : Int)) = (i : Int) + (m : Int) := by rw [IntKind.wrap_i64]; omega
  have hb1 : (0 : Int) ≤ (i : Int) + (m : Int) := by omega
  have hin : i ≤ n := by omega
  have htn : ((i : Int) + (m : Int)).toNat = i + m := by omega
  have hb2 : (i : Int) + (m : Int) ≤ (i : Int) + (m : Int) + ((n - j : Nat) : Int) := by omega
  have hb3 : (i : Int) ≤ (i : Int) + (m : Int) + ((n - j : Nat) : Int) := by omega
  have hb6 : i ≤ i + m + (n - j) := by omega
  have cj2 : ¬ c = j := by omega
  clear hR1 hR2 hX1 hX2 hb hv hl1 hZ
  go_upto_region 22 with (simp only [hov])
  refine wp_region_any (by kernel_rfl) ?_
  change wpAny _ _ _ _ _ _ _ (World.drew _)
  refine wpAny_take (i := 0) (v := ?_) rfl (by kernel_rfl) (by kernel_rfl) (by kernel_rfl) (fun _ _ _ h => h) (Or.inl ⟨by rfl, ?_⟩) ?_
  rotate_left
  · intro w; go_simp; all_goals (with_reducible rfl)
  try simp only [Act.put, List.setIfInBounds_toArray, List.set_cons_zero, List.set_cons_succ, List.getElem_toArray, List.getElem_cons_succ, List.getElem_cons_zero]
  refine wpAny_take (i := 1) (v := ?_) rfl (by kernel_rfl) (by kernel_rfl) (by kernel_rfl) (fun _ _ _ h => h) (Or.inl ⟨by rfl, ?_⟩) ?_
  rotate_left
  · intro w; go_simp; all_goals (with_reducible rfl)
  try simp only [Act.put, List.setIfInBounds_toArray, List.set_cons_zero, List.set_cons_succ, List.getElem_toArray, List.getElem_cons_succ, List.getElem_cons_zero]
  refine wpAny_take (i := 2) (v := ?_) rfl (by kernel_rfl) (by kernel_rfl) (by kernel_rfl) (fun _ _ _ h => h) (Or.inl ⟨by rfl, ?_⟩) ?_
  rotate_left
  · intro w; go_simp; all_goals (with_reducible rfl)
  try simp only [Act.put, List.setIfInBounds_toArray, List.set_cons_zero, List.set_cons_succ, List.getElem_toArray, List.getElem_cons_succ, List.getElem_cons_zero]
  refine wpAny_take (i := 3) (v := ?_) rfl (by kernel_rfl) (by kernel_rfl) (by kernel_rfl) (fun _ _ _ h => h) (Or.inl ⟨by rfl, ?_⟩) ?_
  rotate_left
  · intro w; go_simp; all_goals (with_reducible rfl)
  try simp only [Act.put, List.setIfInBounds_toArray, List.set_cons_zero, List.set_cons_succ, List.getElem_toArray, List.getElem_cons_succ, List.getElem_cons_zero]
  refine wpAny_take (i := 4) (v := ?_) rfl (by kernel_rfl) (by kernel_rfl) (by kernel_rfl) (fun _ _ _ h => h) (Or.inl ⟨by rfl, ?_⟩) ?_
  rotate_left
  · intro w; go_simp; all_goals (with_reducible rfl)
  try simp only [Act.put, List.setIfInBounds_toArray, List.set_cons_zero, List.set_cons_succ, List.getElem_toArray, List.getElem_cons_succ, List.getElem_cons_zero]
  refine wpAny_take (i := 5) (v := ?_) rfl (by kernel_rfl) (by kernel_rfl) (by kernel_rfl) (fun _ _ _ h => h) (Or.inl ⟨by rfl, ?_⟩) ?_
  rotate_left
  · intro w; go_simp; all_goals (with_reducible rfl)
  try simp only [Act.put, List.setIfInBounds_toArray, List.set_cons_zero, List.set_cons_succ, List.getElem_toArray, List.getElem_cons_succ, List.getElem_cons_zero]
  refine wpAny_take (i := 6) (v := ?_) rfl (by kernel_rfl) (by kernel_rfl) (by kernel_rfl) (fun _ _ _ h => h) (Or.inl ⟨by rfl, ?_⟩) ?_
  rotate_left
  · intro w; go_simp; all_goals (with_reducible rfl)
  try simp only [Act.put, List.setIfInBounds_toArray, List.set_cons_zero, List.set_cons_succ, List.getElem_toArray, List.getElem_cons_succ, List.getElem_cons_zero]
  refine wpAny_take (i := 7) (v := ?_) rfl (by kernel_rfl) (by kernel_rfl) (by kernel_rfl) (fun _ _ _ h => h) (Or.inl ⟨by rfl, ?_⟩) ?_
  rotate_left
  · intro w; go_simp; all_goals (with_reducible rfl)
  try simp only [Act.put, List.setIfInBounds_toArray, List.set_cons_zero, List.set_cons_succ, List.getElem_toArray, List.getElem_cons_succ, List.getElem_cons_zero]
  refine wpAny_take (i := 8) (v := ?_) rfl (by kernel_rfl) (by kernel_rfl) (by kernel_rfl) (fun _ _ _ h => h) (Or.inl ⟨by rfl, ?_⟩) ?_
  rotate_left
  · intro w; go_simp; all_goals (with_reducible rfl)
  try simp only [Act.put, List.setIfInBounds_toArray, List.set_cons_zero, List.set_cons_succ, List.getElem_toArray, List.getElem_cons_succ, List.getElem_cons_zero]
  refine wpAny_ready (rs := [9]) (by kernel_rfl) (by simp) ?_
  refine AllReady.cons rfl (fun K hK => ?_) AllReady.nil
  go_simp
  refine hK _ _ ?_
  clear hK K
  try simp only [Act.put, List.setIfInBounds_toArray, List.set_cons_zero, List.set_cons_succ, List.getElem_toArray, List.getElem_cons_succ, List.getElem_cons_zero]
  refine wpAny_done (by kernel_rfl) ?_ _
  go_wp2
  go_ret
  exact HE.out
/-- slices.Replace of at most one run by one, or of one by at most two -/
theorem rep_any (b c n m i j vb vc : Nat) (L V : List Sp.Rn) (w : World) (hb : RB w 48 b c L) (hv : RB w 48 vb vc V) (hne : vb ≠ b) (hn : L.length = n) (hm : V.length = m) (hij : i ≤ j) (hj : j ≤ n) (hcase : m = 1 ∨ (j = i + 1 ∧ m ≤ 2 ∧ 0 < vc)) (hn2 : n ≤ 1000000) :
    Calls Try.prog 38 #[.slice (some ⟨b, 0, none⟩) n c, .int .i64 (i : Int), .int .i64 (j : Int), .slice (some ⟨vb, 0, none⟩) m vc] w fun e w' => RepEnds b (L.take i ++ V ++ L.drop j) w e w' := by
  have hvl := hv.le
  have hm2 : m ≤ 2 := by rcases hcase with h | h <;> omega
  have hvc : 0 < vc := by rcases hcase with h | h <;> omega
  rcases Nat.lt_or_ge i j with h | h
  · have him : j < n → i + m ≤ n := fun h2 => by rcases hcase with h3 | h3 <;> omega
    rcases Nat.lt_or_ge j n with h2 | h2
    · rcases Nat.lt_or_ge c (i + m + (n - j)) with h3 | h3
      · exact rep_grow b c n m i j vb vc L V w hb hv hne hn hm h h2 (him h2) hm2 h3 hn2 _ rfl
      · rcases Nat.lt_or_ge j (i + m) with h4 | h4
        · exact rep_fit b c n m i j vb vc L V w hb hv hne hn hm h h2 (him h2) hm2 hvc h4 h3 hn2 _ rfl
        · exact rep_shrink b c n m i j vb vc L V w hb hv hne hn hm h h2 h4 hn2
    · exact rep_end b c n m i j vb vc L V w hb hv hne hn hm h (by omega) hm2 hn2 _ rfl
  · obtain rfl : i = j := by omega
    exact rep_same b c n m i vb vc L V w hb hv hne hn hm hj (by rcases hcase with h3 | h3 <;> omega) hn2
end Go.Proofs.Ytfdfkhmaeeonpaa
