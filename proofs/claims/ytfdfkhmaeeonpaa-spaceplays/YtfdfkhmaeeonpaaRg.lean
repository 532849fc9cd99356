/- Layer 16: beside; the runs that have cells. -/
import Derived.Test.YtfdfkhmaeeonpaaRf
namespace Go.Proofs.Ytfdfkhmaeeonpaa
open Go.RowKit Go.Deep
set_option linter.unusedVariables false
set_option linter.unusedSimpArgs false

/-- the free runs that a run meets, or that stand right beside it -/
structure Sp.Beside (s : Sp.Rn) (L : List Sp.Rn) (f t : Nat) : Prop where
  ft : f ≤ t
  le : t ≤ L.length
  a : ∀ j r, L[j]? = some r → j < f → r.1 + r.2 < s.1
  m1 : ∀ j r, L[j]? = some r → f ≤ j → s.1 ≤ r.1 + r.2
  m2 : ∀ j r, L[j]? = some r → j < t → r.1 ≤ s.1 + s.2
  b : ∀ j r, L[j]? = some r → t ≤ j → s.1 + s.2 < r.1
def BesideEnds (s : Sp.Rn) (L : List Sp.Rn) (w : World) (e : Ending) (w' : World) : Prop := ∃ f t : Nat, e = .returned (.tuple #[.int .i64 (f : Int), .int .i64 (t : Int)]) ∧ Sp.Beside s L f t ∧ Bw w w'
theorem Sp.beside_of {s : Sp.Rn} {L : List Sp.Rn} {f t : Nat} (h1 : Sp.Low L.length (fun i => match L[i]? with | some r => decide (s.1 ≤ r.1 + r.2) | none => true) f) (h2 : Sp.Low L.length (fun i => match L[i]? with | some r => decide (s.1 + s.2 < r.1) | none => true) t) : Sp.Beside s L f t := by
  have a : ∀ j r, L[j]? = some r → j < f → r.1 + r.2 < s.1 := fun j r hr hj => by
    have := h1.low j hj; rw [hr] at this; simp at this; omega
  have m1 : ∀ j r, L[j]? = some r → f ≤ j → s.1 ≤ r.1 + r.2 := fun j r hr hj => by
    have := h1.high j hj (List.getElem?_eq_some_iff.1 hr).1; rw [hr] at this; simpa using this
  have m2 : ∀ j r, L[j]? = some r → j < t → r.1 ≤ s.1 + s.2 := fun j r hr hj => by
    have := h2.low j hj; rw [hr] at this; simp at this; omega
  have b : ∀ j r, L[j]? = some r → t ≤ j → s.1 + s.2 < r.1 := fun j r hr hj => by
    have := h2.high j hj (List.getElem?_eq_some_iff.1 hr).1; rw [hr] at this; simpa using this
  refine ⟨Nat.le_of_not_lt fun hlt => ?_, h2.le, a, m1, m2, b⟩
  have hl := h1.le
  have e : L[t]? = some (L[t]'(by omega)) := List.getElem?_eq_getElem (by omega)
  have := a t _ e hlt
  have := b t _ e (Nat.le_refl _)
  omega
structure BesS (W : World) (p g : Nat) (s : Sp.Rn) (v : Value) : Prop where
  a : W.cell? ⟨p, 0, none⟩ = some (.int .i64 (s.1 : Int))
  z : W.cell? ⟨p, 1, none⟩ = some (.int .i64 (s.2 : Int))
  l : W.cell? ⟨g, 1, none⟩ = some v
theorem BesS.keep {W W' : World} {p g : Nat} {s : Sp.Rn} {v : Value} (h : BesS W p g s v) (k : Bw W W') : BesS W' p g s v := ⟨keep_cell16 h.a k, keep_cell16 h.z k, keep_cell16 h.l k⟩
set_option maxRecDepth 100000 in
set_option maxHeartbeats 2000000 in
theorem beside_any {w : World} {g n b c : Nat} {L : List Sp.Rn} (hs : SpAt w g n b c L) (s : Sp.Rn) (hr : s.1 + s.2 ≤ 1099511627776) :
    Calls Try.prog 29 #[.pointer (some ⟨g, 0, none⟩), rv s] w fun e w' => BesideEnds s L w e w' := by
  have hfew := hs.few
  have H1 : Hid (∀ u, Bw w u → Calls Try.prog 39 #[.slice (some ⟨b, 0, none⟩) L.length c, .func (.func 40) #[rv s] #[]] u fun e w' => LowEnds L.length (fun i => match L[i]? with | some r => decide (s.1 ≤ r.1 + r.2) | none => true) u e w') := fun u k => search_reached s _ b c L (by omega) hs.sm hs.norm.apart u (hs.row.keep k)
  have H2 : Hid (∀ u, Bw w u → Calls Try.prog 39 #[.slice (some ⟨b, 0, none⟩) L.length c, .func (.func 41) #[rv s] #[]] u fun e w' => LowEnds L.length (fun i => match L[i]? with | some r => decide (s.1 + s.2 < r.1) | none => true) u e w') := fun u k => search_ahead s _ b c L (by omega) hr hs.sm hs.norm.apart u (hs.row.keep k)
  have HB : Hid (∀ f t, Sp.Low L.length (fun i => match L[i]? with | some r => decide (s.1 ≤ r.1 + r.2) | none => true) f → Sp.Low L.length (fun i => match L[i]? with | some r => decide (s.1 + s.2 < r.1) | none => true) t → Sp.Beside s L f t) := fun f t h1 h2 => Sp.beside_of h1 h2
  obtain ⟨Z1, hZ1⟩ : ∃ Z : Nat → Bool, Hid ((fun i => match L[i]? with | some r => decide (s.1 ≤ r.1 + r.2) | none => true) = Z) := ⟨_, show _ = _ from rfl⟩
  obtain ⟨Z2, hZ2⟩ : ∃ Z : Nat → Bool, Hid ((fun i => match L[i]? with | some r => decide (s.1 + s.2 < r.1) | none => true) = Z) := ⟨_, show _ = _ from rfl⟩
  rw [hZ1.out] at H1 HB
  rw [hZ2.out] at H2 HB
  obtain ⟨W, hW⟩ : ∃ W, W = w.alloc (.cells #[.int .i64 (s.1 : Int), .int .i64 (s.2 : Int)] 48) := ⟨_, rfl⟩
  have kW : Bw w W := by rw [hW]; exact bw_alloc16 (Bw.refl _) _
  have hB : BesS W w.heap.size g s (.slice (some ⟨b, 0, none⟩) L.length c) := by
    obtain ⟨z0, z1⟩ : W.cell? ⟨w.heap.size, 0, none⟩ = some (.int .i64 (s.1 : Int)) ∧ W.cell? ⟨w.heap.size, 1, none⟩ = some (.int .i64 (s.2 : Int)) := by rw [hW]; exact cells2_new w _ _ _
    exact ⟨z0, z1, (hs.keep kW).c1⟩
  obtain ⟨m, hm⟩ : ∃ m, Hid (L.length = m) := ⟨_, rfl⟩
  rw [hm.out] at H1 H2 HB hB
  have k1 : Bw W W.drew := (Bw.refl _).drew
  clear hs
  go_enter Try.func29, Try.ntmps29
  go_upto_region 1 with fail
  rw [← hW]
  clear hW
  refine wp_region_held_drew (S := fun v => BesS v w.heap.size g s (.slice (some ⟨b, 0, none⟩) m c)) (by kernel_rfl) (hB.keep k1) (fun hHeld => ?_)
  refine wpAnyH_take (i := 0) (v := ?_) rfl (by kernel_rfl) (by kernel_rfl) (by kernel_rfl) (fun _ _ _ h => h) (Or.inl ⟨by rfl, ?_⟩) (by assumption) ?_
  rotate_left
  · intro w hSw; (try dsimp only at hSw); obtain ⟨x0, x1, x2⟩ := hSw; go_simp; all_goals (with_reducible rfl)
  try simp only [Act.put, List.setIfInBounds_toArray, List.set_cons_zero, List.set_cons_succ, List.getElem_toArray, List.getElem_cons_succ, List.getElem_cons_zero]
  refine wpAnyH_take (i := 1) (v := ?_) rfl (by kernel_rfl) (by kernel_rfl) (by kernel_rfl) (fun _ _ _ h => h) (Or.inl ⟨by rfl, ?_⟩) (by assumption) ?_
  rotate_left
  · intro w hSw; (try dsimp only at hSw); obtain ⟨x0, x1, x2⟩ := hSw; go_simp; all_goals (with_reducible rfl)
  try simp only [Act.put, List.setIfInBounds_toArray, List.set_cons_zero, List.set_cons_succ, List.getElem_toArray, List.getElem_cons_succ, List.getElem_cons_zero]
  refine wpAnyH_take (i := 2) (v := ?_) rfl (by kernel_rfl) (by kernel_rfl) (by kernel_rfl) (fun _ _ _ h => h) (Or.inl ⟨by rfl, ?_⟩) (by assumption) ?_
  rotate_left
  · intro w hSw; (try dsimp only at hSw); obtain ⟨x0, x1, x2⟩ := hSw; go_simp; all_goals (with_reducible rfl)
  try simp only [Act.put, List.setIfInBounds_toArray, List.set_cons_zero, List.set_cons_succ, List.getElem_toArray, List.getElem_cons_succ, List.getElem_cons_zero]
  refine wpAnyH_take (i := 3) (v := ?_) rfl (by kernel_rfl) (by kernel_rfl) (by kernel_rfl) (fun _ _ _ h => h) (Or.inl ⟨by rfl, ?_⟩) (by assumption) ?_
  rotate_left
  · intro w hSw; (try dsimp only at hSw); obtain ⟨x0, x1, x2⟩ := hSw; go_simp; all_goals (with_reducible rfl)
  try simp only [Act.put, List.setIfInBounds_toArray, List.set_cons_zero, List.set_cons_succ, List.getElem_toArray, List.getElem_cons_succ, List.getElem_cons_zero]
  refine wpAnyH_take (i := 4) (v := ?_) rfl (by kernel_rfl) (by kernel_rfl) (by kernel_rfl) (fun _ _ _ h => h) (Or.inl ⟨by rfl, ?_⟩) (by assumption) ?_
  rotate_left
  · intro w hSw; (try dsimp only at hSw); obtain ⟨x0, x1, x2⟩ := hSw; go_simp; all_goals (with_reducible rfl)
  try simp only [Act.put, List.setIfInBounds_toArray, List.set_cons_zero, List.set_cons_succ, List.getElem_toArray, List.getElem_cons_succ, List.getElem_cons_zero]
  refine wpAnyH_take (i := 5) (v := ?_) rfl (by kernel_rfl) (by kernel_rfl) (by kernel_rfl) (fun _ _ _ h => h) (Or.inl ⟨by rfl, ?_⟩) (by assumption) ?_
  rotate_left
  · intro w hSw; (try dsimp only at hSw); obtain ⟨x0, x1, x2⟩ := hSw; go_simp; all_goals (with_reducible rfl)
  try simp only [Act.put, List.setIfInBounds_toArray, List.set_cons_zero, List.set_cons_succ, List.getElem_toArray, List.getElem_cons_succ, List.getElem_cons_zero]
  refine wpAnyH_take (i := 7) (v := ?_) rfl (by kernel_rfl) (by kernel_rfl) (by kernel_rfl) (fun _ _ _ h => h) (Or.inl ⟨by rfl, ?_⟩) (by assumption) ?_
  rotate_left
  · intro w hSw; (try dsimp only at hSw); obtain ⟨x0, x1, x2⟩ := hSw; go_simp; all_goals (with_reducible rfl)
  try simp only [Act.put, List.setIfInBounds_toArray, List.set_cons_zero, List.set_cons_succ, List.getElem_toArray, List.getElem_cons_succ, List.getElem_cons_zero]
  refine wpAnyH_take (i := 8) (v := ?_) rfl (by kernel_rfl) (by kernel_rfl) (by kernel_rfl) (fun _ _ _ h => h) (Or.inl ⟨by rfl, ?_⟩) (by assumption) ?_
  rotate_left
  · intro w hSw; (try dsimp only at hSw); obtain ⟨x0, x1, x2⟩ := hSw; go_simp; all_goals (with_reducible rfl)
  try simp only [Act.put, List.setIfInBounds_toArray, List.set_cons_zero, List.set_cons_succ, List.getElem_toArray, List.getElem_cons_succ, List.getElem_cons_zero]
  refine wpAnyH_take (i := 9) (v := ?_) rfl (by kernel_rfl) (by kernel_rfl) (by kernel_rfl) (fun _ _ _ h => h) (Or.inl ⟨by rfl, ?_⟩) (by assumption) ?_
  rotate_left
  · intro w hSw; (try dsimp only at hSw); obtain ⟨x0, x1, x2⟩ := hSw; go_simp; all_goals (with_reducible rfl)
  try simp only [Act.put, List.setIfInBounds_toArray, List.set_cons_zero, List.set_cons_succ, List.getElem_toArray, List.getElem_cons_succ, List.getElem_cons_zero]
  refine wpAnyH_take (i := 10) (v := ?_) rfl (by kernel_rfl) (by kernel_rfl) (by kernel_rfl) (fun _ _ _ h => h) (Or.inl ⟨by rfl, ?_⟩) (by assumption) ?_
  rotate_left
  · intro w hSw; (try dsimp only at hSw); obtain ⟨x0, x1, x2⟩ := hSw; go_simp; all_goals (with_reducible rfl)
  try simp only [Act.put, List.setIfInBounds_toArray, List.set_cons_zero, List.set_cons_succ, List.getElem_toArray, List.getElem_cons_succ, List.getElem_cons_zero]
  refine wpAnyH_take (i := 11) (v := ?_) rfl (by kernel_rfl) (by kernel_rfl) (by kernel_rfl) (fun _ _ _ h => h) (Or.inl ⟨by rfl, ?_⟩) (by assumption) ?_
  rotate_left
  · intro w hSw; (try dsimp only at hSw); obtain ⟨x0, x1, x2⟩ := hSw; go_simp; all_goals (with_reducible rfl)
  try simp only [Act.put, List.setIfInBounds_toArray, List.set_cons_zero, List.set_cons_succ, List.getElem_toArray, List.getElem_cons_succ, List.getElem_cons_zero]
  refine wpAnyH_take (i := 12) (v := ?_) rfl (by kernel_rfl) (by kernel_rfl) (by kernel_rfl) (fun _ _ _ h => h) (Or.inl ⟨by rfl, ?_⟩) (by assumption) ?_
  rotate_left
  · intro w hSw; (try dsimp only at hSw); obtain ⟨x0, x1, x2⟩ := hSw; go_simp; all_goals (with_reducible rfl)
  try simp only [Act.put, List.setIfInBounds_toArray, List.set_cons_zero, List.set_cons_succ, List.getElem_toArray, List.getElem_cons_succ, List.getElem_cons_zero]
  refine wpAnyH_ready (rs := [6]) (by kernel_rfl) (by simp) ?_
  refine AllReadyH.cons rfl (fun K hK => ?_) AllReadyH.nil
  go_simp
  refine (H1.out _ (kW.trans k1)).mono ?_
  rintro e w1 ⟨f, rfl, hf, hb1⟩
  have kk : Bw w w1 := (kW.trans k1).trans hb1
  refine hK.out _ _ ((hB.keep k1).keep hb1) (fun hHeld => ?_)
  clear hK K
  try simp only [Act.put, List.setIfInBounds_toArray, List.set_cons_zero, List.set_cons_succ, List.getElem_toArray, List.getElem_cons_succ, List.getElem_cons_zero]
  refine wpAnyH_ready (rs := [13]) (by kernel_rfl) (by simp) ?_
  refine AllReadyH.cons rfl (fun K hK => ?_) AllReadyH.nil
  go_simp
  refine (H2.out _ kk).mono ?_
  rintro e w2 ⟨t, rfl, ht, hb2⟩
  refine hK.out _ _ (((hB.keep k1).keep hb1).keep hb2) (fun hHeld => ?_)
  clear hK K
  try simp only [Act.put, List.setIfInBounds_toArray, List.set_cons_zero, List.set_cons_succ, List.getElem_toArray, List.getElem_cons_succ, List.getElem_cons_zero]
  refine wpAnyH_take (i := 14) (v := ?_) rfl (by kernel_rfl) (by kernel_rfl) (by kernel_rfl) (fun _ _ _ h => h) (Or.inl ⟨by rfl, ?_⟩) (by assumption) ?_
  rotate_left
  · intro w hSw; (try dsimp only at hSw); go_simp; all_goals (with_reducible rfl)
  try simp only [Act.put, List.setIfInBounds_toArray, List.set_cons_zero, List.set_cons_succ, List.getElem_toArray, List.getElem_cons_succ, List.getElem_cons_zero]
  refine wpAnyH_take (i := 15) (v := ?_) rfl (by kernel_rfl) (by kernel_rfl) (by kernel_rfl) (fun _ _ _ h => h) (Or.inl ⟨by rfl, ?_⟩) (by assumption) ?_
  rotate_left
  · intro w hSw; (try dsimp only at hSw); go_simp; all_goals (with_reducible rfl)
  try simp only [Act.put, List.setIfInBounds_toArray, List.set_cons_zero, List.set_cons_succ, List.getElem_toArray, List.getElem_cons_succ, List.getElem_cons_zero]
  refine wpAnyH_done (by kernel_rfl) ?_ _
  go_wp2
  go_ret2
  exact ⟨f, t, rfl, HB.out f t hf ht, kk.trans hb2⟩

theorem Sp.wc_take {L : List Sp.Rn} {i : Nat} {r : Sp.Rn} (h : L[i]? = some r) : Sp.wc (L.take (i + 1)) = if r.2 = 0 then Sp.wc (L.take i) else Sp.wc (L.take i) ++ [r] := by
  rw [List.take_add_one, h]
  unfold Sp.wc
  rw [Option.toList_some, List.filter_append]
  by_cases h0 : r.2 = 0
  · rw [if_pos h0, List.filter_cons, if_neg (by simp [h0])]; simp
  · rw [if_neg h0, List.filter_cons, if_pos (by simp [h0])]; simp
theorem Sp.wc_len (L : List Sp.Rn) : (Sp.wc L).length ≤ L.length := List.length_filter_le _ _
theorem Sp.wc_all {L : List Sp.Rn} (h : ∀ (j : Nat) (q : Sp.Rn), L[j]? = some q → ¬ q.2 = 0) : Sp.wc L = L := by
  unfold Sp.wc
  rw [List.filter_eq_self]
  intro q hq
  obtain ⟨j, hj⟩ := List.getElem?_of_mem hq
  simp [h j q hj]
/-- a run stored into a row -/
theorem RB.put {w : World} {t b c : Nat} {L : List Sp.Rn} (h : RB w t b c L) {i : Nat} (hi : i < L.length) (r : Sp.Rn) : RB ((w.setCell ⟨b, i * 2, none⟩ (.int .i64 (r.1 : Int))).setCell ⟨b, i * 2 + 1, none⟩ (.int .i64 (r.2 : Int))) t b c (L.set i r) := by
  obtain ⟨cur, h1, h2, h3, h4, h5⟩ := h
  have hc : cur.size = c * 2 := h2
  refine ⟨_, heap_setCell_same _ b _ _ _ _ (heap_setCell_same w b _ cur _ _ h1), by simpa using h2, by rw [List.length_set]; exact h3, h4, ?_⟩
  rw [List.length_set]
  apply List.ext_getElem?
  intro j
  rw [List.getElem?_take]
  by_cases hj : j < L.length * 2
  · rw [if_pos hj, Array.getElem?_toList]
    have hq : (L.set i r)[j / 2]? = if i = j / 2 then some r else L[j / 2]? := by
      rw [List.getElem?_set]
      by_cases e : i = j / 2
      · rw [if_pos e, if_pos e, if_pos (by omega)]
      · rw [if_neg e, if_neg e]
    by_cases e : i = j / 2
    · rw [if_pos e] at hq
      obtain ⟨g1, g2⟩ := Sp.cellsR_get _ _ _ hq
      rcases Nat.mod_two_eq_zero_or_one j with hm | hm
      · rw [show j / 2 * 2 = j by omega] at g1
        rw [g1, Array.getElem?_setIfInBounds_ne (by omega), show i * 2 = j by omega, Array.getElem?_setIfInBounds_self_of_lt (by omega)]
      · rw [show j / 2 * 2 + 1 = j by omega] at g2
        rw [g2, show i * 2 + 1 = j by omega, Array.getElem?_setIfInBounds_self_of_lt (by simp; omega)]
    · rw [if_neg e] at hq
      have hl : L[j / 2]? = some (L[j / 2]'(by omega)) := List.getElem?_eq_getElem (by omega)
      rw [hl] at hq
      have hq2 := Sp.cellsR_get _ _ _ hq
      have hl2 := Sp.cellsR_get _ _ _ hl
      rw [Array.getElem?_setIfInBounds_ne (by omega), Array.getElem?_setIfInBounds_ne (by omega)]
      have hcur : cur[j]? = (Sp.cellsR L)[j]? := by rw [← h5, List.getElem?_take, if_pos hj, Array.getElem?_toList]
      rw [hcur]
      rcases Nat.mod_two_eq_zero_or_one j with hm | hm
      · rw [show j / 2 * 2 = j by omega] at hq2 hl2
        rw [hq2.1, hl2.1]
      · rw [show j / 2 * 2 + 1 = j by omega] at hq2 hl2
        rw [hq2.2, hl2.2]
  · rw [if_neg hj, List.getElem?_eq_none]
    rw [Sp.cellsR_len, List.length_set]; omega
def DelEnds (b c : Nat) (L : List Sp.Rn) (t : Nat) (w : World) (e : Ending) (w' : World) : Prop := e = .returned (.slice (some ⟨b, 0, none⟩) (Sp.wc L).length c) ∧ RB w' t b c (Sp.wc L) ∧ Bx (· = b) w w'
/-- how far DeleteFunc is: the first k runs are looked at, those that have cells are at the head -/
structure DelAt (w0 : World) (b c : Nat) (L : List Sp.Rn) (k : Nat) (M : List Sp.Rn) (w : World) : Prop where
  row : RB w 48 b c M
  len : M.length = L.length
  head : M.take (Sp.wc (L.take k)).length = Sp.wc (L.take k)
  tail : M.drop k = L.drop k
  bx : Bx (· = b) w0 w

theorem DelAt.drop1 {w0 w : World} {b c k : Nat} {L M : List Sp.Rn} (h : DelAt w0 b c L k M w) : M.drop (k + 1) = L.drop (k + 1) := by
  have := congrArg (List.drop 1) h.tail
  simpa [List.drop_drop] using this
theorem DelAt.get {w0 w : World} {b c k : Nat} {L M : List Sp.Rn} (h : DelAt w0 b c L k M w) {r : Sp.Rn} (hr : L[k]? = some r) : M[k]? = some r := by
  have := congrArg (fun l => l[0]?) h.tail
  simp only [List.getElem?_drop, Nat.add_zero] at this
  rw [this, hr]
theorem DelAt.skip {w0 w w' : World} {b c k : Nat} {L M : List Sp.Rn} (h : DelAt w0 b c L k M w) {r : Sp.Rn} (hr : L[k]? = some r) (h0 : r.2 = 0) (kb : Bw w w') : DelAt w0 b c L (k + 1) M w' :=
  ⟨h.row.keep kb, h.len, by rw [Sp.wc_take hr, if_pos h0]; exact h.head, h.drop1, h.bx.trans (Bx.of_bw kb)⟩
theorem DelAt.put {w0 w : World} {b c k i : Nat} {L M : List Sp.Rn} (h : DelAt w0 b c L k M w) {r : Sp.Rn} (hr : L[k]? = some r) (h0 : ¬ r.2 = 0) (hi : (Sp.wc (L.take k)).length = i) (hik : i < k) :
    DelAt w0 b c L (k + 1) (M.set i r) ((w.setCell ⟨b, i * 2, none⟩ (.int .i64 (r.1 : Int))).setCell ⟨b, i * 2 + 1, none⟩ (.int .i64 (r.2 : Int))) := by
  have hk := (List.getElem?_eq_some_iff.1 hr).1
  have hl := h.len
  refine ⟨h.row.put (by omega) r, by rw [List.length_set]; exact hl, ?_, ?_, (h.bx.put rfl).put rfl⟩
  · rw [Sp.wc_take hr, if_neg h0, List.length_append, hi, List.length_singleton]
    have hh := h.head
    rw [hi] at hh
    rw [List.take_add_one, List.getElem?_set_self (by omega), Option.toList_some, List.take_set_of_le (Nat.le_refl _), hh]
  · rw [List.drop_set_of_lt (by omega)]; exact h.drop1
set_option maxRecDepth 100000 in
set_option maxHeartbeats 2000000 in
theorem delete_any (b c : Nat) (L : List Sp.Rn) (hn : L.length ≤ 1000000) (w : World) (hb : RB w 48 b c L) :
    Calls Try.prog 35 #[.slice (some ⟨b, 0, none⟩) L.length c, .func (.func 36) #[] #[]] w fun e w' => DelEnds b c L 48 w e w' := by
  have HI := index_none (some ⟨b, 0, none⟩) c L (by omega) w hb.src0
  have HN : Hid (∀ r u, Calls Try.prog 36 #[rv r] u fun e w' => e = .returned (.bool (decide (r.2 = 0))) ∧ Bw u w') := fun r u => none_any r u
  have hcap := hb.cap
  have hle := hb.le
  have hc63 : c ≤ 9223372036854775807 := by unfold maxLen at hcap; omega
  clear hcap
  obtain ⟨n, hnn⟩ : ∃ n, Hid (L.length = n) := ⟨_, rfl⟩
  rw [hnn.out] at HI hn hle ⊢
  have HR : Hid (RB w 48 b c L) := hb
  rcases Sp.idx_cases L (fun r : Sp.Rn => decide (r.2 = 0)) with ⟨h1, h2⟩ | ⟨i, r, h1, h2, h3, h4⟩
  · rw [h1] at HI
    have hw : Sp.wc L = L := Sp.wc_all (fun j q hq => by have := h2 q (List.mem_of_getElem? hq); simpa using this)
    have HE : Hid (∀ w', Bw w w' → DelEnds b c L 48 w (.returned (.slice (some ⟨b, 0, none⟩) n c)) w') := fun w' k => ⟨by rw [hw, hnn.out], by rw [hw]; exact hb.keep k, Bx.of_bw k⟩
    clear h1 h2 hb hw
    go_enter Try.func35, Try.ntmps35
    go_wp2_with (go_at_call 23; refine HI.mono ?_; rintro e w1 ⟨rfl, hb1⟩)
    go_ret
    exact HE.out _ hb1
  · rw [h1] at HI
    have hi := (List.getElem?_eq_some_iff.1 h2).1
    rw [hnn.out] at hi
    have hti : Sp.wc (L.take i) = L.take i := Sp.wc_all (fun j q hq => by
      rw [List.getElem?_take] at hq
      split at hq
      · rename_i hj
        have := h4 j q hj hq; simpa using this
      · cases hq)
    have h3' : r.2 = 0 := by simpa using h3
    have hw1 : Sp.wc (L.take (i + 1)) = L.take i := by rw [Sp.wc_take h2, if_pos h3', hti]
    have HS : Hid (∀ w', Bw w w' → DelAt w b c L (i + 1) L w' ∧ (Sp.wc (L.take (i + 1))).length = i) := fun w' k =>
      ⟨⟨hb.keep k, rfl, by rw [hw1, List.length_take, Nat.min_eq_left (by rw [hnn.out]; omega)], rfl, Bx.of_bw k⟩, by rw [hw1, List.length_take, Nat.min_eq_left (by rw [hnn.out]; omega)]⟩
    have i0 : (0 : Int) ≤ (i : Int) := Int.natCast_nonneg _
    have i1 : ((i : Int) == -1) = false := by rw [beq_eq_false_iff_ne]; omega
    clear h1 h2 h3 h4 hb hti h3' hw1
    go_enter Try.func35, Try.ntmps35
    go_wp2_with (go_at_call 23; refine HI.mono ?_; rintro e w1 ⟨rfl, hb1⟩)
    clear HI i1
    go_loopw [5, 6] (fun s5 s6 wr => ∃ (p k : Nat) (M : List Sp.Rn), s5 = .int .i64 (p : Int) ∧ s6 = .int .i64 (k : Int) ∧ p < k ∧ k ≤ n ∧ Hid (DelAt w b c L k M wr) ∧ Hid ((Sp.wc (L.take k)).length = p)) (fun _ s6 _ => n - (intOf s6).toNat)
    case atStart => exact ⟨i, i + 1, L, rfl, by go_num, by omega, by omega, (HS.out _ hb1).1, (HS.out _ hb1).2⟩
    case round =>
      obtain ⟨p, k, M, rfl, rfl, hpk, hkn, hD, hP⟩ := hrel
      have p0 : (0 : Int) ≤ (p : Int) := Int.natCast_nonneg _
      have k0 : (0 : Int) ≤ (k : Int) := Int.natCast_nonneg _
      by_cases hlt : k < n
      · have k1 : (k : Int) < (n : Int) := by omega
        have p1 : (p : Int) < (n : Int) := by omega
        obtain ⟨r', hr⟩ : ∃ r, Hid (L[k]? = some r) := ⟨_, List.getElem?_eq_getElem (by rw [hnn.out]; exact hlt)⟩
        obtain ⟨z0, z1⟩ := hD.out.row.cells (hD.out.get hr.out)
        have hbl : b < wr.heap.size := hD.out.row.lt
        obtain ⟨V, hV⟩ : ∃ V, V = wr.alloc (.cells #[.int .i64 (r'.1 : Int), .int .i64 (r'.2 : Int)] 48) := ⟨_, rfl⟩
        have kV : Bw wr V := by rw [hV]; exact bw_alloc16 (Bw.refl _) _
        have HV : Hid (∀ u, Bw V u → u.cell? ⟨wr.heap.size, 0, none⟩ = some (.int .i64 (r'.1 : Int)) ∧ u.cell? ⟨wr.heap.size, 1, none⟩ = some (.int .i64 (r'.2 : Int))) := fun u k => by
          have := cells2_new wr (.int .i64 (r'.1 : Int)) (.int .i64 (r'.2 : Int)) 48
          rw [← hV] at this
          exact ⟨keep_cell16 this.1 k, keep_cell16 this.2 k⟩
        obtain ⟨v0, v1⟩ := HV.out V (Bw.refl _)
        have HC : Hid (∀ u, Calls Try.prog 36 #[.agg #[.int .i64 (r'.1 : Int), .int .i64 (r'.2 : Int)]] u fun e w' => e = .returned (.bool (decide (r'.2 = 0))) ∧ Bw u w') := fun u => HN.out r' u
        by_cases h0 : r'.2 = 0
        · rw [decide_eq_true h0] at HC
          have HX : Hid (∀ u, Bw wr u → DelAt w b c L (k + 1) M u ∧ (Sp.wc (L.take (k + 1))).length = p) := fun u ku => ⟨hD.out.skip hr.out h0 ku, by rw [Sp.wc_take hr.out, if_pos h0]; exact hP.out⟩
          clear h0 hb1
          go_wp2_with (go_at_call 36; refine (HC.out _).mono ?_; rintro e w2 ⟨rfl, hb2⟩; rw [← hV] at hb2)
          go_roundw
          case rel => exact ⟨p, k + 1, M, rfl, by go_num, by omega, by omega, (HX.out _ (kV.trans hb2)).1, (HX.out _ (kV.trans hb2)).2⟩
          case measure => simp [intOf]; omega
        · rw [decide_eq_false h0] at HC
          have HX : Hid (∀ u, Bw wr u → (u.frozen? ⟨b, p * 2, none⟩ = false ∧ u.frozen? ⟨b, p * 2 + 1, none⟩ = false ∧ (∃ y, u.cell? ⟨b, p * 2, none⟩ = some y) ∧ ∃ y, u.cell? ⟨b, p * 2 + 1, none⟩ = some y) ∧ DelAt w b c L (k + 1) (M.set p r') ((u.setCell ⟨b, p * 2, none⟩ (.int .i64 (r'.1 : Int))).setCell ⟨b, p * 2 + 1, none⟩ (.int .i64 (r'.2 : Int))) ∧ (Sp.wc (L.take (k + 1))).length = p + 1) := fun u ku => by
            have hu : DelAt w b c L k M u := ⟨hD.out.row.keep ku, hD.out.len, hD.out.head, hD.out.tail, hD.out.bx.trans (Bx.of_bw ku)⟩
            have hl := hD.out.len
            rw [hnn.out] at hl
            have hm : M[p]? = some (M[p]'(by omega)) := List.getElem?_eq_getElem (by omega)
            obtain ⟨y0, y1⟩ := hu.row.cells hm
            exact ⟨⟨hu.row.free _, hu.row.free _, ⟨_, y0⟩, ⟨_, y1⟩⟩, hu.put hr.out h0 hP.out hpk, by rw [Sp.wc_take hr.out, if_neg h0, List.length_append, hP.out]; rfl⟩
          clear h0 hb1
          go_wp2_with (go_at_call 36; refine (HC.out _).mono ?_; rintro e w2 ⟨rfl, hb2⟩; rw [← hV] at hb2; obtain ⟨v2, v3⟩ := HV.out _ hb2; obtain ⟨⟨f0, f1, ⟨y0, e0⟩, ⟨y1, e1⟩⟩, hX1, hX2⟩ := HX.out _ (kV.trans hb2); have hX1 : Hid _ := hX1; have hX2 : Hid _ := hX2)
          go_roundw
          case rel => exact ⟨p + 1, k + 1, M.set p r', by go_num, by go_num, by omega, by omega, hX1.out, hX2.out⟩
          case measure => simp [intOf]; omega
      · have ek : k = n := by omega
        subst ek
        have hwL : Sp.wc (L.take k) = Sp.wc L := by rw [← hnn.out, List.take_length]
        have hl := hD.out.len
        rw [hnn.out] at hl
        obtain ⟨w', hcl, hR', hX'⟩ := clearR hD.out.row (o := p) (n := k - p) (by omega) (by omega) (by omega) (c - p)
        have HE : Hid (DelEnds b c L 48 w (.returned (.slice (some ⟨b, 0, none⟩) p c)) w') := by
          have hP' := hP.out
          have hh := hD.out.head
          rw [hwL] at hP' hh
          refine ⟨by rw [hP'], ?_, hD.out.bx.trans hX'⟩
          have h1 := hR'.take p
          rw [List.append_assoc, List.take_append_of_le_length (by rw [List.length_take]; omega), List.take_take, Nat.min_self] at h1
          rw [← hh, hP']; exact h1
        have hne : ¬ (c = p) := by omega
        have p1 : (p : Int) ≤ (k : Int) := by omega
        have p2 : (p : Int) ≤ (c : Int) := by omega
        clear hl hwL hR' hX' hb1
        go_wp2
        go_ret
        exact HE.out

set_option maxRecDepth 100000 in
theorem withcells_any (b c : Nat) (L : List Sp.Rn) (hn : L.length ≤ 1000000) (w : World) (hb : RB w 48 b c L) :
    Calls Try.prog 22 #[.slice (some ⟨b, 0, none⟩) L.length c] w fun e w' => DelEnds b c L 48 w e w' := by
  have HD : Hid (Calls Try.prog 35 #[.slice (some ⟨b, 0, none⟩) L.length c, .func (.func 36) #[] #[]] w fun e w' => ∃ v, e = .returned v ∧ DelEnds b c L 48 w (.returned v) w') := (delete_any b c L hn w hb).mono (fun e w' h => ⟨_, h.1, by rw [h.1] at h; exact h⟩)
  obtain ⟨n, hnn⟩ : ∃ n, Hid (L.length = n) := ⟨_, rfl⟩
  rw [hnn.out] at HD ⊢
  clear hb
  go_enter Try.func22, Try.ntmps22
  go_wp2_with (go_at_call 35; refine HD.out.mono ?_; rintro e w1 ⟨v, rfl, hd⟩)
  go_ret
  exact hd
end Go.Proofs.Ytfdfkhmaeeonpaa
