/- Layer 16: a list of runs asked by functions that are handed in. -/
import Derived.Test.YtfdfkhmaeeonpaaRd
namespace Go.Proofs.Ytfdfkhmaeeonpaa
open Go.RowKit Go.Deep
set_option linter.unusedVariables false
set_option linter.unusedSimpArgs false

set_option maxRecDepth 100000 in
set_option maxHeartbeats 1000000 in
theorem all_any (o : Sp.Rn) (ho : o.1 + o.2 ≤ 1099511627776) (x y g : Nat) (w : World) (c0 : w.cell? ⟨g, 0, none⟩ = some (.int .i64 (x : Int))) (c1 : w.cell? ⟨g, 1, none⟩ = some (.int .i64 (y : Int))) :
    Calls Try.prog 42 #[.func (.func 43) #[rv o] #[], .slice (some ⟨g, 0, none⟩) 2 2] w fun e w' => e = .returned (.bool (decide (o.1 ≤ x ∧ x < o.1 + o.2) && decide (o.1 ≤ y ∧ y < o.1 + o.2))) ∧ Bw w w' := by
  have H1 : Hid (∀ u, Calls Try.prog 43 #[rv o, .int .i64 (x : Int)] u fun e w' => e = .returned (.bool (decide (o.1 ≤ x ∧ x < o.1 + o.2))) ∧ Bw u w') := fun u => has_any o ho x u
  have H2 : Hid (∀ u, Calls Try.prog 43 #[rv o, .int .i64 (y : Int)] u fun e w' => e = .returned (.bool (decide (o.1 ≤ y ∧ y < o.1 + o.2))) ∧ Bw u w') := fun u => has_any o ho y u
  obtain ⟨d1, hd1⟩ : ∃ d, Hid (decide (o.1 ≤ x ∧ x < o.1 + o.2) = d) := ⟨_, rfl⟩
  obtain ⟨d2, hd2⟩ : ∃ d, Hid (decide (o.1 ≤ y ∧ y < o.1 + o.2) = d) := ⟨_, rfl⟩
  rw [hd1.out] at H1 ⊢
  rw [hd2.out] at H2 ⊢
  have HC : Hid (∀ u, Bw w u → u.cell? ⟨g, 0, none⟩ = some (.int .i64 (x : Int)) ∧ u.cell? ⟨g, 1, none⟩ = some (.int .i64 (y : Int))) := fun u k => ⟨keep_cell16 c0 k, keep_cell16 c1 k⟩
  clear c0 c1
  go_enter Try.func42, Try.ntmps42
  go_wp2
  go_loopw [9] (fun i wr => ((i = .int .i64 0) ∨ (i = .int .i64 1 ∧ d1 = true) ∨ (i = .int .i64 2 ∧ d1 = true ∧ d2 = true)) ∧ Bw w wr) (fun i _ => 2 - (intOf i).toNat)
  case atStart => exact ⟨.inl rfl, Bw.refl _⟩
  case round =>
    obtain ⟨hcs, hbw⟩ := hrel
    obtain ⟨x0, x1⟩ := HC.out wr hbw
    rcases hcs with rfl | ⟨rfl, rfl⟩ | ⟨rfl, rfl, rfl⟩
    · cases d1 with
      | true =>
        go_wp2_with (go_at_call 43; refine (H1.out _).mono ?_; rintro e w1 ⟨rfl, hb1⟩)
        go_roundw
        case rel => exact ⟨.inr (.inl ⟨rfl, by simp⟩), hbw.trans hb1⟩
        case measure => simp [intOf]
      | false =>
        go_wp2_with (go_at_call 43; refine (H1.out _).mono ?_; rintro e w1 ⟨rfl, hb1⟩)
        go_ret
        exact ⟨rfl, hbw.trans hb1⟩
    · cases d2 with
      | true =>
        go_wp2_with (go_at_call 43; refine (H2.out _).mono ?_; rintro e w1 ⟨rfl, hb1⟩)
        go_roundw
        case rel => exact ⟨.inr (.inr ⟨rfl, by simp, by simp⟩), hbw.trans hb1⟩
        case measure => simp [intOf]
      | false =>
        go_wp2_with (go_at_call 43; refine (H2.out _).mono ?_; rintro e w1 ⟨rfl, hb1⟩)
        go_ret
        exact ⟨rfl, hbw.trans hb1⟩
    · go_wp2
      go_ret
      exact ⟨rfl, hbw⟩
/-- is a run in another, as the program asks it -/
def Sp.inB (r o : Sp.Rn) : Bool := decide (o.1 ≤ r.1 ∧ r.1 < o.1 + o.2) && decide (o.1 ≤ r.1 + r.2 - 1 ∧ r.1 + r.2 - 1 < o.1 + o.2)
set_option maxRecDepth 100000 in
set_option maxHeartbeats 4000000 in
theorem isin_any (r o : Sp.Rn) (hr : r.1 + r.2 ≤ 1099511627776) (hk : 1 ≤ r.2) (ho : o.1 + o.2 ≤ 1099511627776) (w : World) :
    Calls Try.prog 30 #[rv r, rv o] w fun e w' => e = .returned (.bool (Sp.inB r o)) ∧ Bw w w' := by
  have HE : Hid (∀ u, Calls Try.prog 37 #[rv r] u fun e w' => e = .returned (.int .i64 ((r.1 + r.2 : Nat) : Int)) ∧ Bw u w') := fun u => end_any r hr u
  have HA : Hid (∀ g u, u.cell? ⟨g, 0, none⟩ = some (.int .i64 (r.1 : Int)) → u.cell? ⟨g, 1, none⟩ = some (.int .i64 (((r.1 + r.2 : Nat) : Int) - 1)) →
      Calls Try.prog 42 #[.func (.func 43) #[rv o] #[], .slice (some ⟨g, 0, none⟩) 2 2] u fun e w' => e = .returned (.bool (Sp.inB r o)) ∧ Bw u w') := fun g u c0 c1 => by
    rw [show ((r.1 + r.2 : Nat) : Int) - 1 = ((r.1 + r.2 - 1 : Nat) : Int) by omega] at c1
    exact all_any o ho r.1 (r.1 + r.2 - 1) g u c0 c1
  obtain ⟨W, hW⟩ : ∃ W, W = (w.alloc (.cells #[.int .i64 (r.1 : Int), .int .i64 (r.2 : Int)] 48)).alloc (.cells #[.int .i64 (o.1 : Int), .int .i64 (o.2 : Int)] 48) := ⟨_, rfl⟩
  have kW : Bw w W := by rw [hW]; exact bw_alloc16 (bw_alloc16 (Bw.refl _) _) _
  have hB : Box2 W w.heap.size (w.heap.size + 1) r o := by rw [hW]; exact box2_new w r o _ _
  obtain ⟨q, hq⟩ : ∃ q, Hid (r.1 + r.2 = q) := ⟨_, rfl⟩
  have q1 : (1 : Int) ≤ (q : Int) := by have := hq.out; omega
  have q2 : (q : Int) ≤ 1099511627776 := by have := hq.out; omega
  rw [hq.out] at HE HA
  have hwr : IntKind.i64.wrap ((q : Int) - 1) = (q : Int) - 1 := by rw [IntKind.wrap_i64]; omega
  obtain ⟨d, hd⟩ : ∃ d, Hid (Sp.inB r o = d) := ⟨_, rfl⟩
  rw [hd.out] at HA ⊢
  go_enter Try.func30, Try.ntmps30
  go_upto_region 1 with fail
  rw [← hW]
  clear hW
  refine wp_region_held_drew (S := fun v => Box2 v w.heap.size (w.heap.size + 1) r o) (by kernel_rfl) (hB.keep (Bw.refl _).drew) (fun hHeld => ?_)
  refine wpAnyH_take (i := 0) (v := ?_) rfl (by kernel_rfl) (by kernel_rfl) (by kernel_rfl) (fun _ _ _ h => h) (Or.inl ⟨by rfl, ?_⟩) (by assumption) ?_
  rotate_left
  · intro w hSw; (try dsimp only at hSw); obtain ⟨x0, x1, y0, y1⟩ := hSw; go_simp; all_goals (with_reducible rfl)
  try simp only [Act.put, List.setIfInBounds_toArray, List.set_cons_zero, List.set_cons_succ, List.getElem_toArray, List.getElem_cons_succ, List.getElem_cons_zero]
  refine wpAnyH_take (i := 1) (v := ?_) rfl (by kernel_rfl) (by kernel_rfl) (by kernel_rfl) (fun _ _ _ h => h) (Or.inl ⟨by rfl, ?_⟩) (by assumption) ?_
  rotate_left
  · intro w hSw; (try dsimp only at hSw); obtain ⟨x0, x1, y0, y1⟩ := hSw; go_simp; all_goals (with_reducible rfl)
  try simp only [Act.put, List.setIfInBounds_toArray, List.set_cons_zero, List.set_cons_succ, List.getElem_toArray, List.getElem_cons_succ, List.getElem_cons_zero]
  refine wpAnyH_take (i := 2) (v := ?_) rfl (by kernel_rfl) (by kernel_rfl) (by kernel_rfl) (fun _ _ _ h => h) (Or.inl ⟨by rfl, ?_⟩) (by assumption) ?_
  rotate_left
  · intro w hSw; (try dsimp only at hSw); obtain ⟨x0, x1, y0, y1⟩ := hSw; go_simp; all_goals (with_reducible rfl)
  try simp only [Act.put, List.setIfInBounds_toArray, List.set_cons_zero, List.set_cons_succ, List.getElem_toArray, List.getElem_cons_succ, List.getElem_cons_zero]
  refine wpAnyH_take (i := 3) (v := ?_) rfl (by kernel_rfl) (by kernel_rfl) (by kernel_rfl) (fun _ _ _ h => h) (Or.inl ⟨by rfl, ?_⟩) (by assumption) ?_
  rotate_left
  · intro w hSw; (try dsimp only at hSw); obtain ⟨x0, x1, y0, y1⟩ := hSw; go_simp; all_goals (with_reducible rfl)
  try simp only [Act.put, List.setIfInBounds_toArray, List.set_cons_zero, List.set_cons_succ, List.getElem_toArray, List.getElem_cons_succ, List.getElem_cons_zero]
  refine wpAnyH_take (i := 4) (v := ?_) rfl (by kernel_rfl) (by kernel_rfl) (by kernel_rfl) (fun _ _ _ h => h) (Or.inl ⟨by rfl, ?_⟩) (by assumption) ?_
  rotate_left
  · intro w hSw; (try dsimp only at hSw); obtain ⟨x0, x1, y0, y1⟩ := hSw; go_simp; all_goals (with_reducible rfl)
  try simp only [Act.put, List.setIfInBounds_toArray, List.set_cons_zero, List.set_cons_succ, List.getElem_toArray, List.getElem_cons_succ, List.getElem_cons_zero]
  refine wpAnyH_ready (rs := [5]) (by kernel_rfl) (by simp) ?_
  refine AllReadyH.cons rfl (fun K hK => ?_) AllReadyH.nil
  go_simp
  refine (HE.out _).mono ?_
  rintro e w1 ⟨rfl, hb1⟩
  have hB1 := hB.keep ((Bw.refl _).drew.trans hb1)
  refine hK.out _ _ (hB1) (fun hHeld => ?_)
  clear hK K
  try simp only [Act.put, List.setIfInBounds_toArray, List.set_cons_zero, List.set_cons_succ, List.getElem_toArray, List.getElem_cons_succ, List.getElem_cons_zero]
  refine wpAnyH_take (i := 6) (v := ?_) rfl (by kernel_rfl) (by kernel_rfl) (by kernel_rfl) (fun _ _ _ h => h) (Or.inl ⟨by rfl, ?_⟩) (by assumption) ?_
  rotate_left
  · intro w hSw; (try dsimp only at hSw); obtain ⟨x0, x1, y0, y1⟩ := hSw; go_simp; all_goals (with_reducible rfl)
  try simp only [Act.put, List.setIfInBounds_toArray, List.set_cons_zero, List.set_cons_succ, List.getElem_toArray, List.getElem_cons_succ, List.getElem_cons_zero]
  refine wpAnyH_ready (rs := [7]) (by kernel_rfl) (by simp) ?_
  refine AllReadyH.cons rfl (fun K hK => ?_) AllReadyH.nil
  go_simp
  have kA : Bw w1 (w1.alloc (.cells #[.int .i64 (r.1 : Int), .int .i64 ((q : Int) - 1)] 3)) := bw_alloc16 (Bw.refl _) _
  obtain ⟨z0, z1⟩ := cells2_new w1 (.int .i64 (r.1 : Int)) (.int .i64 ((q : Int) - 1)) 3
  refine hK.out _ _ (hB1.keep kA) (fun hHeld => ?_)
  clear hK K
  try simp only [Act.put, List.setIfInBounds_toArray, List.set_cons_zero, List.set_cons_succ, List.getElem_toArray, List.getElem_cons_succ, List.getElem_cons_zero]
  refine wpAnyH_ready (rs := [8]) (by kernel_rfl) (by simp) ?_
  refine AllReadyH.cons rfl (fun K hK => ?_) AllReadyH.nil
  go_simp
  refine (HA.out _ _ z0 z1).mono ?_
  rintro e w2 ⟨rfl, hb2⟩
  refine hK.out _ _ ((hB1.keep kA).keep hb2) (fun hHeld => ?_)
  clear hK K
  try simp only [Act.put, List.setIfInBounds_toArray, List.set_cons_zero, List.set_cons_succ, List.getElem_toArray, List.getElem_cons_succ, List.getElem_cons_zero]
  refine wpAnyH_take (i := 9) (v := ?_) rfl (by kernel_rfl) (by kernel_rfl) (by kernel_rfl) (fun _ _ _ h => h) (Or.inl ⟨by rfl, ?_⟩) (by assumption) ?_
  rotate_left
  · intro w hSw; (try dsimp only at hSw); go_simp; all_goals (with_reducible rfl)
  try simp only [Act.put, List.setIfInBounds_toArray, List.set_cons_zero, List.set_cons_succ, List.getElem_toArray, List.getElem_cons_succ, List.getElem_cons_zero]
  refine wpAnyH_done (by kernel_rfl) ?_ _
  go_wp2
  go_ret
  exact ⟨rfl, ((kW.trans ((Bw.refl _).drew.trans hb1)).trans kA).trans hb2⟩

/-- the first place at which something is so, or -1 -/
def Sp.idx (L : List Sp.Rn) (p : Sp.Rn → Bool) : Int := match L.findIdx? p with | some i => (i : Int) | none => -1
theorem Sp.idx_at {L : List Sp.Rn} {p : Sp.Rn → Bool} {i : Nat} {r : Sp.Rn} (h : L[i]? = some r) (hr : p r = true) (hno : ∀ (j : Nat) (q : Sp.Rn), j < i → L[j]? = some q → p q = false) : Sp.idx L p = (i : Int) := by
  have hi := (List.getElem?_eq_some_iff.1 h).1
  have e : L.findIdx? p = some i := by
    rw [List.findIdx?_eq_some_iff_getElem]
    refine ⟨hi, by rw [(List.getElem?_eq_some_iff.1 h).2]; exact hr, fun j hj => ?_⟩
    have := hno j L[j] hj (List.getElem?_eq_getElem (by omega))
    simp [this]
  unfold Sp.idx
  rw [e]
theorem Sp.idx_none {L : List Sp.Rn} {p : Sp.Rn → Bool} (hno : ∀ (j : Nat) (q : Sp.Rn), L[j]? = some q → p q = false) : Sp.idx L p = -1 := by
  have e : L.findIdx? p = none := by
    rw [List.findIdx?_eq_none_iff]
    intro q hq
    obtain ⟨j, hj⟩ := List.getElem?_of_mem hq
    exact hno j q hj
  unfold Sp.idx
  rw [e]
theorem Sp.idx_cases (L : List Sp.Rn) (p : Sp.Rn → Bool) : (Sp.idx L p = -1 ∧ ∀ r ∈ L, p r = false) ∨ ∃ (i : Nat) (r : Sp.Rn), Sp.idx L p = (i : Int) ∧ L[i]? = some r ∧ p r = true ∧ ∀ (j : Nat) (q : Sp.Rn), j < i → L[j]? = some q → p q = false := by
  cases e : L.findIdx? p with
  | none =>
    refine .inl ⟨by unfold Sp.idx; rw [e], fun r hr => ?_⟩
    rw [List.findIdx?_eq_none_iff] at e
    exact e r hr
  | some i =>
    have e' := e
    rw [List.findIdx?_eq_some_iff_getElem] at e
    obtain ⟨hi, h1, h2⟩ := e
    refine .inr ⟨i, L[i], by unfold Sp.idx; rw [e'], List.getElem?_eq_getElem hi, h1, fun j q hj hq => ?_⟩
    have := h2 j hj
    rw [List.getElem?_eq_getElem (by omega), Option.some.injEq] at hq
    rw [← hq]
    simpa using this

set_option maxRecDepth 100000 in
set_option maxHeartbeats 1000000 in
theorem index_fits (x k : Int) (A : Option Addr) (cap : Nat) (L : List Sp.Rn) (hn : L.length ≤ 1099511627776) (w : World) (ha : RsAt w A L) :
    Calls Try.prog 23 #[.slice A L.length cap, .func (.func 24) #[.agg #[.int .i64 x, .int .i64 k]] #[]] w fun e w' => e = .returned (.int .i64 (Sp.idx L (fun r : Sp.Rn => decide (k ≤ (r.2 : Int))))) ∧ Bw w w' := by
  have HF : Hid (∀ r ∈ L, ∀ u, Calls Try.prog 24 #[.agg #[.int .i64 x, .int .i64 k], rv r] u fun e w' => e = .returned (.bool ((fun r : Sp.Rn => decide (k ≤ (r.2 : Int))) r)) ∧ Bw u w') := fun r _ u => fits_any x k r u
  obtain ⟨Z, hZ⟩ : ∃ Z, Hid ((fun r : Sp.Rn => decide (k ≤ (r.2 : Int))) = Z) := ⟨_, rfl⟩
  rw [hZ.out] at HF ⊢
  obtain ⟨R, hR⟩ : ∃ r, Hid (Sp.idx L Z = r) := ⟨_, rfl⟩
  rw [hR.out]
  obtain ⟨n, hnn⟩ : ∃ n, Hid (L.length = n) := ⟨_, rfl⟩
  rw [hnn.out] at hn ⊢
  have HA : Hid (RsAt w A L) := ha
  clear ha
  go_enter Try.func23, Try.ntmps23
  go_wp2
  go_loopw [8] (fun i wr => ∃ k : Nat, k ≤ n ∧ i = .int .i64 (k : Int) ∧ Hid (∀ (j : Nat) (q : Sp.Rn), j < k → L[j]? = some q → Z q = false) ∧ Bw w wr) (fun i _ => n - (intOf i).toNat)
  case atStart => exact ⟨0, Nat.zero_le _, rfl, fun j q hj => absurd hj (Nat.not_lt_zero _), Bw.refl _⟩
  case round =>
    obtain ⟨i, hi, rfl, hno, hbw⟩ := hrel
    have i0 : (0 : Int) ≤ (i : Int) := Int.natCast_nonneg _
    by_cases hlt : i < n
    · have i1 : (i : Int) < (n : Int) := by omega
      obtain ⟨r, hy⟩ : ∃ r, Hid (L[i]? = some r) := ⟨_, List.getElem?_eq_getElem (by rw [hnn.out]; exact hlt)⟩
      obtain ⟨b, off, rfl⟩ : ∃ b off, A = some ⟨b, off, none⟩ := by
        rcases HA.out with h0 | ⟨b, o, e, _⟩
        · rw [h0] at hy; exact absurd hy.out (by simp)
        · exact ⟨b, o, e⟩
      obtain ⟨z0, z1⟩ := (HA.out.keep hbw).at hy.out
      have HF' : Hid (∀ u, Calls Try.prog 24 #[.agg #[.int .i64 x, .int .i64 k], rv r] u fun e w' => e = .returned (.bool (Z r)) ∧ Bw u w') := fun u => HF.out r (List.mem_of_getElem? hy.out) u
      obtain ⟨d, hd⟩ : ∃ d, Hid (Z r = d) := ⟨_, rfl⟩
      rw [hd.out] at HF'
      cases d with
      | true =>
        obtain rfl : (i : Int) = R := by rw [← hR.out]; exact (Sp.idx_at hy.out hd.out hno.out).symm
        go_wp2_with (go_at_call 24; refine (HF'.out _).mono ?_; rintro e w1 ⟨rfl, hw1⟩)
        go_ret
        exact ⟨rfl, hbw.trans hw1⟩
      | false =>
        have nx : Hid (∀ (j : Nat) (q : Sp.Rn), j < i + 1 → L[j]? = some q → Z q = false) := fun j q hj hq => by
          rcases Nat.lt_or_ge j i with h | h
          · exact hno.out j q h hq
          · rw [show j = i by omega, hy.out, Option.some.injEq] at hq
            rw [← hq]; exact hd.out
        go_wp2_with (go_at_call 24; refine (HF'.out _).mono ?_; rintro e w1 ⟨rfl, hw1⟩)
        go_roundw
        case rel => exact ⟨i + 1, by omega, by go_num, nx, hbw.trans hw1⟩
        case measure => simp [intOf]; omega
    · have ei : i = n := by omega
      subst ei
      obtain rfl : (-1 : Int) = R := by
        rw [← hR.out]
        exact (Sp.idx_none (fun j q hq => hno.out j q (by have := (List.getElem?_eq_some_iff.1 hq).1; rw [hnn.out] at this; exact this) hq)).symm
      go_wp2
      go_ret
      exact ⟨rfl, hbw⟩

set_option maxRecDepth 100000 in
set_option maxHeartbeats 1000000 in
theorem index_none  (A : Option Addr) (cap : Nat) (L : List Sp.Rn) (hn : L.length ≤ 1099511627776) (w : World) (ha : RsAt w A L) :
    Calls Try.prog 23 #[.slice A L.length cap, .func (.func 36) #[] #[]] w fun e w' => e = .returned (.int .i64 (Sp.idx L (fun r : Sp.Rn => decide (r.2 = 0)))) ∧ Bw w w' := by
  have HF : Hid (∀ r ∈ L, ∀ u, Calls Try.prog 36 #[rv r] u fun e w' => e = .returned (.bool ((fun r : Sp.Rn => decide (r.2 = 0)) r)) ∧ Bw u w') := fun r _ u => none_any r u
  obtain ⟨Z, hZ⟩ : ∃ Z, Hid ((fun r : Sp.Rn => decide (r.2 = 0)) = Z) := ⟨_, rfl⟩
  rw [hZ.out] at HF ⊢
  obtain ⟨R, hR⟩ : ∃ r, Hid (Sp.idx L Z = r) := ⟨_, rfl⟩
  rw [hR.out]
  obtain ⟨n, hnn⟩ : ∃ n, Hid (L.length = n) := ⟨_, rfl⟩
  rw [hnn.out] at hn ⊢
  have HA : Hid (RsAt w A L) := ha
  clear ha
  go_enter Try.func23, Try.ntmps23
  go_wp2
  go_loopw [8] (fun i wr => ∃ k : Nat, k ≤ n ∧ i = .int .i64 (k : Int) ∧ Hid (∀ (j : Nat) (q : Sp.Rn), j < k → L[j]? = some q → Z q = false) ∧ Bw w wr) (fun i _ => n - (intOf i).toNat)
  case atStart => exact ⟨0, Nat.zero_le _, rfl, fun j q hj => absurd hj (Nat.not_lt_zero _), Bw.refl _⟩
  case round =>
    obtain ⟨i, hi, rfl, hno, hbw⟩ := hrel
    have i0 : (0 : Int) ≤ (i : Int) := Int.natCast_nonneg _
    by_cases hlt : i < n
    · have i1 : (i : Int) < (n : Int) := by omega
      obtain ⟨r, hy⟩ : ∃ r, Hid (L[i]? = some r) := ⟨_, List.getElem?_eq_getElem (by rw [hnn.out]; exact hlt)⟩
      obtain ⟨b, off, rfl⟩ : ∃ b off, A = some ⟨b, off, none⟩ := by
        rcases HA.out with h0 | ⟨b, o, e, _⟩
        · rw [h0] at hy; exact absurd hy.out (by simp)
        · exact ⟨b, o, e⟩
      obtain ⟨z0, z1⟩ := (HA.out.keep hbw).at hy.out
      have HF' : Hid (∀ u, Calls Try.prog 36 #[rv r] u fun e w' => e = .returned (.bool (Z r)) ∧ Bw u w') := fun u => HF.out r (List.mem_of_getElem? hy.out) u
      obtain ⟨d, hd⟩ : ∃ d, Hid (Z r = d) := ⟨_, rfl⟩
      rw [hd.out] at HF'
      cases d with
      | true =>
        obtain rfl : (i : Int) = R := by rw [← hR.out]; exact (Sp.idx_at hy.out hd.out hno.out).symm
        go_wp2_with (go_at_call 36; refine (HF'.out _).mono ?_; rintro e w1 ⟨rfl, hw1⟩)
        go_ret
        exact ⟨rfl, hbw.trans hw1⟩
      | false =>
        have nx : Hid (∀ (j : Nat) (q : Sp.Rn), j < i + 1 → L[j]? = some q → Z q = false) := fun j q hj hq => by
          rcases Nat.lt_or_ge j i with h | h
          · exact hno.out j q h hq
          · rw [show j = i by omega, hy.out, Option.some.injEq] at hq
            rw [← hq]; exact hd.out
        go_wp2_with (go_at_call 36; refine (HF'.out _).mono ?_; rintro e w1 ⟨rfl, hw1⟩)
        go_roundw
        case rel => exact ⟨i + 1, by omega, by go_num, nx, hbw.trans hw1⟩
        case measure => simp [intOf]; omega
    · have ei : i = n := by omega
      subst ei
      obtain rfl : (-1 : Int) = R := by
        rw [← hR.out]
        exact (Sp.idx_none (fun j q hq => hno.out j q (by have := (List.getElem?_eq_some_iff.1 hq).1; rw [hnn.out] at this; exact this) hq)).symm
      go_wp2
      go_ret
      exact ⟨rfl, hbw⟩

set_option maxRecDepth 100000 in
set_option maxHeartbeats 1000000 in
theorem index_in (s : Sp.Rn) (hs : s.1 + s.2 ≤ 1099511627776) (hk : 1 ≤ s.2) (A : Option Addr) (cap : Nat) (L : List Sp.Rn) (hn : L.length ≤ 1099511627776) (w : World) (ha : RsAt w A L) (hL : ∀ r ∈ L, r.1 + r.2 ≤ 1099511627776) :
    Calls Try.prog 23 #[.slice A L.length cap, .func (.func 30) #[rv s] #[]] w fun e w' => e = .returned (.int .i64 (Sp.idx L (fun r : Sp.Rn => Sp.inB s r))) ∧ Bw w w' := by
  have HF : Hid (∀ r ∈ L, ∀ u, Calls Try.prog 30 #[rv s, rv r] u fun e w' => e = .returned (.bool ((fun r : Sp.Rn => Sp.inB s r) r)) ∧ Bw u w') := fun r h u => isin_any s r hs hk (hL r h) u
  obtain ⟨Z, hZ⟩ : ∃ Z, Hid ((fun r : Sp.Rn => Sp.inB s r) = Z) := ⟨_, rfl⟩
  rw [hZ.out] at HF ⊢
  obtain ⟨R, hR⟩ : ∃ r, Hid (Sp.idx L Z = r) := ⟨_, rfl⟩
  rw [hR.out]
  obtain ⟨n, hnn⟩ : ∃ n, Hid (L.length = n) := ⟨_, rfl⟩
  rw [hnn.out] at hn ⊢
  have HA : Hid (RsAt w A L) := ha
  clear ha
  go_enter Try.func23, Try.ntmps23
  go_wp2
  go_loopw [8] (fun i wr => ∃ k : Nat, k ≤ n ∧ i = .int .i64 (k : Int) ∧ Hid (∀ (j : Nat) (q : Sp.Rn), j < k → L[j]? = some q → Z q = false) ∧ Bw w wr) (fun i _ => n - (intOf i).toNat)
  case atStart => exact ⟨0, Nat.zero_le _, rfl, fun j q hj => absurd hj (Nat.not_lt_zero _), Bw.refl _⟩
  case round =>
    obtain ⟨i, hi, rfl, hno, hbw⟩ := hrel
    have i0 : (0 : Int) ≤ (i : Int) := Int.natCast_nonneg _
    by_cases hlt : i < n
    · have i1 : (i : Int) < (n : Int) := by omega
      obtain ⟨r, hy⟩ : ∃ r, Hid (L[i]? = some r) := ⟨_, List.getElem?_eq_getElem (by rw [hnn.out]; exact hlt)⟩
      obtain ⟨b, off, rfl⟩ : ∃ b off, A = some ⟨b, off, none⟩ := by
        rcases HA.out with h0 | ⟨b, o, e, _⟩
        · rw [h0] at hy; exact absurd hy.out (by simp)
        · exact ⟨b, o, e⟩
      obtain ⟨z0, z1⟩ := (HA.out.keep hbw).at hy.out
      have HF' : Hid (∀ u, Calls Try.prog 30 #[rv s, rv r] u fun e w' => e = .returned (.bool (Z r)) ∧ Bw u w') := fun u => HF.out r (List.mem_of_getElem? hy.out) u
      obtain ⟨d, hd⟩ : ∃ d, Hid (Z r = d) := ⟨_, rfl⟩
      rw [hd.out] at HF'
      cases d with
      | true =>
        obtain rfl : (i : Int) = R := by rw [← hR.out]; exact (Sp.idx_at hy.out hd.out hno.out).symm
        go_wp2_with (go_at_call 30; refine (HF'.out _).mono ?_; rintro e w1 ⟨rfl, hw1⟩)
        go_ret
        exact ⟨rfl, hbw.trans hw1⟩
      | false =>
        have nx : Hid (∀ (j : Nat) (q : Sp.Rn), j < i + 1 → L[j]? = some q → Z q = false) := fun j q hj hq => by
          rcases Nat.lt_or_ge j i with h | h
          · exact hno.out j q h hq
          · rw [show j = i by omega, hy.out, Option.some.injEq] at hq
            rw [← hq]; exact hd.out
        go_wp2_with (go_at_call 30; refine (HF'.out _).mono ?_; rintro e w1 ⟨rfl, hw1⟩)
        go_roundw
        case rel => exact ⟨i + 1, by omega, by go_num, nx, hbw.trans hw1⟩
        case measure => simp [intOf]; omega
    · have ei : i = n := by omega
      subst ei
      obtain rfl : (-1 : Int) = R := by
        rw [← hR.out]
        exact (Sp.idx_none (fun j q hq => hno.out j q (by have := (List.getElem?_eq_some_iff.1 hq).1; rw [hnn.out] at this; exact this) hq)).symm
      go_wp2
      go_ret
      exact ⟨rfl, hbw⟩

set_option maxRecDepth 100000 in
set_option maxHeartbeats 1000000 in
theorem index_meets (s : Sp.Rn) (hs : s.1 + s.2 ≤ 1099511627776) (A : Option Addr) (cap : Nat) (L : List Sp.Rn) (hn : L.length ≤ 1099511627776) (w : World) (ha : RsAt w A L) (hL : ∀ r ∈ L, r.1 + r.2 ≤ 1099511627776) :
    Calls Try.prog 23 #[.slice A L.length cap, .func (.func 33) #[rv s] #[]] w fun e w' => e = .returned (.int .i64 (Sp.idx L (fun r : Sp.Rn => Sp.meetB s r))) ∧ Bw w w' := by
  have HF : Hid (∀ r ∈ L, ∀ u, Calls Try.prog 33 #[rv s, rv r] u fun e w' => e = .returned (.bool ((fun r : Sp.Rn => Sp.meetB s r) r)) ∧ Bw u w') := fun r h u => meets_any s r hs (hL r h) u
  obtain ⟨Z, hZ⟩ : ∃ Z, Hid ((fun r : Sp.Rn => Sp.meetB s r) = Z) := ⟨_, rfl⟩
  rw [hZ.out] at HF ⊢
  obtain ⟨R, hR⟩ : ∃ r, Hid (Sp.idx L Z = r) := ⟨_, rfl⟩
  rw [hR.out]
  obtain ⟨n, hnn⟩ : ∃ n, Hid (L.length = n) := ⟨_, rfl⟩
  rw [hnn.out] at hn ⊢
  have HA : Hid (RsAt w A L) := ha
  clear ha
  go_enter Try.func23, Try.ntmps23
  go_wp2
  go_loopw [8] (fun i wr => ∃ k : Nat, k ≤ n ∧ i = .int .i64 (k : Int) ∧ Hid (∀ (j : Nat) (q : Sp.Rn), j < k → L[j]? = some q → Z q = false) ∧ Bw w wr) (fun i _ => n - (intOf i).toNat)
  case atStart => exact ⟨0, Nat.zero_le _, rfl, fun j q hj => absurd hj (Nat.not_lt_zero _), Bw.refl _⟩
  case round =>
    obtain ⟨i, hi, rfl, hno, hbw⟩ := hrel
    have i0 : (0 : Int) ≤ (i : Int) := Int.natCast_nonneg _
    by_cases hlt : i < n
    · have i1 : (i : Int) < (n : Int) := by omega
      obtain ⟨r, hy⟩ : ∃ r, Hid (L[i]? = some r) := ⟨_, List.getElem?_eq_getElem (by rw [hnn.out]; exact hlt)⟩
      obtain ⟨b, off, rfl⟩ : ∃ b off, A = some ⟨b, off, none⟩ := by
        rcases HA.out with h0 | ⟨b, o, e, _⟩
        · rw [h0] at hy; exact absurd hy.out (by simp)
        · exact ⟨b, o, e⟩
      obtain ⟨z0, z1⟩ := (HA.out.keep hbw).at hy.out
      have HF' : Hid (∀ u, Calls Try.prog 33 #[rv s, rv r] u fun e w' => e = .returned (.bool (Z r)) ∧ Bw u w') := fun u => HF.out r (List.mem_of_getElem? hy.out) u
      obtain ⟨d, hd⟩ : ∃ d, Hid (Z r = d) := ⟨_, rfl⟩
      rw [hd.out] at HF'
      cases d with
      | true =>
        obtain rfl : (i : Int) = R := by rw [← hR.out]; exact (Sp.idx_at hy.out hd.out hno.out).symm
        go_wp2_with (go_at_call 33; refine (HF'.out _).mono ?_; rintro e w1 ⟨rfl, hw1⟩)
        go_ret
        exact ⟨rfl, hbw.trans hw1⟩
      | false =>
        have nx : Hid (∀ (j : Nat) (q : Sp.Rn), j < i + 1 → L[j]? = some q → Z q = false) := fun j q hj hq => by
          rcases Nat.lt_or_ge j i with h | h
          · exact hno.out j q h hq
          · rw [show j = i by omega, hy.out, Option.some.injEq] at hq
            rw [← hq]; exact hd.out
        go_wp2_with (go_at_call 33; refine (HF'.out _).mono ?_; rintro e w1 ⟨rfl, hw1⟩)
        go_roundw
        case rel => exact ⟨i + 1, by omega, by go_num, nx, hbw.trans hw1⟩
        case measure => simp [intOf]; omega
    · have ei : i = n := by omega
      subst ei
      obtain rfl : (-1 : Int) = R := by
        rw [← hR.out]
        exact (Sp.idx_none (fun j q hq => hno.out j q (by have := (List.getElem?_eq_some_iff.1 hq).1; rw [hnn.out] at this; exact this) hq)).symm
      go_wp2
      go_ret
      exact ⟨rfl, hbw⟩
end Go.Proofs.Ytfdfkhmaeeonpaa
