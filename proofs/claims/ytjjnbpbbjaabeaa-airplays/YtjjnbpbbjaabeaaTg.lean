/- Layer 19: Hold, Lose, Carry (written by mktg.py out of tg.base). -/
import Derived.Test.YtjjnbpbbjaabeaaTf
namespace Go.Proofs.Ytjjnbpbbjaabeaa
open Go.RowKit Go.Deep
set_option linter.unusedVariables false
set_option linter.unusedSimpArgs false

theorem step_copyD {w w3 : World} {ops : Array Oper} {o : Oper} {a : Act} {K : Act → World → Prop} {Q : Exit → Act → World → Prop} {E : Prop} (hgd : o.guard = none) (s x : Operand)
    (ho : o.op = .call { callee := .builtin .copy, args := #[s, x], argTypes := #[50, 50] })
    (vs vx : Value) (hs : a.eval s = vs) (hx : a.eval x = vx) (n : Int)
    (hrun : ∀ ty, (Builtin.copy_ #[50, 50] ty #[vs, vx]).run Try.prog w = .ok (goInt n) w3) (h : K (a.put o.dst (goInt n)) w3) :
    if Region.wanted o (yielded ops a.tmps) = true then Oper.wp Try.prog o a w K Q else E := by
  have hw : Region.wanted o (yielded ops a.tmps) = true := by simp [Region.wanted, hgd]
  rw [if_pos hw]
  unfold Oper.wp
  simp [execOp, ho, resolve, invoke, builtin, hs, hx, hrun, Result.andThen]
  exact h
theorem step_store_mid {P : Program} {ops : Array Oper} {o : Oper} {a : Act} {w : World} {K : Act → World → Prop} {Q : Exit → Act → World → Prop} {E : Prop} (hgd : o.guard = none) (ty : TypeId) (x y : Operand) (ho : o.op = .store ty x y)
    (b off : Nat) (cells : Array Value) (hx : a.eval x = .pointer (some ⟨b, off, none⟩)) (hy : a.eval y = .agg cells)
    (ht : w.there b off cells.size) (hi : (P.info? ty).map (·.size) = some cells.size) (h1 : cells.all (·.oneCell') = true)
    (h : K (a.put o.dst undef) (w.setCells b off cells.toList)) : if Region.wanted o (yielded ops a.tmps) = true then Oper.wp P o a w K Q else E := by
  have hw : Region.wanted o (yielded ops a.tmps) = true := by simp [Region.wanted, hgd]
  rw [if_pos hw]
  exact wp_store_mid ty x y ho b off cells hx hy ht hi h1 h
theorem DgAt.range {w : World} {z : Nat} {r : Raw} (h : DgAt w z r.src r.dst r.v) : w.rangeAt z 0 r.cells := fun j v hv => by
  rw [Nat.zero_add, cell_of_row w z j _ _ _ h]
  match j with
  | 0 => cases hv; rfl
  | 1 => cases hv; rfl
  | 2 => cases hv; rfl
  | j + 3 => simp [Raw.cells] at hv
theorem hold_list {α : Type} (E : List α) {k n : Nat} (hn : E.length = n) (hk : k < n) (r : α) : ((E.take k ++ E.drop (k + 1) ++ E.drop (k + (E.drop (k + 1)).length)).set (k + (n - (k + 1))) r) = E.eraseIdx k ++ [r] := by
  rw [List.eraseIdx_eq_take_drop_succ]
  have h1 : (E.take k ++ E.drop (k + 1)).length = k + (n - (k + 1)) := by rw [List.length_append, List.length_take, List.length_drop]; omega
  rw [← h1, List.set_append_right _ _ (Nat.le_refl _), Nat.sub_self]
  congr 1
  rw [List.length_drop, hn]
  obtain ⟨x, hx⟩ : ∃ x, E.drop (k + (n - (k + 1))) = [x] := by
    have hl : (E.drop (k + (n - (k + 1)))).length = 1 := by rw [List.length_drop]; omega
    exact List.length_eq_one_iff.1 hl
  rw [hx]; rfl
theorem hold_len {α : Type} (E : List α) {k n : Nat} (hn : E.length = n) (hk : k < n) : (E.take k ++ E.drop (k + 1) ++ E.drop (k + (E.drop (k + 1)).length)).length = n := by
  simp only [List.length_append, List.length_take, List.length_drop]; omega
set_option maxRecDepth 100000 in
theorem hold_no {w : World} (p : Option Addr) (i : Int) (HH : Calls Try.prog 33 #[.pointer p, .int .i64 i] w fun e w' => e = .returned (.bool false) ∧ w' = w) :
    Calls Try.prog 20 #[.pointer p, .int .i64 i] w fun e w' => e = .returned (.bool false) ∧ w' = w := by
  have H1 : Hid (Calls Try.prog 33 #[.pointer p, .int .i64 i] w fun e w' => e = .returned (.bool false) ∧ w' = w) := HH
  clear HH
  go_enter Try.func20, Try.ntmps20
  go_wp2_with (go_at_call 33; refine H1.out.mono ?_; rintro e w1 ⟨rfl, hw⟩; subst w1)
  go_ret
  exact ⟨rfl, rfl⟩
set_option maxRecDepth 100000 in
set_option maxHeartbeats 4000000 in
theorem hold_yes {w : World} {g : Nat} {v : Value} {gm : Nat} {E : List Raw} {S : Ai.St} (h : AirX w g v gm E S) {k : Nat} (hk : k < S.L.length) :
    Calls Try.prog 20 #[.pointer (some ⟨g, 0, none⟩), .int .i64 (k : Int)] w fun e w' => ∃ E', e = .returned (.bool true) ∧ AirX w' g v gm E' (S.hold (k : Int)) ∧ (∀ Q : Nat → Prop, EIn Q E → EIn Q E') ∧ Bx (fun b => v.ownBlock = some b) w w' := by
  have HAny := has_any h (k : Int)
  rw [Ai.has_of hk] at HAny
  have HH1 : Hid (Calls Try.prog 33 #[.pointer (some ⟨g, 0, none⟩), .int .i64 (k : Int)] w fun e w' => e = .returned (.bool true) ∧ w' = w) := HAny
  clear HAny
  obtain ⟨r, d, hr, hd, e1, e2, hrow⟩ := h.dgs.get hk
  have hre : r ∈ E := List.mem_of_getElem? hr
  have hd' : S.L[k] = d := by rw [List.getElem?_eq_getElem hk] at hd; exact Option.some.inj hd
  have hat : S.at (k : Int) = d := by rw [Ai.at_of hk, hd']
  have hhold : S.hold (k : Int) = { S with L := S.L.eraseIdx k ++ [d] } := by unfold Ai.St.hold; rw [if_pos (Ai.has_of hk), hat, Int.toNat_natCast]
  have hok : ({ S with L := S.L.eraseIdx k ++ [d] } : Ai.St).Ok := by rw [← hhold]; exact Ai.hold_ok h.ok _
  have hdg : DgsV w (E.eraseIdx k ++ [r]) (S.L.eraseIdx k ++ [d]) := (h.dgs.erase k).append (DgsV.one e1 e2 hrow)
  have hQ : ∀ Q : Nat → Prop, EIn Q E → EIn Q (E.eraseIdx k ++ [r]) := fun Q hE => (hE.erase k).append (EIn.one (hE r hre))
  rw [hhold]
  have ho := dg_oneCell hrow
  have hones := h.dgs.cellOne
  obtain ⟨ub, uc, rfl, hB⟩ := h.und.pos (by rw [h.len]; omega)
  have hkE : k < E.length := by rw [h.len]; exact hk
  have hgu : g ≠ ub := fun e => h.nev (by rw [e]; rfl)
  obtain ⟨n, hn⟩ : ∃ n, Hid (E.length = n) := ⟨_, rfl⟩
  obtain ⟨z, hz⟩ : ∃ z, Hid (w.heap.size = z) := ⟨_, rfl⟩
  have hzu : z ≠ ub := fun e => by have h1 := hB.lt; rw [← hz.out] at e; omega
  have hcap : Hid (n ≤ uc ∧ uc ≤ maxLen) := ⟨by rw [← hn.out]; exact hB.le, hB.cap⟩
  rw [hn.out] at hkE
  obtain ⟨k0, k1⟩ := bnd hkE
  have c1 : w.cell? ⟨g, 1, none⟩ = some (.slice (some ⟨ub, 0, none⟩) E.length uc) := h.c1
  rw [hn.out] at c1
  obtain ⟨W1, hW1⟩ : ∃ W, Hid (w.alloc (.cells #[.int .i64 0, .int .i64 0, .slice none 0 0] 35) = W) := ⟨_, rfl⟩
  have kW : Bw w W1 := by rw [← hW1.out]; exact bw_allocx (Bw.refl _)
  have hD : DgAt W1 z 0 0 (.slice none 0 0) := by rw [← hW1.out, ← hz.out]; exact heap_alloc_new _ _
  have kW2 : Bw w (W1.setRow z (dcs r.src r.dst r.v)) := bw_setRow kW (Nat.le_of_eq hz.out) _
  have hD2 : DgAt (W1.setRow z (dcs r.src r.dst r.v)) z r.src r.dst r.v := setRow_heap _ _ _ _ _ _ hD
  obtain ⟨W2, hW2⟩ : ∃ W, Hid (W1.setRow z (dcs r.src r.dst r.v) = W) := ⟨_, rfl⟩
  rw [hW2.out] at kW2 hD2
  have hR := hB.range hr
  have HX : Hid (AirX w g (.slice (some ⟨ub, 0, none⟩) E.length uc) gm E S) := h
  have HB : Hid (DB w ub uc E) := hB
  have hmin : Hid ((E.drop (k + 1)).length = Nat.min (n - (k + 1)) (n - k)) := by
    refine (?_ : _ = _)
    rw [List.length_drop, hn.out]
    exact (Nat.min_eq_left (by omega)).symm
  obtain ⟨A2, hA2⟩ : ∃ A2, Hid ((if uc = k + 1 then some (⟨ub, 0, none⟩ : Addr) else some ⟨ub, (k + 1) * 3, none⟩) = some A2) := by
    by_cases e : uc = k + 1
    · exact ⟨_, by show _ = _; rw [if_pos e]⟩
    · exact ⟨_, by show _ = _; rw [if_neg e]⟩
  have hsrc : DsAt (W2.drewN 1) (some A2) (E.drop (k + 1)) := by
    by_cases e : uc = k + 1
    · exact .inl (List.drop_eq_nil_of_le (by have h1 := hn.out; have h2 := hcap.out.1; omega))
    · have h1 := hA2.out
      rw [if_neg e] at h1
      rw [← h1]
      exact ((hB.keep kW2).keep (Bw.drewN W2 1)).src (k + 1)
  have hwr : Hid (IntKind.i64.wrap ((k : Int) + 1) = (k : Int) + 1) := by
    refine (?_ : _ = _)
    have h2 := hcap.out
    unfold maxLen at h2
    rw [IntKind.wrap_i64]; omega
  obtain ⟨w3, hcp, hB3, hX3⟩ := copyD ((hB.keep kW2).keep (Bw.drewN W2 1)) (o := k) (V := E.drop (k + 1)) (by have := hn.out; omega) (by have h1 := hn.out; have h2 := hcap.out.1; rw [List.length_drop]; omega) hsrc (fun x hx => hones x (List.mem_of_mem_drop hx)) (n - k) (uc - k) (n - (k + 1)) (uc - (k + 1)) hmin.out
  have HCP : Hid (∀ ty, (Builtin.copy_ #[50, 50] ty #[.slice (some ⟨ub, k * 3, none⟩) (n - k) (uc - k), .slice (some A2) (n - (k + 1)) (uc - (k + 1))]).run Try.prog (W2.drewN 1) = .ok (goInt (E.drop (k + 1)).length) w3) := hcp
  have c5 : w3.cell? ⟨g, 1, none⟩ = some (.slice (some ⟨ub, 0, none⟩) n uc) := by
    have h1 : (W2.drewN 1).cell? ⟨g, 1, none⟩ = some (.slice (some ⟨ub, 0, none⟩) n uc) := ((kW2.trans (Bw.drewN W2 1)).cell (p := ⟨g, 1, none⟩) (block_lt_of_cell c1)).trans c1
    rw [World.cell?_of_block (w := W2.drewN 1) (a := ⟨g, 1, none⟩) (hX3.block g (block_lt_of_cell h1) (fun e => hgu e))]
    exact h1
  have hcN : Hid (uc ≤ maxLen) := hcap.out.2
  have hcU : n ≤ uc := hcap.out.1
  have hk1 : k + 1 ≤ n := hkE
  clear h hB hr hd hd' hat hhold hrow hk hcp
  go_enter Try.func20, Try.ntmps20
  go_upto_region 4 with (first
    | (go_at_call 33; refine HH1.out.mono ?_; rintro e w2 ⟨rfl, hw⟩; subst w2)
    | refine wpList_load_mid rfl 35 _ rfl ub (k * 3) (by rfl) r.cells _ hR Try.underlying35 rfl (dg_info _ _ r.v) ?_
    | (rw [hW1.out, hz.out]; refine wpList_store_row rfl 35 _ _ rfl z (dcs r.src r.dst r.v) rfl rfl 35 _ hD (dg_info _ _ _) rfl (dg_all _ _ ho).out ?_; rw [hW2.out]))
  simp only [Act.put]
  have c4 : (W2.drewN 1).cell? ⟨g, 1, none⟩ = some (.slice (some ⟨ub, 0, none⟩) n uc) := ((kW2.trans (Bw.drewN W2 1)).cell (p := ⟨g, 1, none⟩) (block_lt_of_cell c1)).trans c1
  refine wp_region_held_drew (S := fun w' => w'.cell? ⟨g, 1, none⟩ = some (.slice (some ⟨ub, 0, none⟩) n uc)) (by kernel_rfl) (c4) (fun hHeld => ?_)
  refine wpAnyH_take (i := 0) (v := ?_) rfl (by kernel_rfl) (by kernel_rfl) (by kernel_rfl) (fun _ _ _ h => h) (Or.inl ⟨by rfl, ?_⟩) (by assumption) ?_
  rotate_left
  · intro w hSw; (try dsimp only at hSw); go_simp; all_goals (with_reducible rfl)
  try simp only [Act.put, List.setIfInBounds_toArray, List.set_cons_zero, List.set_cons_succ, List.getElem_toArray, List.getElem_cons_succ, List.getElem_cons_zero]
  refine wpAnyH_take (i := 1) (v := ?_) rfl (by kernel_rfl) (by kernel_rfl) (by kernel_rfl) (fun _ _ _ h => h) (Or.inl ⟨by rfl, ?_⟩) (by assumption) ?_
  rotate_left
  · intro w hSw; (try dsimp only at hSw); go_simp; all_goals (with_reducible rfl)
  try simp only [Act.put, List.setIfInBounds_toArray, List.set_cons_zero, List.set_cons_succ, List.getElem_toArray, List.getElem_cons_succ, List.getElem_cons_zero]
  refine wpAnyH_take (i := 2) (v := ?_) rfl (by kernel_rfl) (by kernel_rfl) (by kernel_rfl) (fun _ _ _ h => h) (Or.inl ⟨by rfl, ?_⟩) (by assumption) ?_
  rotate_left
  · intro w hSw; (try dsimp only at hSw); go_simp; all_goals (with_reducible rfl)
  try simp only [Act.put, List.setIfInBounds_toArray, List.set_cons_zero, List.set_cons_succ, List.getElem_toArray, List.getElem_cons_succ, List.getElem_cons_zero]
  refine wpAnyH_take (i := 3) (v := ?_) rfl (by kernel_rfl) (by kernel_rfl) (by kernel_rfl) (fun _ _ _ h => h) (Or.inl ⟨by rfl, ?_⟩) (by assumption) ?_
  rotate_left
  · intro w hSw; (try dsimp only at hSw); go_simp; all_goals (with_reducible rfl)
  try simp only [Act.put, List.setIfInBounds_toArray, List.set_cons_zero, List.set_cons_succ, List.getElem_toArray, List.getElem_cons_succ, List.getElem_cons_zero]
  refine wpAnyH_take (i := 4) (v := ?_) rfl (by kernel_rfl) (by kernel_rfl) (by kernel_rfl) (fun _ _ _ h => h) (Or.inl ⟨by rfl, ?_⟩) (by assumption) ?_
  rotate_left
  · intro w hSw; (try dsimp only at hSw); go_simp; all_goals (with_reducible rfl)
  try simp only [Act.put, List.setIfInBounds_toArray, List.set_cons_zero, List.set_cons_succ, List.getElem_toArray, List.getElem_cons_succ, List.getElem_cons_zero]
  refine wpAnyH_take (i := 5) (v := .slice (some ⟨ub, k * 3, none⟩) (n - k) (uc - k)) rfl (by kernel_rfl) (by kernel_rfl) (by kernel_rfl) (fun _ _ _ h => h) (Or.inl ⟨by rfl, ?_⟩) (by assumption) ?_
  · intro w hSw; clear hSw; go_simp; rw [if_pos (Nat.le_of_lt hkE), if_neg (by omega)]
  try simp only [Act.put, List.setIfInBounds_toArray, List.set_cons_zero, List.set_cons_succ, List.getElem_toArray, List.getElem_cons_succ, List.getElem_cons_zero]
  refine wpAnyH_take (i := 6) (v := ?_) rfl (by kernel_rfl) (by kernel_rfl) (by kernel_rfl) (fun _ _ _ h => h) (Or.inl ⟨by rfl, ?_⟩) (by assumption) ?_
  rotate_left
  · intro w hSw; (try dsimp only at hSw); go_simp; all_goals (with_reducible rfl)
  try simp only [Act.put, List.setIfInBounds_toArray, List.set_cons_zero, List.set_cons_succ, List.getElem_toArray, List.getElem_cons_succ, List.getElem_cons_zero]
  refine wpAnyH_take (i := 7) (v := ?_) rfl (by kernel_rfl) (by kernel_rfl) (by kernel_rfl) (fun _ _ _ h => h) (Or.inl ⟨by rfl, ?_⟩) (by assumption) ?_
  rotate_left
  · intro w hSw; (try dsimp only at hSw); go_simp; all_goals (with_reducible rfl)
  try simp only [Act.put, List.setIfInBounds_toArray, List.set_cons_zero, List.set_cons_succ, List.getElem_toArray, List.getElem_cons_succ, List.getElem_cons_zero]
  refine wpAnyH_take (i := 8) (v := ?_) rfl (by kernel_rfl) (by kernel_rfl) (by kernel_rfl) (fun _ _ _ h => h) (Or.inl ⟨by rfl, ?_⟩) (by assumption) ?_
  rotate_left
  · intro w hSw; (try dsimp only at hSw); go_simp; all_goals (with_reducible rfl)
  try simp only [Act.put, List.setIfInBounds_toArray, List.set_cons_zero, List.set_cons_succ, List.getElem_toArray, List.getElem_cons_succ, List.getElem_cons_zero]
  refine wpAnyH_take (i := 9) (v := ?_) rfl (by kernel_rfl) (by kernel_rfl) (by kernel_rfl) (fun _ _ _ h => h) (Or.inl ⟨by rfl, ?_⟩) (by assumption) ?_
  rotate_left
  · intro w hSw; (try dsimp only at hSw); go_simp; all_goals (with_reducible rfl)
  try simp only [Act.put, List.setIfInBounds_toArray, List.set_cons_zero, List.set_cons_succ, List.getElem_toArray, List.getElem_cons_succ, List.getElem_cons_zero]
  refine wpAnyH_take (i := 10) (v := ?_) rfl (by kernel_rfl) (by kernel_rfl) (by kernel_rfl) (fun _ _ _ h => h) (Or.inl ⟨by rfl, ?_⟩) (by assumption) ?_
  rotate_left
  · intro w hSw; (try dsimp only at hSw); go_simp; all_goals (with_reducible rfl)
  try simp only [Act.put, List.setIfInBounds_toArray, List.set_cons_zero, List.set_cons_succ, List.getElem_toArray, List.getElem_cons_succ, List.getElem_cons_zero]
  refine wpAnyH_take (i := 11) (v := .int .i64 ((k : Int) + 1)) rfl (by kernel_rfl) (by kernel_rfl) (by kernel_rfl) (fun _ _ _ h => h) (Or.inl ⟨by rfl, ?_⟩) (by assumption) ?_
  · intro w hSw; clear hSw; go_simp; rw [hwr.out]
  try simp only [Act.put, List.setIfInBounds_toArray, List.set_cons_zero, List.set_cons_succ, List.getElem_toArray, List.getElem_cons_succ, List.getElem_cons_zero]
  refine wpAnyH_take (i := 12) (v := .slice (some A2) (n - (k + 1)) (uc - (k + 1))) rfl (by kernel_rfl) (by kernel_rfl) (by kernel_rfl) (fun _ _ _ h => h) (Or.inl ⟨by rfl, ?_⟩) (by assumption) ?_
  · intro w hSw; clear hSw; go_simp; rw [if_pos ⟨by omega, by omega⟩, hA2.out]
  try simp only [Act.put, List.setIfInBounds_toArray, List.set_cons_zero, List.set_cons_succ, List.getElem_toArray, List.getElem_cons_succ, List.getElem_cons_zero]
  refine wpAnyH_ready (rs := [13]) (by kernel_rfl) (by simp) ?_
  refine AllReadyH.cons rfl (fun K hK => ?_) AllReadyH.nil
  refine step_copyD (by rfl) (.tmp 23) (.tmp 30) (by rfl) _ _ (by rfl) (by rfl) _ HCP.out ?_
  refine hK.out _ _ c5 (fun hHeld => ?_)
  clear hK K
  try simp only [Act.put, List.setIfInBounds_toArray, List.set_cons_zero, List.set_cons_succ, List.getElem_toArray, List.getElem_cons_succ, List.getElem_cons_zero]
  refine wpAnyH_take (i := 14) (v := ?_) rfl (by kernel_rfl) (by kernel_rfl) (by kernel_rfl) (fun _ _ _ h => h) (Or.inl ⟨by rfl, ?_⟩) (by assumption) ?_
  rotate_left
  · intro w hSw; (try dsimp only at hSw); go_simp; all_goals (with_reducible rfl)
  try simp only [Act.put, List.setIfInBounds_toArray, List.set_cons_zero, List.set_cons_succ, List.getElem_toArray, List.getElem_cons_succ, List.getElem_cons_zero]
  refine wpAnyH_done (by kernel_rfl) ?_ _
  go_wp2_with fail
  rw [hn.out]
  obtain ⟨q, hq⟩ : ∃ q, Hid (n - (k + 1) = q) := ⟨_, rfl⟩
  have hkq : k + q + 1 = n := by have := hq.out; omega
  have hwq : Hid (IntKind.i64.wrap ((k : Int) + (q : Int)) = (k : Int) + (q : Int)) := by
    refine (?_ : _ = _)
    have h2 := hcap.out
    unfold maxLen at h2
    rw [IntKind.wrap_i64]; omega
  rw [hq.out]
  have q0 : (0 : Int) ≤ (k : Int) + (q : Int) := by omega
  have q1 : (k : Int) + (q : Int) < (n : Int) := by omega
  have hB6 := hB3.keep (Bw.drewN w3 1)
  have hL6 := hold_len E hn.out hkE
  have hth7 : Hid ((w3.drewN 1).there ub ((k + q) * 3) 3) := hB6.there (by rw [hL6]; omega)
  have c6 : (w3.drewN 1).cell? ⟨g, 1, none⟩ = some (.slice (some ⟨ub, 0, none⟩) n uc) := c5
  have hR6 : (w3.drewN 1).rangeAt z 0 r.cells := by
    have h3 : DgAt w3 z r.src r.dst r.v := (hX3.block z (Array.getElem?_eq_some_iff.1 (show (W2.drewN 1).heap[z]? = _ from hD2)).1 (fun e => hzu e)).trans hD2
    exact DgAt.range (show DgAt (w3.drewN 1) z r.src r.dst r.v from h3)
  obtain ⟨hB7, hX7⟩ := hB6.put (by rw [hL6]; omega : k + q < _) r
  have c7 : ((w3.drewN 1).setCells ub ((k + q) * 3) r.cells).cell? ⟨g, 1, none⟩ = some (.slice (some ⟨ub, 0, none⟩) n uc) := by
    rw [World.cell?_of_block (w := w3.drewN 1) (a := ⟨g, 1, none⟩) (hX7.block g (block_lt_of_cell c6) (fun e => hgu e))]
    exact c6
  have hR7 : ((w3.drewN 1).setCells ub ((k + q) * 3) r.cells).rangeAt z 0 r.cells := by
    have h3 : DgAt (w3.drewN 1) z r.src r.dst r.v := (hX3.block z (Array.getElem?_eq_some_iff.1 (show (W2.drewN 1).heap[z]? = _ from hD2)).1 (fun e => hzu e)).trans hD2
    exact DgAt.range (show DgAt _ z r.src r.dst r.v from (hX7.block z (Array.getElem?_eq_some_iff.1 h3).1 (fun e => hzu e)).trans h3)
  refine wp_region_held_drew (S := fun w' => w'.cell? ⟨g, 1, none⟩ = some (.slice (some ⟨ub, 0, none⟩) n uc) ∧ w'.rangeAt z 0 r.cells) (by kernel_rfl) (⟨c6, hR6⟩) (fun hHeld => ?_)
  refine wpAnyH_take (i := 0) (v := ?_) rfl (by kernel_rfl) (by kernel_rfl) (by kernel_rfl) (fun _ _ _ h => h) (Or.inl ⟨by rfl, ?_⟩) (by assumption) ?_
  rotate_left
  · intro w hSw; (try dsimp only at hSw); go_simp; all_goals (with_reducible rfl)
  try simp only [Act.put, List.setIfInBounds_toArray, List.set_cons_zero, List.set_cons_succ, List.getElem_toArray, List.getElem_cons_succ, List.getElem_cons_zero]
  refine wpAnyH_take (i := 1) (v := ?_) rfl (by kernel_rfl) (by kernel_rfl) (by kernel_rfl) (fun _ _ _ h => h) (Or.inl ⟨by rfl, ?_⟩) (by assumption) ?_
  rotate_left
  · intro w hSw; (try dsimp only at hSw); go_simp; all_goals (with_reducible rfl)
  try simp only [Act.put, List.setIfInBounds_toArray, List.set_cons_zero, List.set_cons_succ, List.getElem_toArray, List.getElem_cons_succ, List.getElem_cons_zero]
  refine wpAnyH_take (i := 2) (v := ?_) rfl (by kernel_rfl) (by kernel_rfl) (by kernel_rfl) (fun _ _ _ h => h) (Or.inl ⟨by rfl, ?_⟩) (by assumption) ?_
  rotate_left
  · intro w hSw; (try dsimp only at hSw); go_simp; all_goals (with_reducible rfl)
  try simp only [Act.put, List.setIfInBounds_toArray, List.set_cons_zero, List.set_cons_succ, List.getElem_toArray, List.getElem_cons_succ, List.getElem_cons_zero]
  refine wpAnyH_take (i := 3) (v := ?_) rfl (by kernel_rfl) (by kernel_rfl) (by kernel_rfl) (fun _ _ _ h => h) (Or.inl ⟨by rfl, ?_⟩) (by assumption) ?_
  rotate_left
  · intro w hSw; (try dsimp only at hSw); replace hSw := hSw.1; go_simp; all_goals (with_reducible rfl)
  try simp only [Act.put, List.setIfInBounds_toArray, List.set_cons_zero, List.set_cons_succ, List.getElem_toArray, List.getElem_cons_succ, List.getElem_cons_zero]
  refine wpAnyH_take (i := 4) (v := ?_) rfl (by kernel_rfl) (by kernel_rfl) (by kernel_rfl) (fun _ _ _ h => h) (Or.inl ⟨by rfl, ?_⟩) (by assumption) ?_
  rotate_left
  · intro w hSw; (try dsimp only at hSw); go_simp; all_goals (with_reducible rfl)
  try simp only [Act.put, List.setIfInBounds_toArray, List.set_cons_zero, List.set_cons_succ, List.getElem_toArray, List.getElem_cons_succ, List.getElem_cons_zero]
  refine wpAnyH_take (i := 5) (v := ?_) rfl (by kernel_rfl) (by kernel_rfl) (by kernel_rfl) (fun _ _ _ h => h) (Or.inl ⟨by rfl, ?_⟩) (by assumption) ?_
  rotate_left
  · intro w hSw; (try dsimp only at hSw); go_simp; all_goals (with_reducible rfl)
  try simp only [Act.put, List.setIfInBounds_toArray, List.set_cons_zero, List.set_cons_succ, List.getElem_toArray, List.getElem_cons_succ, List.getElem_cons_zero]
  refine wpAnyH_take (i := 6) (v := .int .i64 ((k : Int) + (q : Int))) rfl (by kernel_rfl) (by kernel_rfl) (by kernel_rfl) (fun _ _ _ h => h) (Or.inl ⟨by rfl, ?_⟩) (by assumption) ?_
  · intro w hSw; clear hSw; go_simp; first | rfl | rw [hwq.out]
  try simp only [Act.put, List.setIfInBounds_toArray, List.set_cons_zero, List.set_cons_succ, List.getElem_toArray, List.getElem_cons_succ, List.getElem_cons_zero]
  refine wpAnyH_take (i := 7) rfl (by kernel_rfl) (by kernel_rfl) (by kernel_rfl) (fun _ _ _ h => h) (yieldsIf_load_mid (by rfl) 35 _ (by rfl) z 0 (by rfl) r.cells _ (fun _ h => h.2) Try.underlying35 rfl (dg_info _ _ r.v)) (by assumption) ?_
  try simp only [Act.put, List.setIfInBounds_toArray, List.set_cons_zero, List.set_cons_succ, List.getElem_toArray, List.getElem_cons_succ, List.getElem_cons_zero]
  refine wpAnyH_take (i := 8) (v := .pointer (some ⟨ub, (k + q) * 3, none⟩)) rfl (by kernel_rfl) (by kernel_rfl) (by kernel_rfl) (fun _ _ _ h => h) (Or.inl ⟨by rfl, ?_⟩) (by assumption) ?_
  · intro w hSw; clear hSw; go_simp; try rfl
  try simp only [Act.put, List.setIfInBounds_toArray, List.set_cons_zero, List.set_cons_succ, List.getElem_toArray, List.getElem_cons_succ, List.getElem_cons_zero]
  refine wpAnyH_ready (rs := [9]) (by kernel_rfl) (by simp) ?_
  refine AllReadyH.cons rfl (fun K hK => ?_) AllReadyH.nil
  refine step_store_mid (by rfl) 35 _ _ (by rfl) ub ((k + q) * 3) r.cells.toArray (by rfl) (by rfl) hth7.out (dg_info _ _ r.v) (dg_all _ _ ho).out ?_
  refine hK.out _ _ ⟨c7, hR7⟩ (fun hHeld => ?_)
  clear hK K
  try simp only [Act.put, List.setIfInBounds_toArray, List.set_cons_zero, List.set_cons_succ, List.getElem_toArray, List.getElem_cons_succ, List.getElem_cons_zero]
  refine wpAnyH_done (by kernel_rfl) ?_ _
  go_wp2_with fail
  go_ret
  have e7 : q = n - (k + 1) := hq.out.symm
  rw [e7, hold_list E hn.out hkE r, ← e7] at hB7
  have hX : Bx (· = ub) w ((w3.drewN 1).setCells ub ((k + q) * 3) r.cells) := (Bx.of_bw (kW2.trans (Bw.drewN W2 1))).trans (hX3.trans ((Bx.of_bw (Bw.drewN w3 1)).trans hX7))
  have hXA := HX.out
  have hne : EIn (fun b => ¬ b = ub) E := hXA.sep.mono (fun b hb e => hb (.inr (.inr (by rw [e]; rfl))))
  have hlen : E.length = (E.eraseIdx k ++ [r]).length := by
    have h1 := hn.out
    rw [List.length_append, List.length_eraseIdx, if_pos (by omega)]
    simp only [List.length_cons, List.length_nil]; omega
  refine ⟨rfl, E.eraseIdx k ++ [r], ⟨(hX.block g hXA.lt hgu).trans hXA.cells, .inr ⟨ub, uc, by rw [← hlen], hB7⟩, hdg.keepx hX (hQ _ hne), hXA.map.keepx hX (fun e => hXA.nevm (by rw [e]; rfl)), hok, hQ _ hXA.sep⟩, hQ, hX.more (fun b hb => by rw [hb]; rfl)⟩
end Go.Proofs.Ytjjnbpbbjaabeaa
