/- Layer 14: the document's own New. -/
import Derived.Test.YtppknadflmjefaaCH
namespace Go.Proofs.Ytppknadflmjefaa
open Go.RowKit Go.Deep Go.Maps
set_option linter.unusedVariables false
set_option linter.unusedSimpArgs false

/-- cells of a new disk -/
def cells3 (LV : Nat → Value) : Nat → List Value
  | 0 => []
  | q + 1 => cells3 LV q ++ [LV q, .slice none 0 0, .bool false]
theorem cells3_len (LV : Nat → Value) : ∀ q, (cells3 LV q).length = q * 3
  | 0 => rfl
  | q + 1 => by rw [cells3, List.length_append, cells3_len LV q]; simp only [List.length_cons, List.length_nil]; omega
theorem cells3_at (LV : Nat → Value) : ∀ (q s : Nat), s < q → (cells3 LV q)[s * 3]? = some (LV s) ∧ (cells3 LV q)[s * 3 + 1]? = some (.slice none 0 0) ∧ (cells3 LV q)[s * 3 + 2]? = some (.bool false)
  | 0, s, h => by omega
  | q + 1, s, h => by
    rw [cells3]
    by_cases e : s = q
    · subst e
      have hl := cells3_len LV s
      refine ⟨?_, ?_, ?_⟩ <;> rw [List.getElem?_append_right (by omega), hl]
      · rw [Nat.sub_self]; rfl
      · rw [show s * 3 + 1 - s * 3 = 1 by omega]; rfl
      · rw [show s * 3 + 2 - s * 3 = 2 by omega]; rfl
    · have hl := cells3_len LV q
      have ih := cells3_at LV q s (by omega)
      rw [List.getElem?_append_left (by omega), List.getElem?_append_left (by omega), List.getElem?_append_left (by omega)]
      exact ih
theorem cells3_congr {LV LV' : Nat → Value} : ∀ {q : Nat}, (∀ s, s < q → LV' s = LV s) → cells3 LV' q = cells3 LV q
  | 0, _ => rfl
  | q + 1, h => by rw [cells3, cells3, cells3_congr (fun s hs => h s (by omega)), h q (by omega)]
theorem info_cell14 : (Try.prog.info? 68).map (fun i => (i.zero, i.size, i.bytes)) = some (some (.agg #[.slice none 0 0, .slice none 0 0, .bool false]), 3, 56) := by kernel_rfl
/-- one cell more at a step of a drawn region -/
theorem step_cell {w : World} {ops : Array Oper} {o : Oper} {a : Act} {K : Act → World → Prop} {Q : Exit → Act → World → Prop} {E : Prop} (hgd : o.guard = none) (s x : Operand)
    (ho : o.op = .call { callee := .builtin .append, args := #[s, x], argTypes := #[64, 64] }) (base : Nat) (v : Value) (n : Nat) (LV : Nat → Value) (hs : a.eval s = v) (hown : w.ownsRow base 68 3 v n (cells3 LV n)) (b3 : Nat) (hx : a.eval x = .slice (some ⟨b3, 0, none⟩) 1 1) (l : Value) (hl : l.oneCell' = true) (hb3 : Cell3 w b3 l (.slice none 0 0) false) (hn : n ≤ 65536) (hb : base ≤ w.heap.size)
    (hh : ∀ v' w', w'.ownsRow base 68 3 v' (n + 1) (cells3 (fun t => if t = n then l else LV t) (n + 1)) → v' ≠ .slice none 0 0 → w.grownBy w' v.ownBlock → K (a.put o.dst v') w') :
    if Region.wanted o (yielded ops a.tmps) = true then Oper.wp Try.prog o a w K Q else E := by
  have hw : Region.wanted o (yielded ops a.tmps) = true := by simp [Region.wanted, hgd]
  rw [if_pos hw]
  obtain ⟨i0, hi0, hz0, hz1, hz2⟩ := info_parts info_cell14
  have hnews : ∀ j u, ([l, .slice none 0 0, .bool false] : List Value)[j]? = some u → w.cell? ((⟨b3, 0, none⟩ : Addr).add j) = some u := World.news_of_block (cs := #[l, .slice none 0 0, .bool false]) hb3
  obtain ⟨v', w', hrun, hown', hg, hnn⟩ := run_append_own (P := Try.prog) w base 64 o.type 68 i0 _ 3 56 Try.underlying64 hi0 hz0 hz1 hz2 rfl (by decide) v n _ hown ⟨b3, 0, none⟩ 1 1 [l, .slice none 0 0, .bool false] rfl hnews (fun u hu => by
    rcases List.mem_cons.1 hu with rfl | hu
    · exact hl
    · rcases List.mem_cons.1 hu with rfl | hu
      · rfl
      · rcases List.mem_cons.1 hu with rfl | hu
        · rfl
        · cases hu) (by unfold maxLen; omega) (by omega) hb
  unfold Oper.wp execOp
  simp only [ho, resolve, invoke, builtin, Sem.run_bind, Sem.run_pure, Result.andThen_ok, List.map_toArray, List.map_cons, List.map_nil, hs, hx, hrun]
  refine hh v' w' ?_ ?_ hg
  · rw [cells3, if_pos rfl, cells3_congr (LV := LV) (fun s hs => if_neg (by omega))]
    exact hown'
  · intro e
    rw [e] at hown'
    rcases hown'.2 with ⟨_, h0⟩ | ⟨g, cap, cur, e', _⟩
    · omega
    · cases e'
theorem rnew_no (x : Int) (hx : ¬ (1 ≤ x ∧ x ≤ 65536)) (w : World) :
    Calls Try.prog 11 #[.int .i64 x] w fun e w' => e = .returned (.tuple #[.pointer none, .int .i64 (if x < 1 then 1 else 2)]) ∧ w' = w := by
  by_cases h1 : x < 1
  · rw [if_pos h1]
    clear hx
    go_enter Try.func11, Try.ntmps11
    go_wp2
    go_ret2
    exact ⟨rfl, rfl⟩
  · rw [if_neg h1]
    have h2 : 65536 < x := by omega
    clear hx
    go_enter Try.func11, Try.ntmps11
    go_wp2
    go_ret2
    exact ⟨rfl, rfl⟩
theorem own_keepx14 {P : Nat → Prop} {w w' : World} {base e sz n b c : Nat} {xs : List Value} (h : w.ownsRow base e sz (.slice (some ⟨b, 0, none⟩) n c) n xs) (k : Bx P w w') (hP : ¬ P b) : w'.ownsRow base e sz (.slice (some ⟨b, 0, none⟩) n c) n xs := by
  refine ⟨h.1, ?_⟩
  rcases h.2 with h0 | ⟨g, cap, cur, he, hb, hc, hr⟩
  · exact .inl h0
  · have : g = b := by injection he with h1 _ _; injection h1 with h1; injection h1 with h1; exact h1.symm
    subst this
    exact .inr ⟨g, cap, cur, he, hb, (k.block g (Array.getElem?_eq_some_iff.1 hc).1 hP).trans hc, hr⟩
theorem bx_grown {w w' : World} {r : Option Nat} (h : w.grownBy w' r) : Bx (fun b => r = some b) w w' := ⟨h.os, h.tape, h.output, h.size, fun b hb hne => h.block b hb (fun e => hne e.symm)⟩
theorem own_nou {w : World} {base n : Nat} {v : Value} {xs : List Value} (h : w.ownsRow base 68 3 v n xs) : NoU w (fun b => v.ownBlock = some b) := fun b hb cur fr e => by
  rcases h.2 with ⟨rfl, _⟩ | ⟨g, cap, cur', rfl, _, hc, _⟩
  · cases hb
  · have hb' : g = b := by simpa [Value.ownBlock] using hb
    subst hb'
    rw [hc] at e
    simp only [Option.some.injEq, Obj.cells.injEq] at e
    exact absurd e.2.1 (by decide)
/-- a disk of q cells so far -/
def NewAt (w : World) (base g q : Nat) (v : Value) (LV : Nat → Value) : Prop := w.heap[g]? = some (.cells #[v, .bool false, .int .i64 (-1)] 66 (0, 0)) ∧ w.ownsRow base 68 3 v q (cells3 LV q) ∧ ∀ s, s < q → RowU w (LV s) (fun _ => 0)
theorem new_more {w wr w2 V : World} {g q n cb2 cap2 : Nat} {v : Value} {LV : Nat → Value} {M : Array Value} (hg : w.heap.size = g) (hb : Bw w wr) (hsz : w.heap.size + 1 ≤ wr.heap.size) (hrows : ∀ s, s < q → RowU wr (LV s) (fun _ => 0))
    (htop : wr.heap[g]? = some (.cells #[v, .bool false, .int .i64 (-1)] 66 (0, 0)))
    (hown3 : ((wr.drew.alloc (.cells M 5)).alloc (.cells #[.slice (some ⟨wr.heap.size, 0, none⟩) 64 64, .slice none 0 0, .bool false] 68)).ownsRow (w.heap.size + 1) 68 3 v q (cells3 LV q))
    (hx2 : Bx (fun b => v.ownBlock = some b) ((wr.drew.alloc (.cells M 5)).alloc (.cells #[.slice (some ⟨wr.heap.size, 0, none⟩) 64 64, .slice none 0 0, .bool false] 68)) w2)
    (b3 : Bw wr ((wr.drew.alloc (.cells M 5)).alloc (.cells #[.slice (some ⟨wr.heap.size, 0, none⟩) 64 64, .slice none 0 0, .bool false] 68)))
    (hg2 : ((wr.drew.alloc (.cells M 5)).alloc (.cells #[.slice (some ⟨wr.heap.size, 0, none⟩) 64 64, .slice none 0 0, .bool false] 68)).grownBy w2 v.ownBlock)
    (hown2 : w2.ownsRow (w.heap.size + 1) 68 3 (.slice (some ⟨cb2, 0, none⟩) (q + 1) cap2) (q + 1) (cells3 (fun t => if t = q then .slice (some ⟨wr.heap.size, 0, none⟩) 64 64 else LV t) (q + 1)))
    (htop3 : V.heap[g]? = some (.cells #[.slice (some ⟨cb2, 0, none⟩) (q + 1) cap2, .bool false, .int .i64 (-1)] 66 (0, 0))) (hx3 : Bx (· = g) w2 V) (hcg : cb2 ≠ g) (HM : ∀ i, i < 64 → M[i]? = some (.int .u8 0)) (hM : M.size = 64) (hlt : q < n) :
    (∃ (q' : Nat) (v : Value) (LV : Nat → Value), q' ≤ n ∧ Value.int .i64 ((q : Int) + 1) = .int .i64 (q' : Int) ∧ NewAt V (w.heap.size + 1) g q' v LV ∧ w.heap.size + 1 ≤ V.heap.size ∧ Bw w V) ∧ n - (intOf (.int .i64 ((q : Int) + 1))).toNat < n - (intOf (.int .i64 (q : Int))).toNat := by
  have hszX : w.heap.size + 1 ≤ ((wr.drew.alloc (.cells M 5)).alloc (.cells #[.slice (some ⟨wr.heap.size, 0, none⟩) 64 64, .slice none 0 0, .bool false] 68)).heap.size := Nat.le_trans hsz b3.size
  have hN2 := own_nou hown3
  have hN3 : NoU w2 (· = g) := fun b hb cur fr e => by
    subst hb
    have hlt' : b < wr.heap.size := (Array.getElem?_eq_some_iff.1 htop).1
    have hgv : ¬ (v.ownBlock = some b) := fun e => by have := own_ge hown3 b e; omega
    rw [(hx2.block b (Nat.lt_of_lt_of_le hlt' b3.size) hgv).trans ((b3.block b hlt').trans htop)] at e
    simp only [Option.some.injEq, Obj.cells.injEq] at e
    exact absurd e.2.1 (by decide)
  have hownM : Own (wr.drew.alloc (.cells M 5)) wr.heap.size 64 (fun _ => 0) := ⟨M, (Go.MapKept.heap_alloc wr.drew _).1, by omega, HM⟩
  have hbB : Below w.heap.size wr w2 := Below.trans (Below.mono b3 hb.size) (hx2.below (by omega) (fun b e => by have := own_ge hown3 b e; omega))
  refine ⟨⟨q + 1, .slice (some ⟨cb2, 0, none⟩) (q + 1) cap2, fun t => if t = q then .slice (some ⟨wr.heap.size, 0, none⟩) 64 64 else LV t, hlt, rfl, ⟨htop3, ?_, fun s hs => ?_⟩, Nat.le_trans hszX (Nat.le_trans hx2.size hx3.size), ?_⟩, by simp only [intOf]; omega⟩
  · exact own_keepx14 hown2 hx3 hcg
  · by_cases e : s = q
    · subst e
      dsimp only
      rw [if_pos rfl]
      have r1 : RowU (wr.drew.alloc (.cells M 5)) (.slice (some ⟨wr.heap.size, 0, none⟩) 64 64) (fun _ => 0) := ⟨_, 64, rfl, Nat.le_refl _, by unfold maxLen; omega, hownM⟩
      exact ((r1.keep (Below.alloc (Bw.refl _) (Nat.le_refl _) _)).keepn hx2 hN2).keepn hx3 hN3
    · dsimp only
      rw [if_neg e]
      exact (((hrows s (by omega)).keep b3).keepn hx2 hN2).keepn hx3 hN3
  · exact Below.trans hb (Below.trans hbB (hx3.below (by have := hbB.size; have := hb.size; omega) (fun b e => by omega)))
set_option maxRecDepth 100000 in
set_option maxHeartbeats 4000000 in
theorem rnew_ok (n : Nat) (h0 : 1 ≤ n) (h1 : n ≤ 65536) (w : World) :
    Calls Try.prog 11 #[.int .i64 (n : Int)] w fun e w' => ∃ g cb cap LV WV, e = .returned (.tuple #[.pointer (some ⟨g, 0, none⟩), .int .i64 0]) ∧ RefAt w' g cb cap LV WV (Dsk.new n) ∧ (∀ b, rIn g cb b → w.heap.size ≤ b) ∧ Bw w w' := by
  obtain ⟨M, hM, hM0, hmk⟩ := made_bytes 64 (by omega)
  replace hmk : ∀ w, (Instr.makeSlice 37 (.int .i64 64) (.int .i64 64)).run Try.prog w = .ok (.slice (some ⟨w.heap.size, 0, none⟩) 64 64) (w.alloc (.cells M 5)) := hmk
  have HM : Hid (∀ i, i < 64 → M[i]? = some (.int .u8 0)) := hM0
  have n0 : (1 : Int) ≤ (n : Int) := by omega
  have n1 : (n : Int) ≤ 65536 := by omega
  clear hM0
  go_enter Try.func11, Try.ntmps11
  go_wp2
  obtain ⟨g, hg⟩ : ∃ z, Hid (w.heap.size = z) := ⟨_, rfl⟩
  obtain ⟨W0, hW0⟩ : ∃ W, Hid (w.alloc (.cells #[.slice none 0 0, .bool false, .int .i64 (-1)] 66) = W) := ⟨_, rfl⟩
  have hN0 : NewAt W0 (w.heap.size + 1) g 0 (.slice none 0 0) (fun _ => .slice none 0 0) := ⟨by rw [← hW0.out, ← hg.out]; exact (Go.MapKept.heap_alloc _ _).1, World.ownsRow_nil _ _ _ _, fun s hs => by omega⟩
  have bw0 : Bw w W0 := by rw [← hW0.out]; exact Below.alloc (Bw.refl _) (Nat.le_refl _) _
  have sz0 : w.heap.size + 1 ≤ W0.heap.size := by rw [← hW0.out, size_alloc]; exact Nat.le_refl _
  rw [hW0.out, hg.out]
  go_loopw [5] (fun i wr => ∃ (q : Nat) (v : Value) (LV : Nat → Value), q ≤ n ∧ i = .int .i64 (q : Int) ∧ NewAt wr (w.heap.size + 1) g q v LV ∧ w.heap.size + 1 ≤ wr.heap.size ∧ Bw w wr) (fun i _ => n - (intOf i).toNat)
  case atStart => exact ⟨0, _, _, Nat.zero_le _, rfl, hN0, sz0, bw0⟩
  case round =>
    obtain ⟨q, v, LV, hq, rfl, ⟨htop, hown, hrows⟩, hsz, hb⟩ := hrel
    have q0 : (0 : Int) ≤ (q : Int) := Int.natCast_nonneg _
    clear hN0 sz0 bw0
    by_cases hlt : q < n
    · have q1 : (q : Int) < (n : Int) := by omega
      have hgl : g < wr.heap.size := (Array.getElem?_eq_some_iff.1 htop).1
      have b1 : Bw wr wr.drew := (Bw.refl _).drew
      have b2 : Bw wr (wr.drew.alloc (.cells M 5)) := b1.trans (Below.alloc (Bw.refl _) (Nat.le_refl _) _)
      have b3 : Bw wr ((wr.drew.alloc (.cells M 5)).alloc (.cells #[.slice (some ⟨wr.heap.size, 0, none⟩) 64 64, .slice none 0 0, .bool false] 68)) := b2.trans (Below.alloc (Bw.refl _) (Nat.le_refl _) _)
      have T0 : Hid (∀ W, Bw wr W → W.cell? ⟨g, 0, none⟩ = some v ∧ W.frozen? ⟨g, 0, none⟩ = false) := fun W kW => by
        have h1 := (kW.block g hgl).trans htop
        exact ⟨cell_of_row W g 0 _ _ _ h1, frozen_of_row W g 0 _ _ h1⟩
      have l0 := (T0.out _ (Bw.refl _)).1
      have hown3 := own_keep hown b3
      have hc3 : Cell3 ((wr.drew.alloc (.cells M 5)).alloc (.cells #[.slice (some ⟨wr.heap.size, 0, none⟩) 64 64, .slice none 0 0, .bool false] 68)) (wr.heap.size + 1) (.slice (some ⟨wr.heap.size, 0, none⟩) 64 64) (.slice none 0 0) false := by
        have := (Go.MapKept.heap_alloc (wr.drew.alloc (.cells M 5)) (.cells #[.slice (some ⟨wr.heap.size, 0, none⟩) 64 64, .slice none 0 0, .bool false] 68)).1
        rw [size_alloc] at this
        exact this
      have hgv : ¬ (v.ownBlock = some g) := fun e => by have := own_ge hown3 g e; have := hg.out; omega
      go_wp2
      -- REGION
      refine wp_region_held_drew (S := fun _ => True) (by kernel_rfl) (trivial) (fun hHeld => ?_)
      refine wpAnyH_take (i := 0) (v := ?_) rfl (by kernel_rfl) (by kernel_rfl) (by kernel_rfl) (fun _ _ _ h => h) (Or.inl ⟨by rfl, ?_⟩) (by assumption) ?_
      rotate_left
      · intro w hSw; (try dsimp only at hSw); go_simp; all_goals (with_reducible rfl)
      try simp only [Act.put, List.setIfInBounds_toArray, List.set_cons_zero, List.set_cons_succ, List.getElem_toArray, List.getElem_cons_succ, List.getElem_cons_zero]
      refine wpAnyH_take (i := 1) (v := ?_) rfl (by kernel_rfl) (by kernel_rfl) (by kernel_rfl) (fun _ _ _ h => h) (Or.inl ⟨by rfl, ?_⟩) (by assumption) ?_
      rotate_left
      · intro w hSw; (try dsimp only at hSw); go_simp; all_goals (with_reducible rfl)
      try simp only [Act.put, List.setIfInBounds_toArray, List.set_cons_zero, List.set_cons_succ, List.getElem_toArray, List.getElem_cons_succ, List.getElem_cons_zero]
      refine wpAnyH_take (i := 2) (v := ?_) rfl (by kernel_rfl) (by kernel_rfl) (by kernel_rfl) (fun _ _ _ h => h) (Or.inl ⟨by rfl, ?_⟩) (by assumption) ?_
      rotate_left
      · intro w hSw; (try dsimp only at hSw); go_simp; all_goals (with_reducible rfl)
      try simp only [Act.put, List.setIfInBounds_toArray, List.set_cons_zero, List.set_cons_succ, List.getElem_toArray, List.getElem_cons_succ, List.getElem_cons_zero]
      refine wpAnyH_take (i := 3) (v := ?_) rfl (by kernel_rfl) (by kernel_rfl) (by kernel_rfl) (fun _ _ _ h => h) (Or.inl ⟨by rfl, ?_⟩) (by assumption) ?_
      rotate_left
      · intro w hSw; (try dsimp only at hSw); go_simp; all_goals (with_reducible rfl)
      try simp only [Act.put, List.setIfInBounds_toArray, List.set_cons_zero, List.set_cons_succ, List.getElem_toArray, List.getElem_cons_succ, List.getElem_cons_zero]
      refine wpAnyH_ready (rs := [4, 5]) (by kernel_rfl) (by simp) ?_
      refine AllReadyH.cons rfl (fun K hK => ?_) (AllReadyH.cons rfl (fun K hK => ?_) AllReadyH.nil)
      · go_simp
        refine hK.out _ _ (trivial) (fun hHeld => ?_)
        clear hK K
        try simp only [Act.put, List.setIfInBounds_toArray, List.set_cons_zero, List.set_cons_succ, List.getElem_toArray, List.getElem_cons_succ, List.getElem_cons_zero]
        refine wpAnyH_ready (rs := [5]) (by kernel_rfl) (by simp) ?_
        refine AllReadyH.cons rfl (fun K hK => ?_) AllReadyH.nil
        go_simp
        refine hK.out _ _ (trivial) (fun hHeld => ?_)
        clear hK K
        try simp only [Act.put, List.setIfInBounds_toArray, List.set_cons_zero, List.set_cons_succ, List.getElem_toArray, List.getElem_cons_succ, List.getElem_cons_zero]
        refine wpAnyH_take (i := 6) (v := ?_) rfl (by kernel_rfl) (by kernel_rfl) (by kernel_rfl) (fun _ _ _ h => h) (Or.inl ⟨by rfl, ?_⟩) (by assumption) ?_
        rotate_left
        · intro w hSw; (try dsimp only at hSw); go_simp; all_goals (with_reducible rfl)
        try simp only [Act.put, List.setIfInBounds_toArray, List.set_cons_zero, List.set_cons_succ, List.getElem_toArray, List.getElem_cons_succ, List.getElem_cons_zero]
        refine wpAnyH_ready (rs := [7]) (by kernel_rfl) (by simp) ?_
        refine AllReadyH.cons rfl (fun K hK => ?_) AllReadyH.nil
        go_simp
        refine hK.out _ _ (trivial) (fun hHeld => ?_)
        clear hK K
        try simp only [Act.put, List.setIfInBounds_toArray, List.set_cons_zero, List.set_cons_succ, List.getElem_toArray, List.getElem_cons_succ, List.getElem_cons_zero]
        refine wpAnyH_ready (rs := [8]) (by kernel_rfl) (by simp) ?_
        refine AllReadyH.cons rfl (fun K hK => ?_) AllReadyH.nil
        refine step_cell (w := (wr.drew.alloc (.cells M 5)).alloc (.cells #[.slice (some ⟨wr.heap.size, 0, none⟩) 64 64, .slice none 0 0, .bool false] 68)) (by rfl) _ _ (by rfl) (w.heap.size + 1) v q LV (by rfl) hown3 (wr.heap.size + 1) (by rfl) _ rfl hc3 (by omega) (Nat.le_trans hsz b3.size) ?_
        intro v2 w2 hown2 hnn2 hg2
        have hown2' := hown2
        obtain ⟨cb2, cap2, cur2, hv2, hcb2, hcur2, hn2, hm2, hs2, htk2⟩ := hown2'.2.resolve_left (fun e => hnn2 e.1)
        subst hv2
        have hx2 := bx_grown hg2
        have htop2 := (hx2.block g (Nat.lt_of_lt_of_le hgl b3.size) hgv).trans ((b3.block g hgl).trans htop)
        have z0 := cell_of_row w2 g 0 _ _ _ htop2
        have zf := frozen_of_row w2 g 0 _ _ htop2
        refine hK.out _ _ (trivial) (fun hHeld => ?_)
        clear hK K
        try simp only [Act.put, List.setIfInBounds_toArray, List.set_cons_zero, List.set_cons_succ, List.getElem_toArray, List.getElem_cons_succ, List.getElem_cons_zero]
        refine wpAnyH_take (i := 9) (v := ?_) rfl (by kernel_rfl) (by kernel_rfl) (by kernel_rfl) (fun _ _ _ h => h) (Or.inl ⟨by rfl, ?_⟩) (by assumption) ?_
        rotate_left
        · intro w hSw; (try dsimp only at hSw); go_simp; all_goals (with_reducible rfl)
        try simp only [Act.put, List.setIfInBounds_toArray, List.set_cons_zero, List.set_cons_succ, List.getElem_toArray, List.getElem_cons_succ, List.getElem_cons_zero]
        refine wpAnyH_take (i := 10) (v := ?_) rfl (by kernel_rfl) (by kernel_rfl) (by kernel_rfl) (fun _ _ _ h => h) (Or.inl ⟨by rfl, ?_⟩) (by assumption) ?_
        rotate_left
        · intro w hSw; (try dsimp only at hSw); go_simp; all_goals (with_reducible rfl)
        try simp only [Act.put, List.setIfInBounds_toArray, List.set_cons_zero, List.set_cons_succ, List.getElem_toArray, List.getElem_cons_succ, List.getElem_cons_zero]
        refine wpAnyH_ready (rs := [11]) (by kernel_rfl) (by simp) ?_
        refine AllReadyH.cons rfl (fun K hK => ?_) AllReadyH.nil
        go_simp
        refine hK.out _ _ (trivial) (fun hHeld => ?_)
        clear hK K
        try simp only [Act.put, List.setIfInBounds_toArray, List.set_cons_zero, List.set_cons_succ, List.getElem_toArray, List.getElem_cons_succ, List.getElem_cons_zero]
        refine wpAnyH_done (by kernel_rfl) ?_ _
        have htop3 : (w2.setCell ⟨g, 0, none⟩ (.slice (some ⟨cb2, 0, none⟩) (q + 1) cap2)).heap[g]? = some (.cells #[.slice (some ⟨cb2, 0, none⟩) (q + 1) cap2, .bool false, .int .i64 (-1)] 66 (0, 0)) := heap_setCell_same w2 g 0 _ _ _ htop2
        have hx3 : Bx (· = g) w2 (w2.setCell ⟨g, 0, none⟩ (.slice (some ⟨cb2, 0, none⟩) (q + 1) cap2)) := bx_put14 (Bx.refl _ _)
        have hcg : cb2 ≠ g := fun e => by have := hg.out; omega
        obtain ⟨V, hV⟩ : ∃ V, Hid (w2.setCell ⟨g, 0, none⟩ (.slice (some ⟨cb2, 0, none⟩) (q + 1) cap2) = V) := ⟨_, rfl⟩
        rw [hV.out] at htop3 hx3 ⊢
        have hbB : Below (w.heap.size + 1) wr w2 := bw_grow hg2 (Below.mono b3 hsz) (Nat.le_trans hsz b3.size) hown3
        have hfin := new_more hg.out hb hsz hrows htop hown3 hx2 b3 hg2 hown2 htop3 hx3 hcg HM.out hM hlt
        clear hV z0 zf
        go_wp2
        exact hfin
      · go_simp
        refine hK.out _ _ (trivial) (fun hHeld => ?_)
        clear hK K
        try simp only [Act.put, List.setIfInBounds_toArray, List.set_cons_zero, List.set_cons_succ, List.getElem_toArray, List.getElem_cons_succ, List.getElem_cons_zero]
        refine wpAnyH_take (i := 6) (v := ?_) rfl (by kernel_rfl) (by kernel_rfl) (by kernel_rfl) (fun _ _ _ h => h) (Or.inl ⟨by rfl, ?_⟩) (by assumption) ?_
        rotate_left
        · intro w hSw; (try dsimp only at hSw); go_simp; all_goals (with_reducible rfl)
        try simp only [Act.put, List.setIfInBounds_toArray, List.set_cons_zero, List.set_cons_succ, List.getElem_toArray, List.getElem_cons_succ, List.getElem_cons_zero]
        refine wpAnyH_ready (rs := [4, 7]) (by kernel_rfl) (by simp) ?_
        refine AllReadyH.cons rfl (fun K hK => ?_) (AllReadyH.cons rfl (fun K hK => ?_) AllReadyH.nil)
        · go_simp
          refine hK.out _ _ (trivial) (fun hHeld => ?_)
          clear hK K
          try simp only [Act.put, List.setIfInBounds_toArray, List.set_cons_zero, List.set_cons_succ, List.getElem_toArray, List.getElem_cons_succ, List.getElem_cons_zero]
          refine wpAnyH_ready (rs := [7]) (by kernel_rfl) (by simp) ?_
          refine AllReadyH.cons rfl (fun K hK => ?_) AllReadyH.nil
          go_simp
          refine hK.out _ _ (trivial) (fun hHeld => ?_)
          clear hK K
          try simp only [Act.put, List.setIfInBounds_toArray, List.set_cons_zero, List.set_cons_succ, List.getElem_toArray, List.getElem_cons_succ, List.getElem_cons_zero]
          refine wpAnyH_ready (rs := [8]) (by kernel_rfl) (by simp) ?_
          refine AllReadyH.cons rfl (fun K hK => ?_) AllReadyH.nil
          refine step_cell (w := (wr.drew.alloc (.cells M 5)).alloc (.cells #[.slice (some ⟨wr.heap.size, 0, none⟩) 64 64, .slice none 0 0, .bool false] 68)) (by rfl) _ _ (by rfl) (w.heap.size + 1) v q LV (by rfl) hown3 (wr.heap.size + 1) (by rfl) _ rfl hc3 (by omega) (Nat.le_trans hsz b3.size) ?_
          intro v2 w2 hown2 hnn2 hg2
          have hown2' := hown2
          obtain ⟨cb2, cap2, cur2, hv2, hcb2, hcur2, hn2, hm2, hs2, htk2⟩ := hown2'.2.resolve_left (fun e => hnn2 e.1)
          subst hv2
          have hx2 := bx_grown hg2
          have htop2 := (hx2.block g (Nat.lt_of_lt_of_le hgl b3.size) hgv).trans ((b3.block g hgl).trans htop)
          have z0 := cell_of_row w2 g 0 _ _ _ htop2
          have zf := frozen_of_row w2 g 0 _ _ htop2
          refine hK.out _ _ (trivial) (fun hHeld => ?_)
          clear hK K
          try simp only [Act.put, List.setIfInBounds_toArray, List.set_cons_zero, List.set_cons_succ, List.getElem_toArray, List.getElem_cons_succ, List.getElem_cons_zero]
          refine wpAnyH_take (i := 9) (v := ?_) rfl (by kernel_rfl) (by kernel_rfl) (by kernel_rfl) (fun _ _ _ h => h) (Or.inl ⟨by rfl, ?_⟩) (by assumption) ?_
          rotate_left
          · intro w hSw; (try dsimp only at hSw); go_simp; all_goals (with_reducible rfl)
          try simp only [Act.put, List.setIfInBounds_toArray, List.set_cons_zero, List.set_cons_succ, List.getElem_toArray, List.getElem_cons_succ, List.getElem_cons_zero]
          refine wpAnyH_take (i := 10) (v := ?_) rfl (by kernel_rfl) (by kernel_rfl) (by kernel_rfl) (fun _ _ _ h => h) (Or.inl ⟨by rfl, ?_⟩) (by assumption) ?_
          rotate_left
          · intro w hSw; (try dsimp only at hSw); go_simp; all_goals (with_reducible rfl)
          try simp only [Act.put, List.setIfInBounds_toArray, List.set_cons_zero, List.set_cons_succ, List.getElem_toArray, List.getElem_cons_succ, List.getElem_cons_zero]
          refine wpAnyH_ready (rs := [11]) (by kernel_rfl) (by simp) ?_
          refine AllReadyH.cons rfl (fun K hK => ?_) AllReadyH.nil
          go_simp
          refine hK.out _ _ (trivial) (fun hHeld => ?_)
          clear hK K
          try simp only [Act.put, List.setIfInBounds_toArray, List.set_cons_zero, List.set_cons_succ, List.getElem_toArray, List.getElem_cons_succ, List.getElem_cons_zero]
          refine wpAnyH_done (by kernel_rfl) ?_ _
          have htop3 : (w2.setCell ⟨g, 0, none⟩ (.slice (some ⟨cb2, 0, none⟩) (q + 1) cap2)).heap[g]? = some (.cells #[.slice (some ⟨cb2, 0, none⟩) (q + 1) cap2, .bool false, .int .i64 (-1)] 66 (0, 0)) := heap_setCell_same w2 g 0 _ _ _ htop2
          have hx3 : Bx (· = g) w2 (w2.setCell ⟨g, 0, none⟩ (.slice (some ⟨cb2, 0, none⟩) (q + 1) cap2)) := bx_put14 (Bx.refl _ _)
          have hcg : cb2 ≠ g := fun e => by have := hg.out; omega
          obtain ⟨V, hV⟩ : ∃ V, Hid (w2.setCell ⟨g, 0, none⟩ (.slice (some ⟨cb2, 0, none⟩) (q + 1) cap2) = V) := ⟨_, rfl⟩
          rw [hV.out] at htop3 hx3 ⊢
          have hbB : Below (w.heap.size + 1) wr w2 := bw_grow hg2 (Below.mono b3 hsz) (Nat.le_trans hsz b3.size) hown3
          have hfin := new_more hg.out hb hsz hrows htop hown3 hx2 b3 hg2 hown2 htop3 hx3 hcg HM.out hM hlt
          clear hV z0 zf
          go_wp2
          exact hfin
        · go_simp
          refine hK.out _ _ (trivial) (fun hHeld => ?_)
          clear hK K
          try simp only [Act.put, List.setIfInBounds_toArray, List.set_cons_zero, List.set_cons_succ, List.getElem_toArray, List.getElem_cons_succ, List.getElem_cons_zero]
          refine wpAnyH_ready (rs := [4]) (by kernel_rfl) (by simp) ?_
          refine AllReadyH.cons rfl (fun K hK => ?_) AllReadyH.nil
          go_simp
          refine hK.out _ _ (trivial) (fun hHeld => ?_)
          clear hK K
          try simp only [Act.put, List.setIfInBounds_toArray, List.set_cons_zero, List.set_cons_succ, List.getElem_toArray, List.getElem_cons_succ, List.getElem_cons_zero]
          refine wpAnyH_ready (rs := [8]) (by kernel_rfl) (by simp) ?_
          refine AllReadyH.cons rfl (fun K hK => ?_) AllReadyH.nil
          refine step_cell (w := (wr.drew.alloc (.cells M 5)).alloc (.cells #[.slice (some ⟨wr.heap.size, 0, none⟩) 64 64, .slice none 0 0, .bool false] 68)) (by rfl) _ _ (by rfl) (w.heap.size + 1) v q LV (by rfl) hown3 (wr.heap.size + 1) (by rfl) _ rfl hc3 (by omega) (Nat.le_trans hsz b3.size) ?_
          intro v2 w2 hown2 hnn2 hg2
          have hown2' := hown2
          obtain ⟨cb2, cap2, cur2, hv2, hcb2, hcur2, hn2, hm2, hs2, htk2⟩ := hown2'.2.resolve_left (fun e => hnn2 e.1)
          subst hv2
          have hx2 := bx_grown hg2
          have htop2 := (hx2.block g (Nat.lt_of_lt_of_le hgl b3.size) hgv).trans ((b3.block g hgl).trans htop)
          have z0 := cell_of_row w2 g 0 _ _ _ htop2
          have zf := frozen_of_row w2 g 0 _ _ htop2
          refine hK.out _ _ (trivial) (fun hHeld => ?_)
          clear hK K
          try simp only [Act.put, List.setIfInBounds_toArray, List.set_cons_zero, List.set_cons_succ, List.getElem_toArray, List.getElem_cons_succ, List.getElem_cons_zero]
          refine wpAnyH_take (i := 9) (v := ?_) rfl (by kernel_rfl) (by kernel_rfl) (by kernel_rfl) (fun _ _ _ h => h) (Or.inl ⟨by rfl, ?_⟩) (by assumption) ?_
          rotate_left
          · intro w hSw; (try dsimp only at hSw); go_simp; all_goals (with_reducible rfl)
          try simp only [Act.put, List.setIfInBounds_toArray, List.set_cons_zero, List.set_cons_succ, List.getElem_toArray, List.getElem_cons_succ, List.getElem_cons_zero]
          refine wpAnyH_take (i := 10) (v := ?_) rfl (by kernel_rfl) (by kernel_rfl) (by kernel_rfl) (fun _ _ _ h => h) (Or.inl ⟨by rfl, ?_⟩) (by assumption) ?_
          rotate_left
          · intro w hSw; (try dsimp only at hSw); go_simp; all_goals (with_reducible rfl)
          try simp only [Act.put, List.setIfInBounds_toArray, List.set_cons_zero, List.set_cons_succ, List.getElem_toArray, List.getElem_cons_succ, List.getElem_cons_zero]
          refine wpAnyH_ready (rs := [11]) (by kernel_rfl) (by simp) ?_
          refine AllReadyH.cons rfl (fun K hK => ?_) AllReadyH.nil
          go_simp
          refine hK.out _ _ (trivial) (fun hHeld => ?_)
          clear hK K
          try simp only [Act.put, List.setIfInBounds_toArray, List.set_cons_zero, List.set_cons_succ, List.getElem_toArray, List.getElem_cons_succ, List.getElem_cons_zero]
          refine wpAnyH_done (by kernel_rfl) ?_ _
          have htop3 : (w2.setCell ⟨g, 0, none⟩ (.slice (some ⟨cb2, 0, none⟩) (q + 1) cap2)).heap[g]? = some (.cells #[.slice (some ⟨cb2, 0, none⟩) (q + 1) cap2, .bool false, .int .i64 (-1)] 66 (0, 0)) := heap_setCell_same w2 g 0 _ _ _ htop2
          have hx3 : Bx (· = g) w2 (w2.setCell ⟨g, 0, none⟩ (.slice (some ⟨cb2, 0, none⟩) (q + 1) cap2)) := bx_put14 (Bx.refl _ _)
          have hcg : cb2 ≠ g := fun e => by have := hg.out; omega
          obtain ⟨V, hV⟩ : ∃ V, Hid (w2.setCell ⟨g, 0, none⟩ (.slice (some ⟨cb2, 0, none⟩) (q + 1) cap2) = V) := ⟨_, rfl⟩
          rw [hV.out] at htop3 hx3 ⊢
          have hbB : Below (w.heap.size + 1) wr w2 := bw_grow hg2 (Below.mono b3 hsz) (Nat.le_trans hsz b3.size) hown3
          have hfin := new_more hg.out hb hsz hrows htop hown3 hx2 b3 hg2 hown2 htop3 hx3 hcg HM.out hM hlt
          clear hV z0 zf
          go_wp2
          exact hfin
      -- /REGION
    · obtain rfl : q = n := by omega
      have q1 : ¬ (q : Int) < (q : Int) := Int.lt_irrefl _
      have hown' := hown
      obtain ⟨cb, cap, cur, rfl, hcb, hcur, hn2, hm2, hs2, htk⟩ := hown'.2.resolve_left (fun e => by omega)
      have hcell : ∀ j u, (cells3 LV q)[j]? = some u → wr.cell? ⟨cb, j, none⟩ = some u := fun j u hu => by
        rw [cell_of_row wr cb j cur _ _ hcur, ← Array.getElem?_toList]
        rw [← htk, List.getElem?_take] at hu
        split at hu
        · exact hu
        · cases hu
      clear q1
      go_wp2
      go_ret2
      refine ⟨g, cb, cap, LV, fun _ => .slice none 0 0, rfl, ⟨htop, ⟨cur, hcur⟩, fun s hs => hcell _ _ (cells3_at LV q s hs).1, fun s hs => hcell _ _ (cells3_at LV q s hs).2.1, fun s hs => hcell _ _ (cells3_at LV q s hs).2.2, fun s hs => hrows s hs, (fun s hs hi => by cases hi), (fun s hs => ⟨_, _, _, rfl⟩), ?_⟩, ?_, hb⟩
      · exact ⟨h0, h1, fun _ => ⟨Int.le_refl 0, show (0 : Int) < 256 by decide⟩, fun _ => ⟨Int.le_refl 0, show (0 : Int) < 256 by decide⟩, show (-1 : Int) ≤ -1 by decide, show (-1 : Int) < 9223372036854775808 by decide⟩
      · intro b hb'
        rcases hb' with rfl | rfl
        · have := hg.out; omega
        · omega
end Go.Proofs.Ytppknadflmjefaa
