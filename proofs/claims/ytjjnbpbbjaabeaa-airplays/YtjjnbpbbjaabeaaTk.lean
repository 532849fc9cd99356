/- Layer 19: Double, Send (written by mktk.py out of tk.base). -/
import Derived.Test.YtjjnbpbbjaabeaaTj
namespace Go.Proofs.Ytjjnbpbbjaabeaa
open Go.RowKit Go.Deep
set_option linter.unusedVariables false
set_option linter.unusedSimpArgs false

/-- how one more under way ends -/
def PushEnds (w : World) (g : Nat) (v : Value) (gm : Nat) (E : List Raw) (S : Ai.St) (d : Ai.Dg) (w' : World) : Prop := ∃ v' r, AirX w' g v' gm (E ++ [r]) { S with L := S.L ++ [d] } ∧ (∀ b, v'.ownBlock = some b → v.ownBlock = some b ∨ w.heap.size ≤ b) ∧ (∀ Q : Nat → Prop, EIn Q E → VIn (fun b => Q b ∨ w.heap.size ≤ b) r.v) ∧ Bx (aIn g v gm) w w'
theorem own_keepx19 {P : Nat → Prop} {w w' : World} {base e size n : Nat} {v : Value} {xs : List Value} (h : w.ownsRow base e size v n xs) (k : Bx P w w') (hP : ∀ b, v.ownBlock = some b → ¬ P b) : w'.ownsRow base e size v n xs := by
  refine ⟨h.1, ?_⟩
  rcases h.2 with h0 | ⟨g, cap, cur, rfl, h2, h3, h4⟩
  · exact .inl h0
  · exact .inr ⟨g, cap, cur, rfl, h2, (k.block g (Array.getElem?_eq_some_iff.1 h3).1 (hP g rfl)).trans h3, h4⟩
theorem AirX.push {w W w2 : World} {g gm : Nat} {v : Value} {E : List Raw} {S : Ai.St} {r : Raw} {d : Ai.Dg} {g2 c2 n : Nat} (h : AirX w g v gm E S) (k : Bw w W) (hr1 : r.src = d.src) (hr2 : r.dst = d.dst) (hrow : RowV W r.v d.b)
    (hvin : VIn (fun b => ¬ aIn g v gm b) r.v) (hQ : ∀ Q : Nat → Prop, EIn Q E → VIn (fun b => Q b ∨ w.heap.size ≤ b) r.v) (hn : E.length = n)
    (own2 : w2.ownsRow 0 35 3 (.slice (some ⟨g2, 0, none⟩) (n + 1) c2) (n + 1) (flat E ++ [.int .i64 r.src, .int .i64 r.dst, r.v])) (gr : (W.alloc (.cells #[.int .i64 r.src, .int .i64 r.dst, r.v] 35)).grownBy w2 v.ownBlock)
    (at2 : v.ownBlock = some g2 ∨ g2 = W.heap.size + 1) (hok : ({ S with L := S.L ++ [d] } : Ai.St).Ok) :
    (w2.cell? ⟨g, 1, none⟩ = some v ∧ w2.frozen? ⟨g, 1, none⟩ = false) ∧ PushEnds w g v gm E S d (w2.setCell ⟨g, 1, none⟩ (.slice (some ⟨g2, 0, none⟩) (n + 1) c2)) := by
  subst hn
  have kA : Bw W (W.alloc (.cells #[.int .i64 r.src, .int .i64 r.dst, r.v] 35)) := bw_allocx (Bw.refl _)
  have hgx := bx_grown gr
  have hwW := k.size
  have hvl := hrow.low
  have hgl := h.lt
  have hgm := h.map.lt
  have hnev := h.nev
  have hcells : w2.heap[g]? = some (.cells (acells v gm S.n) 54 (0, 0)) := by
    rw [hgx.block g (by rw [size_alloc]; omega) (fun e => hnev e), kA.block g (by omega), k.block g hgl]
    exact h.cells
  have hgg : g2 ≠ g := fun e => by
    rcases at2 with h1 | h1
    · exact hnev (by rw [h1, e])
    · omega
  have hggm : g2 ≠ gm := fun e => by
    rcases at2 with h1 | h1
    · exact h.nevm (by rw [h1, e])
    · omega
  have hX : Bx (· = g) w2 (w2.setCell ⟨g, 1, none⟩ (.slice (some ⟨g2, 0, none⟩) (E.length + 1) c2)) := (Bx.refl _ _).put rfl
  have hall : Bx (aIn g v gm) w (w2.setCell ⟨g, 1, none⟩ (.slice (some ⟨g2, 0, none⟩) (E.length + 1) c2)) :=
    ((Bx.of_bw (k.trans kA)).trans (hgx.more (fun b e => .inr (.inr e)))).trans (hX.more (fun b e => .inl e))
  have hlen : E.length + 1 = (E ++ [r]).length := by rw [List.length_append]; rfl
  refine ⟨⟨cell_of_row w2 g 1 _ _ _ hcells, frozen_of_row w2 g 1 _ _ hcells⟩, ⟨.slice (some ⟨g2, 0, none⟩) (E.length + 1) c2, r, ⟨heap_setCell_same w2 g 1 _ _ _ hcells, ?_, ?_, ?_, hok, ?_⟩, ?_, hQ, hall⟩⟩
  · have h3 := own_keepx19 own2 hX (fun b hb e => by
      have e2 : g2 = b := by simpa [Value.ownBlock] using hb
      have e3 : b = g := e
      exact hgg (e2.trans e3))
    have e4 : flat E ++ [.int .i64 r.src, .int .i64 r.dst, r.v] = flat (E ++ [r]) := by rw [flat_append]; rfl
    rw [e4, hlen] at h3
    rw [hlen]
    exact (UndAt.of_own h3).1
  · refine DgsV.append (h.dgs.keepx hall h.sep) (DgsV.one hr1 hr2 ?_)
    refine ((hrow.keep kA).keepx hgx (hvin.mono (fun b hb e => hb (.inr (.inr e))))).keepx hX (hvin.mono (fun b hb e => hb (.inl e)))
  · exact ((h.map.keep (k.trans kA)).keepx hgx (fun e => h.nevm e)).keepx hX (fun e => h.nem e.symm)
  · have hnew : ∀ b, aIn g (.slice (some ⟨g2, 0, none⟩) (E.length + 1) c2) gm b → aIn g v gm b ∨ W.heap.size ≤ b := fun b hb => by
      rcases hb with hb | hb | hb
      · exact .inl (.inl hb)
      · exact .inl (.inr (.inl hb))
      · have e2 : g2 = b := by simpa [Value.ownBlock] using hb
        rcases at2 with h1 | h1
        · exact .inl (.inr (.inr (by rw [h1, e2])))
        · exact .inr (by omega)
    refine EIn.append (fun x hx b o m c e h0 hb => ?_) (EIn.one (fun b o m c e h0 hb => ?_))
    · have hb1 := h.dgs.low x hx b o m c e h0
      rcases hnew b hb with h1 | h1
      · exact h.sep x hx b o m c e h0 h1
      · omega
    · have hb1 := hvl b o m c e h0
      rcases hnew b hb with h1 | h1
      · exact hvin b o m c e h0 h1
      · omega
  · intro b hb
    have e2 : g2 = b := by simpa [Value.ownBlock] using hb
    rcases at2 with h1 | h1
    · exact .inl (by rw [h1, e2])
    · exact .inr (by omega)
theorem step_load_mid {P : Program} {ops : Array Oper} {o : Oper} {a : Act} {w : World} {K : Act → World → Prop} {Q : Exit → Act → World → Prop} {E : Prop} (hgd : o.guard = none) (ty : TypeId) (x : Operand) (ho : o.op = .load ty x)
    (b off : Nat) (hx : a.eval x = .pointer (some ⟨b, off, none⟩)) (cs : List Value) (d : TypeDesc) (hc : w.rangeAt b off cs)
    (hu : P.underlying ty = some d) (hd : d.isRow = true) (hi : (P.info? ty).map (·.size) = some cs.length) (h : K (a.put o.dst (.agg cs.toArray)) w) : if Region.wanted o (yielded ops a.tmps) = true then Oper.wp P o a w K Q else E := by
  have hw : Region.wanted o (yielded ops a.tmps) = true := by simp [Region.wanted, hgd]
  rw [if_pos hw]
  exact wp_load_mid ty x ho b off hx cs d hc hu hd hi h
set_option maxRecDepth 100000 in
theorem dbl_no {w : World} (p : Option Addr) (i : Int) (HH : Calls Try.prog 33 #[.pointer p, .int .i64 i] w fun e w' => e = .returned (.bool false) ∧ w' = w) :
    Calls Try.prog 19 #[.pointer p, .int .i64 i] w fun e w' => e = .returned (.bool false) ∧ w' = w := by
  have H1 : Hid (Calls Try.prog 33 #[.pointer p, .int .i64 i] w fun e w' => e = .returned (.bool false) ∧ w' = w) := HH
  clear HH
  go_enter Try.func19, Try.ntmps19
  go_wp2_with (go_at_call 33; refine H1.out.mono ?_; rintro e w1 ⟨rfl, hw⟩; subst w1)
  go_ret
  exact ⟨rfl, rfl⟩
set_option maxRecDepth 100000 in
theorem dbl_full {w : World} {g : Nat} {v : Value} {gm : Nat} {E : List Raw} {S : Ai.St} (h : AirX w g v gm E S) {i : Int} (hi : S.has i = true) (hf : 4096 ≤ S.L.length) :
    Calls Try.prog 19 #[.pointer (some ⟨g, 0, none⟩), .int .i64 i] w fun e w' => e = .returned (.bool false) ∧ w' = w := by
  have HA := has_any h i
  rw [hi] at HA
  have H1 : Hid (Calls Try.prog 33 #[.pointer (some ⟨g, 0, none⟩), .int .i64 i] w fun e w' => e = .returned (.bool true) ∧ w' = w) := HA
  have c1 := h.c1
  obtain ⟨A, cap, rfl⟩ := h.form
  obtain ⟨n, hn⟩ : ∃ n, S.L.length = n := ⟨_, rfl⟩
  rw [hn] at c1 hf
  have d1 : (4096 : Int) ≤ (n : Int) := by omega
  clear h hn hf HA hi
  go_enter Try.func19, Try.ntmps19
  go_wp2_with (go_at_call 33; refine H1.out.mono ?_; rintro e w1 ⟨rfl, hw⟩; subst w1)
  go_ret
  exact ⟨rfl, rfl⟩
set_option maxRecDepth 100000 in
set_option maxHeartbeats 8000000 in
theorem dbl_yes {w : World} {g : Nat} {v : Value} {gm : Nat} {E : List Raw} {S : Ai.St} (h : AirX w g v gm E S) {k : Nat} (hk : k < S.L.length) (hf : S.L.length < 4096) :
    Calls Try.prog 19 #[.pointer (some ⟨g, 0, none⟩), .int .i64 (k : Int)] w fun e w' => e = .returned (.bool true) ∧ PushEnds w g v gm E S (S.at (k : Int)) w' := by
  have HA := has_any h (k : Int)
  rw [Ai.has_of hk] at HA
  have H1 : Hid (Calls Try.prog 33 #[.pointer (some ⟨g, 0, none⟩), .int .i64 (k : Int)] w fun e w' => e = .returned (.bool true) ∧ w' = w) := HA
  obtain ⟨r, d, hr, hd, e1, e2, hrow⟩ := h.dgs.get hk
  have hre : r ∈ E := List.mem_of_getElem? hr
  have hd' : S.L[k] = d := by rw [List.getElem?_eq_getElem hk] at hd; exact Option.some.inj hd
  have hat : S.at (k : Int) = d := by rw [Ai.at_of hk, hd']
  have hok : ({ S with L := S.L ++ [d] } : Ai.St).Ok := by
    have h1 := Ai.twice_ok h.ok (k : Int)
    unfold Ai.St.twice at h1
    rw [if_pos (by unfold Ai.St.dbl; rw [Ai.has_of hk, decide_eq_true hf]; rfl), hat] at h1
    exact h1
  rw [hat]
  obtain ⟨ub, uc, rfl, hB⟩ := h.und.pos (by rw [h.len]; omega)
  obtain ⟨n, hn⟩ : ∃ n, Hid (E.length = n) := ⟨_, rfl⟩
  have hkn := bnd hk
  have hlf : (n : Int) < 4096 := by have := hn.out; rw [h.len] at this; omega
  rw [← h.len] at hkn
  have c1 : w.cell? ⟨g, 1, none⟩ = some (.slice (some ⟨ub, 0, none⟩) E.length uc) := h.c1
  rw [hn.out] at hkn c1
  obtain ⟨k0, k1⟩ := hkn
  have hR : Hid (∀ u, Bw w u → u.rangeAt ub (k * 3) r.cells) := fun u ku => (hB.keep ku).range hr
  have ho := dg_oneCell hrow
  have HC1 : Hid (∀ u, Bw w u → u.cell? ⟨g, 1, none⟩ = some (.slice (some ⟨ub, 0, none⟩) n uc)) := fun u ku => (ku.cell (p := ⟨g, 1, none⟩) (block_lt_of_cell c1)).trans c1
  have HOwn : Hid (∀ u, Bw w u → u.ownsRow 0 35 3 (.slice (some ⟨ub, 0, none⟩) n uc) n (flat E)) := fun u ku => by
    have := ((h.und.keep ku).own (base := 0) (fun _ _ => Nat.zero_le _))
    rw [hn.out] at this; exact this
  have HPush : Hid (∀ (W : World) (g2 c2 : Nat) (w2 : World), Bw w W → w2.ownsRow 0 35 3 (.slice (some ⟨g2, 0, none⟩) (n + 1) c2) (n + 1) (flat E ++ [.int .i64 r.src, .int .i64 r.dst, r.v]) → (W.alloc (.cells #[.int .i64 r.src, .int .i64 r.dst, r.v] 35)).grownBy w2 (Value.slice (some ⟨ub, 0, none⟩) n uc).ownBlock → ((Value.slice (some ⟨ub, 0, none⟩) n uc).ownBlock = some g2 ∨ g2 = W.heap.size + 1) →
      (w2.cell? ⟨g, 1, none⟩ = some (.slice (some ⟨ub, 0, none⟩) n uc) ∧ w2.frozen? ⟨g, 1, none⟩ = false) ∧ PushEnds w g (.slice (some ⟨ub, 0, none⟩) E.length uc) gm E S d (w2.setCell ⟨g, 1, none⟩ (.slice (some ⟨g2, 0, none⟩) (n + 1) c2))) := fun W g2 c2 w2 kW own2 gr at2 => by
    have e3 := hn.out
    subst e3
    exact h.push kW e1 e2 (hrow.keep kW) (h.sep r hre) (fun Q hE => (hE r hre).mono (fun b hb => .inl hb)) rfl own2 gr at2 hok
  obtain ⟨i0, hi0, hz0, hz1, hz2⟩ := info_parts infoD
  have few1 : Hid (n + 1 ≤ maxLen) := by show _ ≤ _; unfold maxLen; omega
  have few2 : Hid ((n + 1) * 40 ≤ 140737488355328) := by show _ ≤ _; omega
  clear h hB hr hd hd' hat hrow hk hf HA hok e1 e2 hre c1
  have c1 := HC1.out w (Bw.refl _)
  go_enter Try.func19, Try.ntmps19
  go_upto_region 3 with (go_at_call 33; refine H1.out.mono ?_; rintro e w1 ⟨rfl, hw⟩; subst w1)
  clear c1
  have kwd : Bw w w.drew := (Bw.refl w).drew
  refine wp_region_held_drew (S := fun _ => True) (by kernel_rfl) trivial (fun hHeld => ?_)
  generalize w.drew = wd at kwd hHeld ⊢
  refine wpAnyH_take (i := 0) (v := ?_) rfl (by kernel_rfl) (by kernel_rfl) (by kernel_rfl) (fun _ _ _ h => h) (Or.inl ⟨by rfl, ?_⟩) trivial ?_
  rotate_left
  · intro w hSw; clear hSw; go_simp; all_goals (with_reducible rfl)
  try simp only [Act.put, List.setIfInBounds_toArray, List.set_cons_zero, List.set_cons_succ, List.getElem_toArray, List.getElem_cons_succ, List.getElem_cons_zero]
  refine wpAnyH_take (i := 1) (v := ?_) rfl (by kernel_rfl) (by kernel_rfl) (by kernel_rfl) (fun _ _ _ h => h) (Or.inl ⟨by rfl, ?_⟩) trivial ?_
  rotate_left
  · intro w hSw; clear hSw; go_simp; all_goals (with_reducible rfl)
  try simp only [Act.put, List.setIfInBounds_toArray, List.set_cons_zero, List.set_cons_succ, List.getElem_toArray, List.getElem_cons_succ, List.getElem_cons_zero]
  refine wpAnyH_take (i := 2) (v := ?_) rfl (by kernel_rfl) (by kernel_rfl) (by kernel_rfl) (fun _ _ _ h => h) (Or.inl ⟨by rfl, ?_⟩) trivial ?_
  rotate_left
  · intro w hSw; clear hSw; go_simp; all_goals (with_reducible rfl)
  try simp only [Act.put, List.setIfInBounds_toArray, List.set_cons_zero, List.set_cons_succ, List.getElem_toArray, List.getElem_cons_succ, List.getElem_cons_zero]
  refine wpAnyH_take (i := 3) (v := ?_) rfl (by kernel_rfl) (by kernel_rfl) (by kernel_rfl) (fun _ _ _ h => h) (Or.inl ⟨by rfl, ?_⟩) trivial ?_
  rotate_left
  · intro w hSw; clear hSw; go_simp; all_goals (with_reducible rfl)
  try simp only [Act.put, List.setIfInBounds_toArray, List.set_cons_zero, List.set_cons_succ, List.getElem_toArray, List.getElem_cons_succ, List.getElem_cons_zero]
  refine wpAnyH_take (i := 5) (v := ?_) rfl (by kernel_rfl) (by kernel_rfl) (by kernel_rfl) (fun _ _ _ h => h) (Or.inl ⟨by rfl, ?_⟩) trivial ?_
  rotate_left
  · intro w hSw; clear hSw; go_simp; all_goals (with_reducible rfl)
  try simp only [Act.put, List.setIfInBounds_toArray, List.set_cons_zero, List.set_cons_succ, List.getElem_toArray, List.getElem_cons_succ, List.getElem_cons_zero]
  refine wpAnyH_take (i := 6) (v := ?_) rfl (by kernel_rfl) (by kernel_rfl) (by kernel_rfl) (fun _ _ _ h => h) (Or.inl ⟨by rfl, ?_⟩) trivial ?_
  rotate_left
  · intro w hSw; clear hSw; go_simp; all_goals (with_reducible rfl)
  try simp only [Act.put, List.setIfInBounds_toArray, List.set_cons_zero, List.set_cons_succ, List.getElem_toArray, List.getElem_cons_succ, List.getElem_cons_zero]
  refine wpAnyH_take (i := 7) (v := ?_) rfl (by kernel_rfl) (by kernel_rfl) (by kernel_rfl) (fun _ _ _ h => h) (Or.inl ⟨by rfl, ?_⟩) trivial ?_
  rotate_left
  · intro w hSw; clear hSw; go_simp; all_goals (with_reducible rfl)
  try simp only [Act.put, List.setIfInBounds_toArray, List.set_cons_zero, List.set_cons_succ, List.getElem_toArray, List.getElem_cons_succ, List.getElem_cons_zero]
  refine wpAnyH_take (i := 9) (v := ?_) rfl (by kernel_rfl) (by kernel_rfl) (by kernel_rfl) (fun _ _ _ h => h) (Or.inl ⟨by rfl, ?_⟩) trivial ?_
  rotate_left
  · intro w hSw; clear hSw; go_simp; all_goals (with_reducible rfl)
  try simp only [Act.put, List.setIfInBounds_toArray, List.set_cons_zero, List.set_cons_succ, List.getElem_toArray, List.getElem_cons_succ, List.getElem_cons_zero]
  refine wpAnyH_ready (rs := [4, 8]) (by kernel_rfl) (by simp) ?_
  refine (AllReadyH.cons rfl (fun K hK => ?_) (AllReadyH.cons rfl (fun K hK => ?_) AllReadyH.nil))
  · skip
    have c1 := HC1.out wd kwd
    go_simp
    refine hK.out _ _ trivial (fun hHeld => ?_)
    clear hK K
    try simp only [Act.put, List.setIfInBounds_toArray, List.set_cons_zero, List.set_cons_succ, List.getElem_toArray, List.getElem_cons_succ, List.getElem_cons_zero]
    clear c1
    refine wpAnyH_ready (rs := [8]) (by kernel_rfl) (by simp) ?_
    refine (AllReadyH.cons rfl (fun K hK => ?_) AllReadyH.nil)
    have c1 := HC1.out wd kwd
    go_simp
    refine hK.out _ _ trivial (fun hHeld => ?_)
    clear hK K
    try simp only [Act.put, List.setIfInBounds_toArray, List.set_cons_zero, List.set_cons_succ, List.getElem_toArray, List.getElem_cons_succ, List.getElem_cons_zero]
    clear c1
    refine wpAnyH_take (i := 10) (v := ?_) rfl (by kernel_rfl) (by kernel_rfl) (by kernel_rfl) (fun _ _ _ h => h) (Or.inl ⟨by rfl, ?_⟩) trivial ?_
    rotate_left
    · intro w hSw; clear hSw; go_simp; all_goals (with_reducible rfl)
    try simp only [Act.put, List.setIfInBounds_toArray, List.set_cons_zero, List.set_cons_succ, List.getElem_toArray, List.getElem_cons_succ, List.getElem_cons_zero]
    refine wpAnyH_ready (rs := [11]) (by kernel_rfl) (by simp) ?_
    refine (AllReadyH.cons rfl (fun K hK => ?_) AllReadyH.nil)
    refine step_load_mid (by rfl) 35 _ (by rfl) ub (k * 3) (by rfl) r.cells _ (hR.out wd kwd) Try.underlying35 rfl (dg_info _ _ r.v) ?_
    refine hK.out _ _ trivial (fun hHeld => ?_)
    clear hK K
    try simp only [Act.put, List.setIfInBounds_toArray, List.set_cons_zero, List.set_cons_succ, List.getElem_toArray, List.getElem_cons_succ, List.getElem_cons_zero]
    refine wpAnyH_ready (rs := [12]) (by kernel_rfl) (by simp) ?_
    refine (AllReadyH.cons rfl (fun K hK => ?_) AllReadyH.nil)
    go_simp
    refine hK.out _ _ trivial (fun hHeld => ?_)
    clear hK K
    try simp only [Act.put, List.setIfInBounds_toArray, List.set_cons_zero, List.set_cons_succ, List.getElem_toArray, List.getElem_cons_succ, List.getElem_cons_zero]
    refine wpAnyH_ready (rs := [13]) (by kernel_rfl) (by simp) ?_
    refine (AllReadyH.cons rfl (fun K hK => ?_) AllReadyH.nil)
    have kW : Bw w wd := kwd
    refine step_append_lies _ (by rfl) (.tmp 21) (.tmp 29) _ (by rfl) 0 35 i0 _ 3 40 Try.underlying50 hi0 hz0 hz1 hz2 rfl (by omega) _ _ _ (by rfl) ((HOwn.out _ kW).alloc _) ⟨wd.heap.size, 0, none⟩ 1 1 [_, _, _] (by rfl) (by rfl) (World.news_of_block (cs := #[_, _, _]) (t := 35) (fr := (0, 0)) (heap_alloc_new wd _)) (by simp [Value.oneCell']; exact ho) (by omega) few1.out few2.out (Nat.zero_le _) (wd.heap.size + 1) (by simp) ?_
    intro g2 c2 w2 hown2 hgrow2 hat2 hlt2
    obtain ⟨⟨d6, f6⟩, hfin⟩ := HPush.out _ g2 c2 w2 kW hown2 hgrow2 hat2
    replace hfin := (show Hid _ from hfin)
    clear hown2 hgrow2 hat2 hlt2
    refine hK.out _ _ trivial (fun hHeld => ?_)
    clear hK K
    try simp only [Act.put, List.setIfInBounds_toArray, List.set_cons_zero, List.set_cons_succ, List.getElem_toArray, List.getElem_cons_succ, List.getElem_cons_zero]
    refine wpAnyH_take (i := 14) (v := ?_) rfl (by kernel_rfl) (by kernel_rfl) (by kernel_rfl) (fun _ _ _ h => h) (Or.inl ⟨by rfl, ?_⟩) trivial ?_
    rotate_left
    · intro w hSw; clear hSw; go_simp; all_goals (with_reducible rfl)
    try simp only [Act.put, List.setIfInBounds_toArray, List.set_cons_zero, List.set_cons_succ, List.getElem_toArray, List.getElem_cons_succ, List.getElem_cons_zero]
    refine wpAnyH_take (i := 15) (v := ?_) rfl (by kernel_rfl) (by kernel_rfl) (by kernel_rfl) (fun _ _ _ h => h) (Or.inl ⟨by rfl, ?_⟩) trivial ?_
    rotate_left
    · intro w hSw; clear hSw; go_simp; all_goals (with_reducible rfl)
    try simp only [Act.put, List.setIfInBounds_toArray, List.set_cons_zero, List.set_cons_succ, List.getElem_toArray, List.getElem_cons_succ, List.getElem_cons_zero]
    refine wpAnyH_ready (rs := [16]) (by kernel_rfl) (by simp) ?_
    refine (AllReadyH.cons rfl (fun K hK => ?_) AllReadyH.nil)
    go_simp
    refine hK.out _ _ trivial (fun hHeld => ?_)
    clear hK K
    try simp only [Act.put, List.setIfInBounds_toArray, List.set_cons_zero, List.set_cons_succ, List.getElem_toArray, List.getElem_cons_succ, List.getElem_cons_zero]
    refine wpAnyH_done (by kernel_rfl) ?_ _
    go_wp2
    go_ret
    exact ⟨rfl, hfin.out⟩
  · skip
    have c1 := HC1.out wd kwd
    go_simp
    refine hK.out _ _ trivial (fun hHeld => ?_)
    clear hK K
    try simp only [Act.put, List.setIfInBounds_toArray, List.set_cons_zero, List.set_cons_succ, List.getElem_toArray, List.getElem_cons_succ, List.getElem_cons_zero]
    clear c1
    refine wpAnyH_take (i := 10) (v := ?_) rfl (by kernel_rfl) (by kernel_rfl) (by kernel_rfl) (fun _ _ _ h => h) (Or.inl ⟨by rfl, ?_⟩) trivial ?_
    rotate_left
    · intro w hSw; clear hSw; go_simp; all_goals (with_reducible rfl)
    try simp only [Act.put, List.setIfInBounds_toArray, List.set_cons_zero, List.set_cons_succ, List.getElem_toArray, List.getElem_cons_succ, List.getElem_cons_zero]
    refine wpAnyH_ready (rs := [4, 11]) (by kernel_rfl) (by simp) ?_
    refine (AllReadyH.cons rfl (fun K hK => ?_) (AllReadyH.cons rfl (fun K hK => ?_) AllReadyH.nil))
    · skip
      have c1 := HC1.out wd kwd
      go_simp
      refine hK.out _ _ trivial (fun hHeld => ?_)
      clear hK K
      try simp only [Act.put, List.setIfInBounds_toArray, List.set_cons_zero, List.set_cons_succ, List.getElem_toArray, List.getElem_cons_succ, List.getElem_cons_zero]
      clear c1
      refine wpAnyH_ready (rs := [11]) (by kernel_rfl) (by simp) ?_
      refine (AllReadyH.cons rfl (fun K hK => ?_) AllReadyH.nil)
      refine step_load_mid (by rfl) 35 _ (by rfl) ub (k * 3) (by rfl) r.cells _ (hR.out wd kwd) Try.underlying35 rfl (dg_info _ _ r.v) ?_
      refine hK.out _ _ trivial (fun hHeld => ?_)
      clear hK K
      try simp only [Act.put, List.setIfInBounds_toArray, List.set_cons_zero, List.set_cons_succ, List.getElem_toArray, List.getElem_cons_succ, List.getElem_cons_zero]
      refine wpAnyH_ready (rs := [12]) (by kernel_rfl) (by simp) ?_
      refine (AllReadyH.cons rfl (fun K hK => ?_) AllReadyH.nil)
      go_simp
      refine hK.out _ _ trivial (fun hHeld => ?_)
      clear hK K
      try simp only [Act.put, List.setIfInBounds_toArray, List.set_cons_zero, List.set_cons_succ, List.getElem_toArray, List.getElem_cons_succ, List.getElem_cons_zero]
      refine wpAnyH_ready (rs := [13]) (by kernel_rfl) (by simp) ?_
      refine (AllReadyH.cons rfl (fun K hK => ?_) AllReadyH.nil)
      have kW : Bw w wd := kwd
      refine step_append_lies _ (by rfl) (.tmp 21) (.tmp 29) _ (by rfl) 0 35 i0 _ 3 40 Try.underlying50 hi0 hz0 hz1 hz2 rfl (by omega) _ _ _ (by rfl) ((HOwn.out _ kW).alloc _) ⟨wd.heap.size, 0, none⟩ 1 1 [_, _, _] (by rfl) (by rfl) (World.news_of_block (cs := #[_, _, _]) (t := 35) (fr := (0, 0)) (heap_alloc_new wd _)) (by simp [Value.oneCell']; exact ho) (by omega) few1.out few2.out (Nat.zero_le _) (wd.heap.size + 1) (by simp) ?_
      intro g2 c2 w2 hown2 hgrow2 hat2 hlt2
      obtain ⟨⟨d6, f6⟩, hfin⟩ := HPush.out _ g2 c2 w2 kW hown2 hgrow2 hat2
      replace hfin := (show Hid _ from hfin)
      clear hown2 hgrow2 hat2 hlt2
      refine hK.out _ _ trivial (fun hHeld => ?_)
      clear hK K
      try simp only [Act.put, List.setIfInBounds_toArray, List.set_cons_zero, List.set_cons_succ, List.getElem_toArray, List.getElem_cons_succ, List.getElem_cons_zero]
      refine wpAnyH_take (i := 14) (v := ?_) rfl (by kernel_rfl) (by kernel_rfl) (by kernel_rfl) (fun _ _ _ h => h) (Or.inl ⟨by rfl, ?_⟩) trivial ?_
      rotate_left
      · intro w hSw; clear hSw; go_simp; all_goals (with_reducible rfl)
      try simp only [Act.put, List.setIfInBounds_toArray, List.set_cons_zero, List.set_cons_succ, List.getElem_toArray, List.getElem_cons_succ, List.getElem_cons_zero]
      refine wpAnyH_take (i := 15) (v := ?_) rfl (by kernel_rfl) (by kernel_rfl) (by kernel_rfl) (fun _ _ _ h => h) (Or.inl ⟨by rfl, ?_⟩) trivial ?_
      rotate_left
      · intro w hSw; clear hSw; go_simp; all_goals (with_reducible rfl)
      try simp only [Act.put, List.setIfInBounds_toArray, List.set_cons_zero, List.set_cons_succ, List.getElem_toArray, List.getElem_cons_succ, List.getElem_cons_zero]
      refine wpAnyH_ready (rs := [16]) (by kernel_rfl) (by simp) ?_
      refine (AllReadyH.cons rfl (fun K hK => ?_) AllReadyH.nil)
      go_simp
      refine hK.out _ _ trivial (fun hHeld => ?_)
      clear hK K
      try simp only [Act.put, List.setIfInBounds_toArray, List.set_cons_zero, List.set_cons_succ, List.getElem_toArray, List.getElem_cons_succ, List.getElem_cons_zero]
      refine wpAnyH_done (by kernel_rfl) ?_ _
      go_wp2
      go_ret
      exact ⟨rfl, hfin.out⟩
    · skip
      refine step_load_mid (by rfl) 35 _ (by rfl) ub (k * 3) (by rfl) r.cells _ (hR.out wd kwd) Try.underlying35 rfl (dg_info _ _ r.v) ?_
      refine hK.out _ _ trivial (fun hHeld => ?_)
      clear hK K
      try simp only [Act.put, List.setIfInBounds_toArray, List.set_cons_zero, List.set_cons_succ, List.getElem_toArray, List.getElem_cons_succ, List.getElem_cons_zero]
      refine wpAnyH_ready (rs := [4, 12]) (by kernel_rfl) (by simp) ?_
      refine (AllReadyH.cons rfl (fun K hK => ?_) (AllReadyH.cons rfl (fun K hK => ?_) AllReadyH.nil))
      · skip
        have c1 := HC1.out wd kwd
        go_simp
        refine hK.out _ _ trivial (fun hHeld => ?_)
        clear hK K
        try simp only [Act.put, List.setIfInBounds_toArray, List.set_cons_zero, List.set_cons_succ, List.getElem_toArray, List.getElem_cons_succ, List.getElem_cons_zero]
        clear c1
        refine wpAnyH_ready (rs := [12]) (by kernel_rfl) (by simp) ?_
        refine (AllReadyH.cons rfl (fun K hK => ?_) AllReadyH.nil)
        go_simp
        refine hK.out _ _ trivial (fun hHeld => ?_)
        clear hK K
        try simp only [Act.put, List.setIfInBounds_toArray, List.set_cons_zero, List.set_cons_succ, List.getElem_toArray, List.getElem_cons_succ, List.getElem_cons_zero]
        refine wpAnyH_ready (rs := [13]) (by kernel_rfl) (by simp) ?_
        refine (AllReadyH.cons rfl (fun K hK => ?_) AllReadyH.nil)
        have kW : Bw w wd := kwd
        refine step_append_lies _ (by rfl) (.tmp 21) (.tmp 29) _ (by rfl) 0 35 i0 _ 3 40 Try.underlying50 hi0 hz0 hz1 hz2 rfl (by omega) _ _ _ (by rfl) ((HOwn.out _ kW).alloc _) ⟨wd.heap.size, 0, none⟩ 1 1 [_, _, _] (by rfl) (by rfl) (World.news_of_block (cs := #[_, _, _]) (t := 35) (fr := (0, 0)) (heap_alloc_new wd _)) (by simp [Value.oneCell']; exact ho) (by omega) few1.out few2.out (Nat.zero_le _) (wd.heap.size + 1) (by simp) ?_
        intro g2 c2 w2 hown2 hgrow2 hat2 hlt2
        obtain ⟨⟨d6, f6⟩, hfin⟩ := HPush.out _ g2 c2 w2 kW hown2 hgrow2 hat2
        replace hfin := (show Hid _ from hfin)
        clear hown2 hgrow2 hat2 hlt2
        refine hK.out _ _ trivial (fun hHeld => ?_)
        clear hK K
        try simp only [Act.put, List.setIfInBounds_toArray, List.set_cons_zero, List.set_cons_succ, List.getElem_toArray, List.getElem_cons_succ, List.getElem_cons_zero]
        refine wpAnyH_take (i := 14) (v := ?_) rfl (by kernel_rfl) (by kernel_rfl) (by kernel_rfl) (fun _ _ _ h => h) (Or.inl ⟨by rfl, ?_⟩) trivial ?_
        rotate_left
        · intro w hSw; clear hSw; go_simp; all_goals (with_reducible rfl)
        try simp only [Act.put, List.setIfInBounds_toArray, List.set_cons_zero, List.set_cons_succ, List.getElem_toArray, List.getElem_cons_succ, List.getElem_cons_zero]
        refine wpAnyH_take (i := 15) (v := ?_) rfl (by kernel_rfl) (by kernel_rfl) (by kernel_rfl) (fun _ _ _ h => h) (Or.inl ⟨by rfl, ?_⟩) trivial ?_
        rotate_left
        · intro w hSw; clear hSw; go_simp; all_goals (with_reducible rfl)
        try simp only [Act.put, List.setIfInBounds_toArray, List.set_cons_zero, List.set_cons_succ, List.getElem_toArray, List.getElem_cons_succ, List.getElem_cons_zero]
        refine wpAnyH_ready (rs := [16]) (by kernel_rfl) (by simp) ?_
        refine (AllReadyH.cons rfl (fun K hK => ?_) AllReadyH.nil)
        go_simp
        refine hK.out _ _ trivial (fun hHeld => ?_)
        clear hK K
        try simp only [Act.put, List.setIfInBounds_toArray, List.set_cons_zero, List.set_cons_succ, List.getElem_toArray, List.getElem_cons_succ, List.getElem_cons_zero]
        refine wpAnyH_done (by kernel_rfl) ?_ _
        go_wp2
        go_ret
        exact ⟨rfl, hfin.out⟩
      · skip
        go_simp
        refine hK.out _ _ trivial (fun hHeld => ?_)
        clear hK K
        try simp only [Act.put, List.setIfInBounds_toArray, List.set_cons_zero, List.set_cons_succ, List.getElem_toArray, List.getElem_cons_succ, List.getElem_cons_zero]
        refine wpAnyH_ready (rs := [4]) (by kernel_rfl) (by simp) ?_
        refine (AllReadyH.cons rfl (fun K hK => ?_) AllReadyH.nil)
        have c1 : ∀ o, (wd.alloc o).cell? ⟨g, 1, none⟩ = _ := fun o => HC1.out _ (bw_allocx kwd)
        go_simp
        refine hK.out _ _ trivial (fun hHeld => ?_)
        clear hK K
        try simp only [Act.put, List.setIfInBounds_toArray, List.set_cons_zero, List.set_cons_succ, List.getElem_toArray, List.getElem_cons_succ, List.getElem_cons_zero]
        clear c1
        refine wpAnyH_ready (rs := [13]) (by kernel_rfl) (by simp) ?_
        refine (AllReadyH.cons rfl (fun K hK => ?_) AllReadyH.nil)
        have kW : Bw w wd := kwd
        refine step_append_lies _ (by rfl) (.tmp 21) (.tmp 29) _ (by rfl) 0 35 i0 _ 3 40 Try.underlying50 hi0 hz0 hz1 hz2 rfl (by omega) _ _ _ (by rfl) ((HOwn.out _ kW).alloc _) ⟨wd.heap.size, 0, none⟩ 1 1 [_, _, _] (by rfl) (by rfl) (World.news_of_block (cs := #[_, _, _]) (t := 35) (fr := (0, 0)) (heap_alloc_new wd _)) (by simp [Value.oneCell']; exact ho) (by omega) few1.out few2.out (Nat.zero_le _) (wd.heap.size + 1) (by simp) ?_
        intro g2 c2 w2 hown2 hgrow2 hat2 hlt2
        obtain ⟨⟨d6, f6⟩, hfin⟩ := HPush.out _ g2 c2 w2 kW hown2 hgrow2 hat2
        replace hfin := (show Hid _ from hfin)
        clear hown2 hgrow2 hat2 hlt2
        refine hK.out _ _ trivial (fun hHeld => ?_)
        clear hK K
        try simp only [Act.put, List.setIfInBounds_toArray, List.set_cons_zero, List.set_cons_succ, List.getElem_toArray, List.getElem_cons_succ, List.getElem_cons_zero]
        refine wpAnyH_take (i := 14) (v := ?_) rfl (by kernel_rfl) (by kernel_rfl) (by kernel_rfl) (fun _ _ _ h => h) (Or.inl ⟨by rfl, ?_⟩) trivial ?_
        rotate_left
        · intro w hSw; clear hSw; go_simp; all_goals (with_reducible rfl)
        try simp only [Act.put, List.setIfInBounds_toArray, List.set_cons_zero, List.set_cons_succ, List.getElem_toArray, List.getElem_cons_succ, List.getElem_cons_zero]
        refine wpAnyH_take (i := 15) (v := ?_) rfl (by kernel_rfl) (by kernel_rfl) (by kernel_rfl) (fun _ _ _ h => h) (Or.inl ⟨by rfl, ?_⟩) trivial ?_
        rotate_left
        · intro w hSw; clear hSw; go_simp; all_goals (with_reducible rfl)
        try simp only [Act.put, List.setIfInBounds_toArray, List.set_cons_zero, List.set_cons_succ, List.getElem_toArray, List.getElem_cons_succ, List.getElem_cons_zero]
        refine wpAnyH_ready (rs := [16]) (by kernel_rfl) (by simp) ?_
        refine (AllReadyH.cons rfl (fun K hK => ?_) AllReadyH.nil)
        go_simp
        refine hK.out _ _ trivial (fun hHeld => ?_)
        clear hK K
        try simp only [Act.put, List.setIfInBounds_toArray, List.set_cons_zero, List.set_cons_succ, List.getElem_toArray, List.getElem_cons_succ, List.getElem_cons_zero]
        refine wpAnyH_done (by kernel_rfl) ?_ _
        go_wp2
        go_ret
        exact ⟨rfl, hfin.out⟩
/-- how Send ends -/
def SendEnds (w : World) (g : Nat) (v : Value) (gm : Nat) (E : List Raw) (S : Ai.St) (d : Ai.Dg) (e : Ending) (w' : World) : Prop :=
  e = .returned (.int .i64 (S.sendE d)) ∧ ((S.goes d = true ∧ PushEnds w g v gm E S d w') ∨ (S.goes d = false ∧ Bw w w'))
set_option maxRecDepth 100000 in
set_option maxHeartbeats 16000000 in
theorem send_any {w : World} {g : Nat} {v : Value} {gm : Nat} {E : List Raw} {S : Ai.St} (h : AirX w g v gm E S) {d : Ai.Dg} {u : Value} (hs : In64 d.src) (ht : In64 d.dst) (hu : RowV w u d.b) :
    Calls Try.prog 15 #[.pointer (some ⟨g, 0, none⟩), .agg #[.int .i64 d.src, .int .i64 d.dst, u]] w fun e w' => SendEnds w g v gm E S d e w' := by
  obtain ⟨z, hz⟩ : ∃ z, Hid (w.heap.size = z) := ⟨_, rfl⟩
  obtain ⟨W1, hW1⟩ : ∃ W, Hid (w.alloc (.cells #[.int .i64 d.src, .int .i64 d.dst, u] 35) = W) := ⟨_, rfl⟩
  have kW : Bw w W1 := by rw [← hW1.out]; exact bw_allocx (Bw.refl _)
  have hD : DgAt W1 z d.src d.dst u := by rw [← hW1.out, ← hz.out]; exact heap_alloc_new _ _
  have hsz : z < W1.heap.size := (Array.getElem?_eq_some_iff.1 hD).1
  have HP : Hid (Calls Try.prog 35 #[.pointer (some ⟨g, 0, none⟩), .int .i64 d.src] W1 fun e w' => e = .returned (.bool (S.is d.src)) ∧ w' = W1) := party_any (h.keep kW) d.src
  have HQ : Hid (Calls Try.prog 35 #[.pointer (some ⟨g, 0, none⟩), .int .i64 d.dst] W1 fun e w' => e = .returned (.bool (S.is d.dst)) ∧ w' = W1) := party_any (h.keep kW) d.dst
  have HI : Hid (Calls Try.prog 22 #[.pointer (some ⟨g, 0, none⟩), .int .i64 d.src, .int .i64 d.dst] W1 fun e w' => e = .returned (.bool (S.cut d.src d.dst)) ∧ Bw W1 w') := is_any (h.keep kW) hs ht
  have d0 : W1.cell? ⟨z, 0, none⟩ = some (.int .i64 d.src) := cell_of_row W1 z 0 _ _ _ hD
  have d1 : W1.cell? ⟨z, 1, none⟩ = some (.int .i64 d.dst) := cell_of_row W1 z 1 _ _ _ hD
  have d2 : W1.cell? ⟨z, 2, none⟩ = some u := cell_of_row W1 z 2 _ _ _ hD
  have HNo : Hid (∀ (x : Int) (W : World), S.goes d = false → S.sendE d = x → Bw w W → SendEnds w g v gm E S d (.returned (.int .i64 x)) W) := fun x W h1 h2 h3 => ⟨by rw [h2], .inr ⟨h1, h3⟩⟩
  by_cases bs : S.is d.src = true
  · rw [bs] at HP
    by_cases bt : S.is d.dst = true
    · rw [bt] at HQ
      have hfit : S.fits d = true := by unfold Ai.St.fits; rw [bs, bt]; rfl
      obtain ⟨A, uc, rfl, hu1, hu2, hu3, hu4⟩ := id hu
      obtain ⟨m, hm⟩ : ∃ m, Hid (d.b.length = m) := ⟨_, rfl⟩
      by_cases bl : 262144 < d.b.length
      · have HE := HNo.out 2 W1 (by unfold Ai.St.goes; rw [hfit, decide_eq_false (by omega)]; rfl) (by unfold Ai.St.sendE; rw [hfit, if_neg (by decide), if_pos bl]) kW
        replace HE := (show Hid _ from HE)
        have b1 : (262144 : Int) < (m : Int) := by rw [← hm.out]; omega
        rw [hm.out] at d2 hW1
        clear h HI HNo hu hu1 hu2 hu3 hu4 bl hfit bs bt hD
        go_enter Try.func15, Try.ntmps15
        rw [hm.out]
        go_upto_region 1 with fail
        rw [hW1.out, hz.out]
        go_wp2_with (go_at_call 35; first | (refine HP.out.mono ?_; clear HP; rintro e w2 ⟨rfl, hw⟩; subst w2) | (refine HQ.out.mono ?_; rintro e w2 ⟨rfl, hw⟩; subst w2))
        go_ret
        exact HE.out
      · have b1 : ¬ (262144 : Int) < (m : Int) := by rw [← hm.out]; omega
        rw [hm.out] at d2 hW1
        by_cases bc : S.cut d.src d.dst = true
        · have HE : Hid (∀ W, Bw w W → SendEnds w g v gm E S d (.returned (.int .i64 0)) W) := fun W kw => HNo.out 0 W (by unfold Ai.St.goes; rw [bc, Bool.not_true, Bool.and_false, Bool.false_and]) (by unfold Ai.St.sendE; rw [hfit, if_neg (by decide), if_neg bl, if_pos bc]) kw
          rw [bc] at HI
          clear h HNo hu hu1 hu2 hu3 hu4 bl hfit bs bt hD bc
          go_enter Try.func15, Try.ntmps15
          rw [hm.out]
          go_upto_region 1 with fail
          rw [hW1.out, hz.out]
          go_wp2_with (first
            | (go_at_call 35; first | (refine HP.out.mono ?_; clear HP; rintro e w2 ⟨rfl, hw⟩; subst w2) | (refine HQ.out.mono ?_; rintro e w2 ⟨rfl, hw⟩; subst w2))
            | (go_at_call 22; refine HI.out.mono ?_; rintro e w2 ⟨rfl, hb2⟩))
          go_ret
          exact HE.out _ (kW.trans hb2)
        · have bc' : S.cut d.src d.dst = false := by cases e : S.cut d.src d.dst; rfl; exact absurd e bc
          rw [bc'] at HI
          by_cases bf : 4096 ≤ S.L.length
          · have HE : Hid (∀ W, Bw w W → SendEnds w g v gm E S d (.returned (.int .i64 3)) W) := fun W kw => HNo.out 3 W (by unfold Ai.St.goes; rw [decide_eq_false (show ¬ S.L.length < 4096 by omega), Bool.and_false]) (by unfold Ai.St.sendE; rw [hfit, if_neg (by decide), if_neg bl, if_neg bc, if_pos bf]) kw
            obtain ⟨A', cap', e9⟩ := h.form
            obtain ⟨q, hq⟩ : ∃ q, S.L.length = q := ⟨_, rfl⟩
            have c9 : W1.cell? ⟨g, 1, none⟩ = some (.slice A' q cap') := by rw [(h.keep kW).c1, e9, hq]
            have HC1 : Hid (∀ u, Bw W1 u → u.cell? ⟨g, 1, none⟩ = some (.slice A' q cap')) := fun u ku => (ku.cell (p := ⟨g, 1, none⟩) (block_lt_of_cell c9)).trans c9
            have q1 : (4096 : Int) ≤ (q : Int) := by omega
            clear h HNo hu hu1 hu2 hu3 hu4 bl hfit bs bt hD bc bf hq c9 e9
            go_enter Try.func15, Try.ntmps15
            rw [hm.out]
            go_upto_region 1 with fail
            rw [hW1.out, hz.out]
            go_wp2_with (first
              | (go_at_call 35; first | (refine HP.out.mono ?_; clear HP; rintro e w2 ⟨rfl, hw⟩; subst w2) | (refine HQ.out.mono ?_; rintro e w2 ⟨rfl, hw⟩; subst w2))
              | (go_at_call 22; refine HI.out.mono ?_; rintro e w2 ⟨rfl, hb2⟩; have c1 := HC1.out w2 hb2))
            go_ret
            exact HE.out _ (kW.trans hb2)
          · have hgo : S.goes d = true := by unfold Ai.St.goes; rw [hfit, bc', decide_eq_true (show d.b.length ≤ 262144 by omega), decide_eq_true (show S.L.length < 4096 by omega)]; rfl
            have hse : S.sendE d = 0 := by unfold Ai.St.sendE; rw [hfit, if_neg (by decide), if_neg bl, if_neg bc, if_neg bf]
            have hok : ({ S with L := S.L ++ [d] } : Ai.St).Ok := by
              have h1 := Ai.send_ok h.ok d
              unfold Ai.St.send at h1
              rw [if_pos hgo] at h1
              exact h1
            obtain ⟨n, hn⟩ : ∃ n, Hid (E.length = n) := ⟨_, rfl⟩
            have hlf : (n : Int) < 4096 := by have := hn.out; rw [h.len] at this; omega
            obtain ⟨A', cap', e9⟩ := h.form
            have c9 : w.cell? ⟨g, 1, none⟩ = some (.slice A' n cap') := by rw [h.c1, e9, ← h.len, hn.out]
            have ev : v = .slice A' n cap' := by rw [e9, ← h.len, hn.out]
            have HC1 : Hid (∀ u, Bw w u → u.cell? ⟨g, 1, none⟩ = some (.slice A' n cap')) := fun u ku => (ku.cell (p := ⟨g, 1, none⟩) (block_lt_of_cell c9)).trans c9
            have HOwn : Hid (∀ u, Bw w u → u.ownsRow 0 35 3 (.slice A' n cap') n (flat E)) := fun u ku => by
              have := ((h.und.keep ku).own (base := 0) (fun _ _ => Nat.zero_le _))
              rw [hn.out, ev] at this; exact this
            have HPush : Hid (∀ (W : World) (v1 : Value), Bw w W → RowV W v1 d.b → VIn (fun b => w.heap.size ≤ b) v1 → ∀ (g2 c2 : Nat) (w2 : World), w2.ownsRow 0 35 3 (.slice (some ⟨g2, 0, none⟩) (n + 1) c2) (n + 1) (flat E ++ [.int .i64 d.src, .int .i64 d.dst, v1]) → (W.alloc (.cells #[.int .i64 d.src, .int .i64 d.dst, v1] 35)).grownBy w2 (Value.slice A' n cap').ownBlock → ((Value.slice A' n cap').ownBlock = some g2 ∨ g2 = W.heap.size + 1) →
                (w2.cell? ⟨g, 1, none⟩ = some (.slice A' n cap') ∧ w2.frozen? ⟨g, 1, none⟩ = false) ∧ SendEnds w g v gm E S d (.returned (.int .i64 0)) (w2.setCell ⟨g, 1, none⟩ (.slice (some ⟨g2, 0, none⟩) (n + 1) c2))) := fun W v1 kW1 hr1 hv1 g2 c2 w2 own2 gr at2 => by
              rw [← ev] at gr at2 ⊢
              obtain ⟨q1, q2⟩ := h.push (r := ⟨d.src, d.dst, v1⟩) kW1 rfl rfl hr1 (hv1.mono (fun b hb e => by have := h.inlt b e; omega)) (fun Q hE => hv1.mono (fun b hb => .inr hb)) hn.out own2 gr at2 hok
              exact ⟨q1, by rw [hse], .inl ⟨hgo, q2⟩⟩
            have HTw : Hid (∀ W, Bw W1 W → Calls Try.prog 34 #[.agg #[.int .i64 d.src, .int .i64 d.dst, .slice A m uc]] W fun e w' => ∃ v', e = .returned (.agg #[.int .i64 d.src, .int .i64 d.dst, v']) ∧ Hid (RowV w' v' d.b) ∧ Hid (VIn (fun b => W.heap.size ≤ b) v') ∧ Bw W w') := fun W kw => by
              have h1 := twin_any d.src d.dst (hu.keep (kW.trans kw)) (by omega)
              rw [hm.out] at h1
              exact h1
            obtain ⟨i0, hi0, hz0, hz1, hz2⟩ := info_parts infoD
            have few1 : Hid (n + 1 ≤ maxLen) := by show _ ≤ _; unfold maxLen; omega
            have few2 : Hid ((n + 1) * 40 ≤ 140737488355328) := by show _ ≤ _; omega
            have HDz : Hid (∀ u, Bw W1 u → u.rangeAt z 0 [.int .i64 d.src, .int .i64 d.dst, .slice A m uc]) := fun u ku => by
              rw [hm.out] at hD
              exact DgAt.range (r := ⟨d.src, d.dst, .slice A m uc⟩) ((ku.block z hsz).trans hD)
            have hkW : Hid (Bw w W1) := kW
            clear h HNo hu hu1 hu2 hu3 hu4 bl hfit bs bt hD bc bc' bf c9 e9 ev hok hgo hse kW
            go_enter Try.func15, Try.ntmps15
            rw [hm.out]
            go_upto_region 1 with fail
            rw [hW1.out, hz.out]
            go_upto_region 11 with (first
              | (go_at_call 35; first | (refine HP.out.mono ?_; clear HP; rintro e w2 ⟨rfl, hw⟩; subst w2) | (refine HQ.out.mono ?_; rintro e w2 ⟨rfl, hw⟩; subst w2))
              | (go_at_call 22; refine HI.out.mono ?_; rintro e w2 ⟨rfl, hb2⟩; have c1 := HC1.out w2 (hkW.out.trans hb2)))
            clear c1 d0 d1 d2
            have kwd : Bw W1 w2.drew := hb2.trans (Bw.refl w2).drew
            refine wp_region_held_drew (S := fun _ => True) (by kernel_rfl) trivial (fun hHeld => ?_)
            generalize w2.drew = wd at kwd hHeld ⊢
            refine wpAnyH_take (i := 0) (v := ?_) rfl (by kernel_rfl) (by kernel_rfl) (by kernel_rfl) (fun _ _ _ h => h) (Or.inl ⟨by rfl, ?_⟩) trivial ?_
            rotate_left
            · intro w hSw; clear hSw; go_simp; all_goals (with_reducible rfl)
            try simp only [Act.put, List.setIfInBounds_toArray, List.set_cons_zero, List.set_cons_succ, List.getElem_toArray, List.getElem_cons_succ, List.getElem_cons_zero]
            refine wpAnyH_take (i := 1) (v := ?_) rfl (by kernel_rfl) (by kernel_rfl) (by kernel_rfl) (fun _ _ _ h => h) (Or.inl ⟨by rfl, ?_⟩) trivial ?_
            rotate_left
            · intro w hSw; clear hSw; go_simp; all_goals (with_reducible rfl)
            try simp only [Act.put, List.setIfInBounds_toArray, List.set_cons_zero, List.set_cons_succ, List.getElem_toArray, List.getElem_cons_succ, List.getElem_cons_zero]
            refine wpAnyH_take (i := 2) (v := ?_) rfl (by kernel_rfl) (by kernel_rfl) (by kernel_rfl) (fun _ _ _ h => h) (Or.inl ⟨by rfl, ?_⟩) trivial ?_
            rotate_left
            · intro w hSw; clear hSw; go_simp; all_goals (with_reducible rfl)
            try simp only [Act.put, List.setIfInBounds_toArray, List.set_cons_zero, List.set_cons_succ, List.getElem_toArray, List.getElem_cons_succ, List.getElem_cons_zero]
            refine wpAnyH_take (i := 3) (v := ?_) rfl (by kernel_rfl) (by kernel_rfl) (by kernel_rfl) (fun _ _ _ h => h) (Or.inl ⟨by rfl, ?_⟩) trivial ?_
            rotate_left
            · intro w hSw; clear hSw; go_simp; all_goals (with_reducible rfl)
            try simp only [Act.put, List.setIfInBounds_toArray, List.set_cons_zero, List.set_cons_succ, List.getElem_toArray, List.getElem_cons_succ, List.getElem_cons_zero]
            refine wpAnyH_ready (rs := [4, 5]) (by kernel_rfl) (by simp) ?_
            refine (AllReadyH.cons rfl (fun K hK => ?_) (AllReadyH.cons rfl (fun K hK => ?_) AllReadyH.nil))
            · skip
              have c1 := HC1.out wd (hkW.out.trans kwd)
              go_simp
              refine hK.out _ _ trivial (fun hHeld => ?_)
              clear hK K
              try simp only [Act.put, List.setIfInBounds_toArray, List.set_cons_zero, List.set_cons_succ, List.getElem_toArray, List.getElem_cons_succ, List.getElem_cons_zero]
              clear c1
              refine wpAnyH_ready (rs := [5]) (by kernel_rfl) (by simp) ?_
              refine (AllReadyH.cons rfl (fun K hK => ?_) AllReadyH.nil)
              refine step_load_mid (by rfl) 35 _ (by rfl) z 0 (by rfl) _ _ (HDz.out wd kwd) Try.underlying35 rfl (dg_info _ _ (.slice A m uc)) ?_
              refine hK.out _ _ trivial (fun hHeld => ?_)
              clear hK K
              try simp only [Act.put, List.setIfInBounds_toArray, List.set_cons_zero, List.set_cons_succ, List.getElem_toArray, List.getElem_cons_succ, List.getElem_cons_zero]
              refine wpAnyH_ready (rs := [6]) (by kernel_rfl) (by simp) ?_
              refine (AllReadyH.cons rfl (fun K hK => ?_) AllReadyH.nil)
              go_simp
              refine (HTw.out wd kwd).mono ?_
              rintro e w3 ⟨v1, rfl, hr1, hv1, hb3⟩
              have hv1w : Hid (VIn (fun b => w.heap.size ≤ b) v1) := hv1.out.mono (fun b hb => Nat.le_trans (hkW.out.trans kwd).size hb)
              have ho : Hid (v1.oneCell' = true) := dg_oneCell hr1.out
              refine hK.out _ _ trivial (fun hHeld => ?_)
              clear hK K
              try simp only [Act.put, List.setIfInBounds_toArray, List.set_cons_zero, List.set_cons_succ, List.getElem_toArray, List.getElem_cons_succ, List.getElem_cons_zero]
              refine wpAnyH_ready (rs := [7]) (by kernel_rfl) (by simp) ?_
              refine (AllReadyH.cons rfl (fun K hK => ?_) AllReadyH.nil)
              go_simp
              refine hK.out _ _ trivial (fun hHeld => ?_)
              clear hK K
              try simp only [Act.put, List.setIfInBounds_toArray, List.set_cons_zero, List.set_cons_succ, List.getElem_toArray, List.getElem_cons_succ, List.getElem_cons_zero]
              refine wpAnyH_ready (rs := [8]) (by kernel_rfl) (by simp) ?_
              refine (AllReadyH.cons rfl (fun K hK => ?_) AllReadyH.nil)
              have kW : Bw w w3 := (hkW.out.trans (kwd.trans hb3))
              refine step_append_lies _ (by rfl) (.tmp 44) (.tmp 47) _ (by rfl) 0 35 i0 _ 3 40 Try.underlying50 hi0 hz0 hz1 hz2 rfl (by omega) _ _ _ (by rfl) ((HOwn.out _ kW).alloc _) ⟨w3.heap.size, 0, none⟩ 1 1 [_, _, _] (by rfl) (by rfl) (World.news_of_block (cs := #[_, _, _]) (t := 35) (fr := (0, 0)) (heap_alloc_new w3 _)) (by simp [Value.oneCell']; exact ho.out) (by omega) few1.out few2.out (Nat.zero_le _) (w3.heap.size + 1) (by simp) ?_
              intro g2 c2 w2 hown2 hgrow2 hat2 hlt2
              obtain ⟨⟨d6, f6⟩, hfin⟩ := HPush.out w3 v1 kW hr1.out hv1w.out g2 c2 w2 hown2 hgrow2 hat2
              replace hfin := (show Hid _ from hfin)
              clear hown2 hgrow2 hat2 hlt2
              refine hK.out _ _ trivial (fun hHeld => ?_)
              clear hK K
              try simp only [Act.put, List.setIfInBounds_toArray, List.set_cons_zero, List.set_cons_succ, List.getElem_toArray, List.getElem_cons_succ, List.getElem_cons_zero]
              refine wpAnyH_take (i := 9) (v := ?_) rfl (by kernel_rfl) (by kernel_rfl) (by kernel_rfl) (fun _ _ _ h => h) (Or.inl ⟨by rfl, ?_⟩) trivial ?_
              rotate_left
              · intro w hSw; clear hSw; go_simp; all_goals (with_reducible rfl)
              try simp only [Act.put, List.setIfInBounds_toArray, List.set_cons_zero, List.set_cons_succ, List.getElem_toArray, List.getElem_cons_succ, List.getElem_cons_zero]
              refine wpAnyH_take (i := 10) (v := ?_) rfl (by kernel_rfl) (by kernel_rfl) (by kernel_rfl) (fun _ _ _ h => h) (Or.inl ⟨by rfl, ?_⟩) trivial ?_
              rotate_left
              · intro w hSw; clear hSw; go_simp; all_goals (with_reducible rfl)
              try simp only [Act.put, List.setIfInBounds_toArray, List.set_cons_zero, List.set_cons_succ, List.getElem_toArray, List.getElem_cons_succ, List.getElem_cons_zero]
              refine wpAnyH_ready (rs := [11]) (by kernel_rfl) (by simp) ?_
              refine (AllReadyH.cons rfl (fun K hK => ?_) AllReadyH.nil)
              go_simp
              refine hK.out _ _ trivial (fun hHeld => ?_)
              clear hK K
              try simp only [Act.put, List.setIfInBounds_toArray, List.set_cons_zero, List.set_cons_succ, List.getElem_toArray, List.getElem_cons_succ, List.getElem_cons_zero]
              refine wpAnyH_done (by kernel_rfl) ?_ _
              go_wp2
              go_ret
              exact hfin.out
            · skip
              refine step_load_mid (by rfl) 35 _ (by rfl) z 0 (by rfl) _ _ (HDz.out wd kwd) Try.underlying35 rfl (dg_info _ _ (.slice A m uc)) ?_
              refine hK.out _ _ trivial (fun hHeld => ?_)
              clear hK K
              try simp only [Act.put, List.setIfInBounds_toArray, List.set_cons_zero, List.set_cons_succ, List.getElem_toArray, List.getElem_cons_succ, List.getElem_cons_zero]
              refine wpAnyH_ready (rs := [4, 6]) (by kernel_rfl) (by simp) ?_
              refine (AllReadyH.cons rfl (fun K hK => ?_) (AllReadyH.cons rfl (fun K hK => ?_) AllReadyH.nil))
              · skip
                have c1 := HC1.out wd (hkW.out.trans kwd)
                go_simp
                refine hK.out _ _ trivial (fun hHeld => ?_)
                clear hK K
                try simp only [Act.put, List.setIfInBounds_toArray, List.set_cons_zero, List.set_cons_succ, List.getElem_toArray, List.getElem_cons_succ, List.getElem_cons_zero]
                clear c1
                refine wpAnyH_ready (rs := [6]) (by kernel_rfl) (by simp) ?_
                refine (AllReadyH.cons rfl (fun K hK => ?_) AllReadyH.nil)
                go_simp
                refine (HTw.out wd kwd).mono ?_
                rintro e w3 ⟨v1, rfl, hr1, hv1, hb3⟩
                have hv1w : Hid (VIn (fun b => w.heap.size ≤ b) v1) := hv1.out.mono (fun b hb => Nat.le_trans (hkW.out.trans kwd).size hb)
                have ho : Hid (v1.oneCell' = true) := dg_oneCell hr1.out
                refine hK.out _ _ trivial (fun hHeld => ?_)
                clear hK K
                try simp only [Act.put, List.setIfInBounds_toArray, List.set_cons_zero, List.set_cons_succ, List.getElem_toArray, List.getElem_cons_succ, List.getElem_cons_zero]
                refine wpAnyH_ready (rs := [7]) (by kernel_rfl) (by simp) ?_
                refine (AllReadyH.cons rfl (fun K hK => ?_) AllReadyH.nil)
                go_simp
                refine hK.out _ _ trivial (fun hHeld => ?_)
                clear hK K
                try simp only [Act.put, List.setIfInBounds_toArray, List.set_cons_zero, List.set_cons_succ, List.getElem_toArray, List.getElem_cons_succ, List.getElem_cons_zero]
                refine wpAnyH_ready (rs := [8]) (by kernel_rfl) (by simp) ?_
                refine (AllReadyH.cons rfl (fun K hK => ?_) AllReadyH.nil)
                have kW : Bw w w3 := (hkW.out.trans (kwd.trans hb3))
                refine step_append_lies _ (by rfl) (.tmp 44) (.tmp 47) _ (by rfl) 0 35 i0 _ 3 40 Try.underlying50 hi0 hz0 hz1 hz2 rfl (by omega) _ _ _ (by rfl) ((HOwn.out _ kW).alloc _) ⟨w3.heap.size, 0, none⟩ 1 1 [_, _, _] (by rfl) (by rfl) (World.news_of_block (cs := #[_, _, _]) (t := 35) (fr := (0, 0)) (heap_alloc_new w3 _)) (by simp [Value.oneCell']; exact ho.out) (by omega) few1.out few2.out (Nat.zero_le _) (w3.heap.size + 1) (by simp) ?_
                intro g2 c2 w2 hown2 hgrow2 hat2 hlt2
                obtain ⟨⟨d6, f6⟩, hfin⟩ := HPush.out w3 v1 kW hr1.out hv1w.out g2 c2 w2 hown2 hgrow2 hat2
                replace hfin := (show Hid _ from hfin)
                clear hown2 hgrow2 hat2 hlt2
                refine hK.out _ _ trivial (fun hHeld => ?_)
                clear hK K
                try simp only [Act.put, List.setIfInBounds_toArray, List.set_cons_zero, List.set_cons_succ, List.getElem_toArray, List.getElem_cons_succ, List.getElem_cons_zero]
                refine wpAnyH_take (i := 9) (v := ?_) rfl (by kernel_rfl) (by kernel_rfl) (by kernel_rfl) (fun _ _ _ h => h) (Or.inl ⟨by rfl, ?_⟩) trivial ?_
                rotate_left
                · intro w hSw; clear hSw; go_simp; all_goals (with_reducible rfl)
                try simp only [Act.put, List.setIfInBounds_toArray, List.set_cons_zero, List.set_cons_succ, List.getElem_toArray, List.getElem_cons_succ, List.getElem_cons_zero]
                refine wpAnyH_take (i := 10) (v := ?_) rfl (by kernel_rfl) (by kernel_rfl) (by kernel_rfl) (fun _ _ _ h => h) (Or.inl ⟨by rfl, ?_⟩) trivial ?_
                rotate_left
                · intro w hSw; clear hSw; go_simp; all_goals (with_reducible rfl)
                try simp only [Act.put, List.setIfInBounds_toArray, List.set_cons_zero, List.set_cons_succ, List.getElem_toArray, List.getElem_cons_succ, List.getElem_cons_zero]
                refine wpAnyH_ready (rs := [11]) (by kernel_rfl) (by simp) ?_
                refine (AllReadyH.cons rfl (fun K hK => ?_) AllReadyH.nil)
                go_simp
                refine hK.out _ _ trivial (fun hHeld => ?_)
                clear hK K
                try simp only [Act.put, List.setIfInBounds_toArray, List.set_cons_zero, List.set_cons_succ, List.getElem_toArray, List.getElem_cons_succ, List.getElem_cons_zero]
                refine wpAnyH_done (by kernel_rfl) ?_ _
                go_wp2
                go_ret
                exact hfin.out
              · skip
                go_simp
                refine (HTw.out wd kwd).mono ?_
                rintro e w3 ⟨v1, rfl, hr1, hv1, hb3⟩
                have hv1w : Hid (VIn (fun b => w.heap.size ≤ b) v1) := hv1.out.mono (fun b hb => Nat.le_trans (hkW.out.trans kwd).size hb)
                have ho : Hid (v1.oneCell' = true) := dg_oneCell hr1.out
                refine hK.out _ _ trivial (fun hHeld => ?_)
                clear hK K
                try simp only [Act.put, List.setIfInBounds_toArray, List.set_cons_zero, List.set_cons_succ, List.getElem_toArray, List.getElem_cons_succ, List.getElem_cons_zero]
                refine wpAnyH_ready (rs := [4, 7]) (by kernel_rfl) (by simp) ?_
                refine (AllReadyH.cons rfl (fun K hK => ?_) (AllReadyH.cons rfl (fun K hK => ?_) AllReadyH.nil))
                · skip
                  have c1 := HC1.out w3 (hkW.out.trans (kwd.trans hb3))
                  go_simp
                  refine hK.out _ _ trivial (fun hHeld => ?_)
                  clear hK K
                  try simp only [Act.put, List.setIfInBounds_toArray, List.set_cons_zero, List.set_cons_succ, List.getElem_toArray, List.getElem_cons_succ, List.getElem_cons_zero]
                  clear c1
                  refine wpAnyH_ready (rs := [7]) (by kernel_rfl) (by simp) ?_
                  refine (AllReadyH.cons rfl (fun K hK => ?_) AllReadyH.nil)
                  go_simp
                  refine hK.out _ _ trivial (fun hHeld => ?_)
                  clear hK K
                  try simp only [Act.put, List.setIfInBounds_toArray, List.set_cons_zero, List.set_cons_succ, List.getElem_toArray, List.getElem_cons_succ, List.getElem_cons_zero]
                  refine wpAnyH_ready (rs := [8]) (by kernel_rfl) (by simp) ?_
                  refine (AllReadyH.cons rfl (fun K hK => ?_) AllReadyH.nil)
                  have kW : Bw w w3 := (hkW.out.trans (kwd.trans hb3))
                  refine step_append_lies _ (by rfl) (.tmp 44) (.tmp 47) _ (by rfl) 0 35 i0 _ 3 40 Try.underlying50 hi0 hz0 hz1 hz2 rfl (by omega) _ _ _ (by rfl) ((HOwn.out _ kW).alloc _) ⟨w3.heap.size, 0, none⟩ 1 1 [_, _, _] (by rfl) (by rfl) (World.news_of_block (cs := #[_, _, _]) (t := 35) (fr := (0, 0)) (heap_alloc_new w3 _)) (by simp [Value.oneCell']; exact ho.out) (by omega) few1.out few2.out (Nat.zero_le _) (w3.heap.size + 1) (by simp) ?_
                  intro g2 c2 w2 hown2 hgrow2 hat2 hlt2
                  obtain ⟨⟨d6, f6⟩, hfin⟩ := HPush.out w3 v1 kW hr1.out hv1w.out g2 c2 w2 hown2 hgrow2 hat2
                  replace hfin := (show Hid _ from hfin)
                  clear hown2 hgrow2 hat2 hlt2
                  refine hK.out _ _ trivial (fun hHeld => ?_)
                  clear hK K
                  try simp only [Act.put, List.setIfInBounds_toArray, List.set_cons_zero, List.set_cons_succ, List.getElem_toArray, List.getElem_cons_succ, List.getElem_cons_zero]
                  refine wpAnyH_take (i := 9) (v := ?_) rfl (by kernel_rfl) (by kernel_rfl) (by kernel_rfl) (fun _ _ _ h => h) (Or.inl ⟨by rfl, ?_⟩) trivial ?_
                  rotate_left
                  · intro w hSw; clear hSw; go_simp; all_goals (with_reducible rfl)
                  try simp only [Act.put, List.setIfInBounds_toArray, List.set_cons_zero, List.set_cons_succ, List.getElem_toArray, List.getElem_cons_succ, List.getElem_cons_zero]
                  refine wpAnyH_take (i := 10) (v := ?_) rfl (by kernel_rfl) (by kernel_rfl) (by kernel_rfl) (fun _ _ _ h => h) (Or.inl ⟨by rfl, ?_⟩) trivial ?_
                  rotate_left
                  · intro w hSw; clear hSw; go_simp; all_goals (with_reducible rfl)
                  try simp only [Act.put, List.setIfInBounds_toArray, List.set_cons_zero, List.set_cons_succ, List.getElem_toArray, List.getElem_cons_succ, List.getElem_cons_zero]
                  refine wpAnyH_ready (rs := [11]) (by kernel_rfl) (by simp) ?_
                  refine (AllReadyH.cons rfl (fun K hK => ?_) AllReadyH.nil)
                  go_simp
                  refine hK.out _ _ trivial (fun hHeld => ?_)
                  clear hK K
                  try simp only [Act.put, List.setIfInBounds_toArray, List.set_cons_zero, List.set_cons_succ, List.getElem_toArray, List.getElem_cons_succ, List.getElem_cons_zero]
                  refine wpAnyH_done (by kernel_rfl) ?_ _
                  go_wp2
                  go_ret
                  exact hfin.out
                · skip
                  go_simp
                  refine hK.out _ _ trivial (fun hHeld => ?_)
                  clear hK K
                  try simp only [Act.put, List.setIfInBounds_toArray, List.set_cons_zero, List.set_cons_succ, List.getElem_toArray, List.getElem_cons_succ, List.getElem_cons_zero]
                  refine wpAnyH_ready (rs := [4]) (by kernel_rfl) (by simp) ?_
                  refine (AllReadyH.cons rfl (fun K hK => ?_) AllReadyH.nil)
                  have c1 : ∀ o, (w3.alloc o).cell? ⟨g, 1, none⟩ = _ := fun o => HC1.out _ (bw_allocx (hkW.out.trans (kwd.trans hb3)))
                  go_simp
                  refine hK.out _ _ trivial (fun hHeld => ?_)
                  clear hK K
                  try simp only [Act.put, List.setIfInBounds_toArray, List.set_cons_zero, List.set_cons_succ, List.getElem_toArray, List.getElem_cons_succ, List.getElem_cons_zero]
                  clear c1
                  refine wpAnyH_ready (rs := [8]) (by kernel_rfl) (by simp) ?_
                  refine (AllReadyH.cons rfl (fun K hK => ?_) AllReadyH.nil)
                  have kW : Bw w w3 := (hkW.out.trans (kwd.trans hb3))
                  refine step_append_lies _ (by rfl) (.tmp 44) (.tmp 47) _ (by rfl) 0 35 i0 _ 3 40 Try.underlying50 hi0 hz0 hz1 hz2 rfl (by omega) _ _ _ (by rfl) ((HOwn.out _ kW).alloc _) ⟨w3.heap.size, 0, none⟩ 1 1 [_, _, _] (by rfl) (by rfl) (World.news_of_block (cs := #[_, _, _]) (t := 35) (fr := (0, 0)) (heap_alloc_new w3 _)) (by simp [Value.oneCell']; exact ho.out) (by omega) few1.out few2.out (Nat.zero_le _) (w3.heap.size + 1) (by simp) ?_
                  intro g2 c2 w2 hown2 hgrow2 hat2 hlt2
                  obtain ⟨⟨d6, f6⟩, hfin⟩ := HPush.out w3 v1 kW hr1.out hv1w.out g2 c2 w2 hown2 hgrow2 hat2
                  replace hfin := (show Hid _ from hfin)
                  clear hown2 hgrow2 hat2 hlt2
                  refine hK.out _ _ trivial (fun hHeld => ?_)
                  clear hK K
                  try simp only [Act.put, List.setIfInBounds_toArray, List.set_cons_zero, List.set_cons_succ, List.getElem_toArray, List.getElem_cons_succ, List.getElem_cons_zero]
                  refine wpAnyH_take (i := 9) (v := ?_) rfl (by kernel_rfl) (by kernel_rfl) (by kernel_rfl) (fun _ _ _ h => h) (Or.inl ⟨by rfl, ?_⟩) trivial ?_
                  rotate_left
                  · intro w hSw; clear hSw; go_simp; all_goals (with_reducible rfl)
                  try simp only [Act.put, List.setIfInBounds_toArray, List.set_cons_zero, List.set_cons_succ, List.getElem_toArray, List.getElem_cons_succ, List.getElem_cons_zero]
                  refine wpAnyH_take (i := 10) (v := ?_) rfl (by kernel_rfl) (by kernel_rfl) (by kernel_rfl) (fun _ _ _ h => h) (Or.inl ⟨by rfl, ?_⟩) trivial ?_
                  rotate_left
                  · intro w hSw; clear hSw; go_simp; all_goals (with_reducible rfl)
                  try simp only [Act.put, List.setIfInBounds_toArray, List.set_cons_zero, List.set_cons_succ, List.getElem_toArray, List.getElem_cons_succ, List.getElem_cons_zero]
                  refine wpAnyH_ready (rs := [11]) (by kernel_rfl) (by simp) ?_
                  refine (AllReadyH.cons rfl (fun K hK => ?_) AllReadyH.nil)
                  go_simp
                  refine hK.out _ _ trivial (fun hHeld => ?_)
                  clear hK K
                  try simp only [Act.put, List.setIfInBounds_toArray, List.set_cons_zero, List.set_cons_succ, List.getElem_toArray, List.getElem_cons_succ, List.getElem_cons_zero]
                  refine wpAnyH_done (by kernel_rfl) ?_ _
                  go_wp2
                  go_ret
                  exact hfin.out
    · have bt' : S.is d.dst = false := by cases e : S.is d.dst; rfl; exact absurd e bt
      have hfit : S.fits d = false := by unfold Ai.St.fits; rw [bs, bt']; rfl
      have HE := HNo.out 1 W1 (by unfold Ai.St.goes; rw [hfit]; rfl) (by unfold Ai.St.sendE; rw [hfit, if_pos rfl]) kW
      rw [bt'] at HQ
      replace HE := (show Hid _ from HE)
      clear h HI HNo hu bt' bt bs hD hfit
      go_enter Try.func15, Try.ntmps15
      go_upto_region 1 with fail
      rw [hW1.out, hz.out]
      go_wp2_with (go_at_call 35; first | (refine HP.out.mono ?_; clear HP; rintro e w2 ⟨rfl, hw⟩; subst w2) | (refine HQ.out.mono ?_; rintro e w2 ⟨rfl, hw⟩; subst w2))
      go_ret
      exact HE.out
  · have bs' : S.is d.src = false := by cases e : S.is d.src; rfl; exact absurd e bs
    have hfit : S.fits d = false := by unfold Ai.St.fits; rw [bs', Bool.false_and]
    have HE := HNo.out 1 W1 (by unfold Ai.St.goes; rw [hfit]; rfl) (by unfold Ai.St.sendE; rw [hfit, if_pos rfl]) kW
    rw [bs'] at HP
    replace HE := (show Hid _ from HE)
    clear h HI HNo hu bs bs' hD hfit HQ
    go_enter Try.func15, Try.ntmps15
    go_upto_region 1 with fail
    rw [hW1.out, hz.out]
    go_wp2_with (go_at_call 35; refine HP.out.mono ?_; rintro e w2 ⟨rfl, hw⟩; subst w2)
    go_ret
    exact HE.out
end Go.Proofs.Ytjjnbpbbjaabeaa
