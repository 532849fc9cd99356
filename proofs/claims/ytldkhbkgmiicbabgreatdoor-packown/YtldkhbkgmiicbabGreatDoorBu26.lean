/- Texts of mine, put together. -/
import Derived.Test.YtldkhbkgmiicbabGreatDoorBu19
import Derived.Test.YtldkhbkgmiicbabGreatDoorBu20
import Derived.Test.YtldkhbkgmiicbabGreatDoorBu25

/- Layer 12: the program's own put: bytes, filled, behind what a roll has; as landed at 16cf8173. -/
namespace Go.Proofs.YtldkhbkgmiicbabGreatDoor
open Go.RowKit Go.Deep
set_option linter.unusedVariables false
set_option linter.unusedSimpArgs false

theorem brk_news {w : World} {G : Nat} {l : Hd.B} (h : BrkAt w G l) : ∀ j u, (Lib.byteCells l)[j]? = some u → w.cell? ((⟨G, 0, none⟩ : Addr).add j) = some u := by
  intro j u hu
  have hj : j < l.length := by have := (List.getElem?_eq_some_iff.1 hu).1; rwa [Lib.byteCells_length] at this
  have e := (h.cell hj).1
  have e2 : (Hd.arr l)[j]? = some u := by unfold Hd.arr; rw [List.getElem?_toArray]; exact hu
  rw [Hd.arr_row hj] at e2
  rw [e2] at e
  rw [show (⟨G, 0, none⟩ : Addr).add j = ⟨G, j, none⟩ by unfold Addr.add; split <;> simp_all]
  exact e
theorem step_build_brk {w : World} {ops : Array Oper} {o : Oper} {a : Act} {K : Act → World → Prop} {Q : Exit → Act → World → Prop} {E : Prop} (hgd : o.guard = none) (x : Operand) (ho : o.op = .buildSlice 52 1 #[(0, x)])
    (l : Hd.B) (hl : l.length = 512) (hx : a.eval x = .agg (Hd.arr l)) (hh : K (a.put o.dst (.slice (some ⟨w.heap.size, 0, none⟩) 1 1)) (w.alloc (.cells (Hd.arr l) 89))) :
    if Region.wanted o (yielded ops a.tmps) = true then Oper.wp Tryz.prog o a w K Q else E := by
  have hw : Region.wanted o (yielded ops a.tmps) = true := by simp [Region.wanted, hgd]
  rw [if_pos hw]
  obtain ⟨i0, hi0, hz0, hz1, hz2⟩ := info_parts info_brk3
  refine wp_buildSlice 52 89 1 _ ho (Hd.arr l) i0 _ Tryz.underlying52 hi0 hz0 (by rw [hz1]; omega) (by rw [hz1]; omega) ?_ hh
  rw [hz1]
  simp only [List.map_toArray, List.map_cons, List.map_nil, hx]
  exact fill_one _ _ (by rw [Hd.arr_size, hl])
theorem step_append_brk {w : World} {ops : Array Oper} {o : Oper} {a : Act} {K : Act → World → Prop} {Q : Exit → Act → World → Prop} {E : Prop} (hgd : o.guard = none) (s x : Operand)
    (ho : o.op = .call { callee := .builtin .append, args := #[s, x], argTypes := #[52, 52] })
    (base : Nat) (v : Value) (R : Pk.B) (hs : a.eval s = v) (hown : RollOwn w base v R) (hR : R.length ≤ 1099511627776)
    (G : Nat) (l : Hd.B) (hl : l.length = 512) (hx : a.eval x = .slice (some ⟨G, 0, none⟩) 1 1) (hG : BrkAt w G l) (hbase : base ≤ w.heap.size)
    (hh : ∀ v' w', RollOwn w' base v' (R ++ l) → w.grownBy w' v.ownBlock → (v'.ownBlock = v.ownBlock ∨ ∃ k, v'.ownBlock = some k ∧ w.heap.size ≤ k) → Stays R.length w w' → K (a.put o.dst v') w') :
    if Region.wanted o (yielded ops a.tmps) = true then Oper.wp Tryz.prog o a w K Q else E := by
  have hw : Region.wanted o (yielded ops a.tmps) = true := by simp [Region.wanted, hgd]
  rw [if_pos hw]
  obtain ⟨i0, hi0, hz0, hz1, hz2⟩ := info_parts info_brk3
  obtain ⟨v', w', hrun, h1, h2, h3, h4⟩ := append_more (P := Tryz.prog) w base 52 o.type 89 i0 _ 512 512 Tryz.underlying52 hi0 hz0 hz1 hz2 (by show (Hd.arr Hd.zeros).size = 512; rw [Hd.arr_size, zeros_len]) (by decide) v _ _ hown.2 ⟨G, 0, none⟩ 1 1 (by decide) (Lib.byteCells l) (by rw [Lib.byteCells_length, hl]) (brk_news hG) (Lib.byteCells_one l) (by unfold maxLen; omega) (by omega) hbase
  have hmod := hown.1
  have hown' : RollOwn w' base v' (R ++ l) := by
    refine ⟨by rw [List.length_append]; omega, ?_⟩
    rw [show Lib.byteCells (R ++ l) = Lib.byteCells R ++ Lib.byteCells l by simp [Lib.byteCells], List.length_append, hl, show (R.length + 512) / 512 = R.length / 512 + 1 by omega]
    exact h1
  unfold Oper.wp
  simp [execOp, ho, resolve, invoke, builtin, hs, hx, hrun, Result.andThen]
  exact hh v' w' hown' h2 h3 (fun b u k ys hk hu => h4 b u k ys (by omega) hu)
theorem roll_heap0 {w : World} {g : Nat} {v : Value} {R : Pk.B} (h : RollAt w g v R) (v' : Value) : (w.setCell ⟨g, 0, none⟩ v').heap[g]? = some (.cells #[v', .int .i64 (R.length : Int)] 54 (0, 0)) := by
  have := heap_setCell_same w g 0 _ _ v' h
  simpa using this
theorem roll_heap1 {w : World} {g : Nat} {v : Value} {R R' : Pk.B} (h : w.heap[g]? = some (.cells #[v, .int .i64 (R.length : Int)] 54 (0, 0))) (m : Int) (hm : m = (R'.length : Int)) : RollAt (w.setCell ⟨g, 1, none⟩ (.int .i64 m)) g v R' := by
  have := heap_setCell_same w g 1 _ _ (.int .i64 m) h
  rw [hm] at this ⊢
  simpa [RollAt] using this
theorem own_bx {S : Nat → Prop} {w w' : World} {b : Nat} {e : TypeId} {s k : Nat} {u : Value} {ys : List Value} (h : w.ownsRow b e s u k ys) (bx : Bx S w w') (hu : ∀ x, u.ownBlock = some x → ¬ S x) : w'.ownsRow b e s u k ys := by
  refine ⟨h.1, ?_⟩
  rcases h.2 with h0 | ⟨g, cap, cur, rfl, hb, hc, hr⟩
  · exact .inl h0
  · exact .inr ⟨g, cap, cur, rfl, hb, (bx.block g (Array.getElem?_eq_some_iff.1 hc).1 (hu g rfl)).trans hc, hr⟩
theorem Rolls.aside {base g N : Nat} {v v1 : Value} {R R1 : Pk.B} {w w1 w2 : World} (h : Rolls base g v R R1 w w1 v1) (k : Bx (· = N) w1 w2) (h1 : w.heap.size ≤ N) (h2 : N ≠ g) (h3 : v1.ownBlock ≠ some N) : Rolls base g v R R1 w w2 v1 :=
  ⟨h.at_.keepx k (fun e => h2 e.symm), ⟨h.own.1, own_bx h.own.2 k (fun x hx e => h3 (by rw [hx, e]))⟩, Bx.new h.bx k (fun x hx e => by omega), h.blk, fun b u n ys hn ho => own_bx (h.stays b u n ys hn ho) k (fun x hx e => by have := (World.ownsRow.lt ho x hx).2; omega)⟩
theorem rowat_bx {S : Nat → Prop} {w w' : World} {A : Option Addr} {n : Nat} {f : Nat → Int} (hr : RowAt w A n f) (k : Bx S w w') (hne : ∀ b o, A = some ⟨b, o, none⟩ → 0 < n → b < w.heap.size ∧ ¬ S b) : RowAt w' A n f := by
  refine ⟨?_, hr.2⟩
  rcases hr.1 with h0 | ⟨b, o, rfl, hc⟩
  · exact .inl h0
  · refine .inr ⟨b, o, rfl, fun i hi => ?_⟩
    obtain ⟨h1, h2⟩ := hne b o rfl (by omega)
    rw [World.cell?_of_block (a := ⟨b, o + i, none⟩) (k.block b h1 h2)]
    exact hc i hi
theorem Pk.fill_step {r : Pk.B} {q : Nat} (hq : q = min r.length 512) (h0 : r ≠ []) : Pk.fill r = Hd.ovl Hd.zeros 0 (r.take q) ++ Pk.fill (r.drop q) := by
  have hp : 0 < r.length := List.length_pos_iff.2 h0
  have hlt : (r.take q).length = q := by rw [List.length_take]; omega
  have ho : Hd.ovl Hd.zeros 0 (r.take q) = r.take q ++ List.replicate (512 - q) 0 := by
    unfold Hd.ovl Hd.zeros
    rw [List.take_zero, List.nil_append, Nat.zero_add, hlt, List.drop_replicate]
  rw [ho]
  by_cases h : r.length ≤ 512
  · have e : q = r.length := by omega
    rw [e, List.take_length, List.drop_length, Pk.fill_nil, List.append_nil]
    exact Pk.fill_short h0 h
  · have e : q = 512 := by omega
    subst e
    rw [Nat.sub_self, List.replicate_zero, List.append_nil, ← Pk.fill_cons hlt, List.take_append_drop]
theorem ovl_zeros_len {s : Pk.B} (h : s.length ≤ 512) : (Hd.ovl Hd.zeros 0 s).length = 512 := by rw [Hd.ovl_len (by rw [zeros_len]; omega), zeros_len]
theorem apart_bw {w w' : World} {A : Option Addr} {n g : Nat} {v : Value} (h : Apart w A n g v) (k : Bw w w') : Apart w' A n g v := fun b o e hn => ⟨Nat.lt_of_lt_of_le (h b o e hn).1 k.size, (h b o e hn).2⟩
theorem roll_apart {w : World} {base g : Nat} {v : Value} {R : Pk.B} (h1 : RollAt w g v R) (h2 : RollOwn w base v R) : v.ownBlock ≠ some g := fun e => by
  rcases h2.2.2 with ⟨e1, _⟩ | ⟨g', cap, cur, e1, _, hc, _⟩
  · rw [e1] at e; cases e
  · rw [e1] at e
    cases e
    unfold RollAt at h1
    rw [hc] at h1
    cases h1
theorem roll_grown {w w' : World} {base g : Nat} {v : Value} {R : Pk.B} (h1 : RollAt w g v R) (h2 : RollOwn w base v R) (hg : w.grownBy w' v.ownBlock) : RollAt w' g v R := (hg.block g h1.lt (fun e => roll_apart h1 h2 e.symm)).trans h1
/-- what a round of put goes on with -/
theorem put_next {base g : Nat} {v v1 v2 : Value} {R R1 l : Pk.B} {w w1 w2 w3 : World} (h : Rolls base g v R R1 w w1 v1) (hl : l.length = 512) (ho : RollOwn w2 base v2 (R1 ++ l)) (hb : Bw w1 w3) (hg : w3.grownBy w2 v1.ownBlock) (hk : v2.ownBlock = v1.ownBlock ∨ ∃ k, v2.ownBlock = some k ∧ w3.heap.size ≤ k) (hs : Stays R1.length w3 w2) (hle : R.length ≤ R1.length) (m : Int) (hm : m = ((R1 ++ l).length : Int)) :
    Rolls base g v R (R1 ++ l) w ((w2.setCell ⟨g, 0, none⟩ v2).setCell ⟨g, 1, none⟩ (.int .i64 m)) v2 := by
  have h3 := h.bw hb
  have hgv : v1.ownBlock ≠ some g := fun e => by
    rcases h3.own.2.2 with ⟨e1, _⟩ | ⟨g', cap, cur, e1, _, hc, _⟩
    · rw [e1] at e; cases e
    · rw [e1] at e
      cases e
      have := h3.at_
      unfold RollAt at this
      rw [hc] at this
      cases this
  have hat2 : RollAt w2 g v1 R1 := (hg.block g h3.at_.lt (fun e => hgv e.symm)).trans h3.at_
  have hat : RollAt ((w2.setCell ⟨g, 0, none⟩ v2).setCell ⟨g, 1, none⟩ (.int .i64 m)) g v2 (R1 ++ l) := roll_heap1 (roll_heap0 hat2 v2) m hm
  have bx2 : Bx (fun b => b = g) w2 ((w2.setCell ⟨g, 0, none⟩ v2).setCell ⟨g, 1, none⟩ (.int .i64 m)) := Bx.put (S := fun b => b = g) (Bx.put (S := fun b => b = g) (Bx.refl _ _) rfl) rfl
  have hblk2 : ∀ x, v2.ownBlock = some x → x ≠ g := fun x hx e => by
    rcases hk with e1 | ⟨k, e1, e2⟩
    · rw [e1] at hx; exact hgv (by rw [hx, e])
    · rw [e1] at hx; cases hx; have := h3.at_.lt; omega
  have bx1 : Bx (fun b => b = g ∨ v1.ownBlock = some b) w3 w2 := ⟨hg.os, hg.tape, hg.output, hg.size, fun b hb hn => hg.block b hb (fun e => hn (.inr e.symm))⟩
  refine h3.trans ⟨hat, ⟨ho.1, own_bx ho.2 bx2 hblk2⟩, bx1.trans (bx2.more (fun b hb => .inl hb)), hk, fun b u n ys hn hu => own_bx (hs b u n ys hn hu) bx2 (fun x hx e => ?_)⟩ hle
  subst e
  rcases hu.2 with ⟨e1, _⟩ | ⟨g', cap, cur, e1, _, hc, _⟩
  · rw [e1] at hx; cases hx
  · rw [e1] at hx
    cases hx
    have := h3.at_
    unfold RollAt at this
    rw [hc] at this
    cases this
set_option maxRecDepth 100000 in
set_option maxHeartbeats 4000000 in
theorem put_any (base g : Nat) (A : Option Addr) (n c : Nat) (r R : Pk.B) (v : Value) (hr : r.length = n) (hn : n ≤ 1073741824) (hc : n ≤ c) (hR : R.length ≤ 1073741824) (w : World) (hbase : base ≤ w.heap.size)
    (ha : RollAt w g v R) (ho : RollOwn w base v R) (hrow : RowAt w A n (Hd.rowF r)) (hap : Apart w A n g v) :
    Calls Tryz.prog 33 #[.pointer (some ⟨g, 0, none⟩), .slice A n c] w fun e w' => e = .returned (.tuple #[]) ∧ ∃ v', Rolls base g v R (R ++ Pk.fill r) w w' v' := by
  have hz := zero_brk
  obtain ⟨Z, hZ⟩ : ∃ Z, Hid (Z = Hd.arr Hd.zeros) := ⟨_, rfl⟩
  rw [← hZ.out] at hz
  have HR : Hid (Rolls base g v R R w w v) := Rolls.refl ha ho
  have HROW : Hid (RowAt w A n (Hd.rowF r)) := hrow
  have HAP : Hid (Apart w A n g v) := hap
  have HL : Hid (r.length = n) := hr
  clear ha ho hrow hap hr
  go_enter Tryz.func33, Tryz.ntmps33
  go_wp2
  go_loopg [1] n (fun m s wx => ∃ A' c' r' D v', s = .slice A' m c' ∧ m ≤ c' ∧ m ≤ n ∧ Hid (List.length r' = m ∧ Pk.fill r = D ++ Pk.fill r' ∧ RowAt wx A' m (Hd.rowF r') ∧ Apart wx A' m g v' ∧ Rolls base g v R (R ++ D) w wx v' ∧ (D.length + m ≤ n ∨ m = 0 ∧ D.length ≤ n + 512)))
  case atStart => exact ⟨A, c, r, [], v, rfl, hc, Nat.le_refl _, HL.out, rfl, HROW.out, HAP.out, by rw [List.append_nil]; exact HR.out, .inl (by simp)⟩
  case round =>
    obtain ⟨A', c', r', D, v', rfl, hc', hmn, hI⟩ := hrel
    cases gk with
    | zero =>
      go_wp2
      refine bodyPost_end (results_none rfl _ _ _) rfl ?_
      obtain ⟨h1, h2, h3, h4, h5, h6⟩ := hI.out
      have e : r' = [] := List.eq_nil_of_length_eq_zero h1
      refine ⟨rfl, v', ?_⟩
      rw [h2, e, Pk.fill_nil, List.append_nil]
      exact h5
    | succ k =>
      obtain ⟨h1, h2, h3, h4, h5, h6⟩ := hI.out
      obtain ⟨b, off, rfl, -⟩ := h3.at (k := 0) (Nat.succ_pos _)
      obtain ⟨hb1, hb2, hb3⟩ := h4 b off rfl (Nat.succ_pos _)
      have hgl := h5.at_.lt
      have t1 : (0 : Int) < ((k + 1 : Nat) : Int) := by omega
      have hA1 : Hid (BrkAt (wr.alloc (.cells Z 89)) wr.heap.size Hd.zeros) := by rw [hZ.out]; exact brk_new _ _
      have hw1 : Bw wr (wr.alloc (.cells Z 89)) := bw_alloc7 (Bw.refl _) _
      have HR1 : Hid (RowAt (wr.alloc (.cells Z 89)) (some ⟨b, off, none⟩) (k + 1) (Hd.rowF r')) := h3.keep hw1
      have HRo : Hid (Rolls base g v R (R ++ D) w (wr.alloc (.cells Z 89)) v') := h5.bw hw1
      have HN : Hid (w.heap.size ≤ wr.heap.size ∧ wr.heap.size ≠ g ∧ v'.ownBlock ≠ some wr.heap.size ∧ wr.heap.size ≠ b ∧ b < (wr.alloc (.cells Z 89)).heap.size) := ⟨h5.bx.size, by omega, fun e => by have := (World.ownsRow.lt h5.own.2 _ e).2; omega, by omega, Nat.lt_of_lt_of_le hb1 hw1.size⟩
      have HL1 : Hid (r'.length = k + 1) := h1
      have HF1 : Hid (Pk.fill r = D ++ Pk.fill r') := h2
      have HAp : Hid (b < wr.heap.size ∧ b ≠ g ∧ v'.ownBlock ≠ some b) := ⟨hb1, hb2, hb3⟩
      have HD : Hid (D.length + (k + 1) ≤ n) := (by show _ ≤ _; omega)
      have HG : Hid (base ≤ wr.heap.size) := Nat.le_trans hbase h5.bx.size
      clear h1 h2 h3 h4 h5 h6 hI hb1 hb2 hb3 hgl hw1
      go_upto_region 3 with (refine wpList_copy_brk rfl _ _ (by rfl) wr.heap.size (k + 1) c' Hd.zeros r' _ (by rfl) (by rfl) hA1.out zeros_len HL1.out (Nat.succ_pos _) HR1.out ?_; intro w2 q hq hA2 hB2; have hq0 : 0 < q := (by omega); have hq1 : q ≤ k + 1 := (by omega); have Hq : Hid (q = min (k + 1) 512) := hq; clear hq)
      obtain ⟨A2, hA2e⟩ : ∃ A2, Hid (A2 = (if c' = q then some (⟨b, off, none⟩ : Addr) else some ⟨b, off + q, none⟩)) := ⟨_, rfl⟩
      rw [← hA2e.out]
      obtain ⟨L2, hL2⟩ : ∃ L2, Hid (L2 = Hd.ovl Hd.zeros 0 (r'.take q)) := ⟨_, rfl⟩
      rw [← hL2.out] at hA2
      have hL2l : Hid (L2.length = 512) := by rw [hL2.out]; exact ovl_zeros_len (by rw [List.length_take]; have := Hq.out; omega)
      have HFN : Hid (Pk.fill r = (D ++ L2) ++ Pk.fill (r'.drop q)) := by
        show _ = _
        rw [HF1.out, hL2.out, List.append_assoc, ← Pk.fill_step (by rw [HL1.out]; exact Hq.out) (fun e => by have := HL1.out; rw [e] at this; simp at this)]
      have HRo2 := HRo.out.aside hB2 HN.out.1 HN.out.2.1 HN.out.2.2.1
      have hRow2 : RowAt w2 (some ⟨b, off, none⟩) (k + 1) (Hd.rowF r') := rowat_bx HR1.out hB2 (fun b' o' e _ => by cases e; exact ⟨HN.out.2.2.2.2, fun e => HN.out.2.2.2.1 e.symm⟩)
      have hRowN : RowAt w2 A2 (k + 1 - q) (Hd.rowF (r'.drop q)) := by
        rw [hA2e.out]
        split
        · exact rowat_cutz hq1 hRow2 off (.inr (by omega))
        · exact rowat_cutz hq1 hRow2 _ (.inl rfl)
      have hApN : Apart w2 A2 (k + 1 - q) g v' := fun b' o' e hn => by
        have e2 : b' = b := by
          rw [hA2e.out] at e
          split at e <;> cases e <;> rfl
        rw [e2]
        exact ⟨Nat.lt_of_lt_of_le HN.out.2.2.2.2 hB2.size, HAp.out.2⟩
      have hdr : Bw w2 w2.drew := (Below.refl _ _).drew
      have hbs : base ≤ w2.drew.heap.size := Nat.le_trans HG.out (Nat.le_trans (bw_alloc7 (Bw.refl wr) (.cells Z 89)).size hB2.size)
      refine wp_region_any (by kernel_rfl) ?_
      change wpAny _ _ _ _ _ _ _ (World.drew _)
      have HRo3 := HRo2.bw hdr
      have hA3 := hA2.keep hdr
      have hRow3 := hRowN.keep hdr
      have hAp3 := apart_bw hApN hdr
      clear HRo2 hA2 hRow2 hRowN hApN hB2 hdr HRo HR1 hA1
      generalize w2.drew = w3 at HRo3 hA3 hRow3 hAp3 hbs ⊢
      obtain ⟨M, hM⟩ : ∃ M : Nat, Hid ((R ++ D).length = M) := ⟨_, rfl⟩
      have hMb : M ≤ 2147484160 := by have := hM.out; rw [List.length_append] at this; have := HD.out; omega
      have c0 := HRo3.at_.c0
      refine wpAny_take (i := 0) (v := ?_) rfl (by kernel_rfl) (by kernel_rfl) (by kernel_rfl) (fun _ _ _ h => h) (Or.inl ⟨by rfl, ?_⟩) ?_
      rotate_left
      · intro w; go_simp; all_goals (with_reducible rfl)
      try simp only [Act.put, List.setIfInBounds_toArray, List.set_cons_zero, List.set_cons_succ, List.getElem_toArray, List.getElem_cons_succ, List.getElem_cons_zero]
      refine wpAny_take (i := 1) (v := ?_) rfl (by kernel_rfl) (by kernel_rfl) (by kernel_rfl) (fun _ _ _ h => h) (Or.inl ⟨by rfl, ?_⟩) ?_
      rotate_left
      · intro w; go_simp; all_goals (with_reducible rfl)
      try simp only [Act.put, List.setIfInBounds_toArray, List.set_cons_zero, List.set_cons_succ, List.getElem_toArray, List.getElem_cons_succ, List.getElem_cons_zero]
      refine wpAny_take (i := 2) (v := ?_) rfl (by kernel_rfl) (by kernel_rfl) (by kernel_rfl) (fun _ _ _ h => h) (Or.inl ⟨by rfl, ?_⟩) ?_
      rotate_left
      · intro w; go_simp; all_goals (with_reducible rfl)
      try simp only [Act.put, List.setIfInBounds_toArray, List.set_cons_zero, List.set_cons_succ, List.getElem_toArray, List.getElem_cons_succ, List.getElem_cons_zero]
      refine wpAny_take (i := 3) (v := ?_) rfl (by kernel_rfl) (by kernel_rfl) (by kernel_rfl) (fun _ _ _ h => h) (Or.inl ⟨by rfl, ?_⟩) ?_
      rotate_left
      · intro w; go_simp; all_goals (with_reducible rfl)
      try simp only [Act.put, List.setIfInBounds_toArray, List.set_cons_zero, List.set_cons_succ, List.getElem_toArray, List.getElem_cons_succ, List.getElem_cons_zero]
      refine wpAny_ready (rs := [4, 5]) (by kernel_rfl) (by simp) ?_
      refine AllReady.cons rfl (fun K hK => ?_) (AllReady.cons rfl (fun K hK => ?_) AllReady.nil)
      · go_simp
        refine hK _ _ ?_
        clear hK K
        try simp only [Act.put, List.setIfInBounds_toArray, List.set_cons_zero, List.set_cons_succ, List.getElem_toArray, List.getElem_cons_succ, List.getElem_cons_zero]
        refine wpAny_ready (rs := [5]) (by kernel_rfl) (by simp) ?_
        refine AllReady.cons rfl (fun K hK => ?_) AllReady.nil
        refine step_load_brk (by rfl) _ (by rfl) wr.heap.size L2 hL2l.out (by rfl) hA3 ?_
        refine hK _ _ ?_
        clear hK K
        try simp only [Act.put, List.setIfInBounds_toArray, List.set_cons_zero, List.set_cons_succ, List.getElem_toArray, List.getElem_cons_succ, List.getElem_cons_zero]
        refine wpAny_ready (rs := [6]) (by kernel_rfl) (by simp) ?_
        refine AllReady.cons rfl (fun K hK => ?_) AllReady.nil
        refine step_build_brk (by rfl) _ (by rfl) L2 hL2l.out (by rfl) ?_
        refine hK _ _ ?_
        clear hK K
        try simp only [Act.put, List.setIfInBounds_toArray, List.set_cons_zero, List.set_cons_succ, List.getElem_toArray, List.getElem_cons_succ, List.getElem_cons_zero]
        obtain ⟨w4, hw4⟩ : ∃ V, V = w3.alloc (.cells (Hd.arr L2) 89) := ⟨_, rfl⟩
        have hb4 : Bw w3 w4 := by rw [hw4]; exact bw_alloc7 (Bw.refl _) _
        have hA4 : BrkAt w4 w3.heap.size L2 := by rw [hw4]; exact brk_new _ _
        rw [← hw4]
        clear hw4
        refine wpAny_ready (rs := [7]) (by kernel_rfl) (by simp) ?_
        refine AllReady.cons rfl (fun K hK => ?_) AllReady.nil
        refine step_append_brk (by rfl) _ _ (by rfl) base v' (R ++ D) (by rfl) ⟨HRo3.own.1, own_keep HRo3.own.2 hb4⟩ (by rw [hM.out]; omega) w3.heap.size L2 hL2l.out (by rfl) hA4 (Nat.le_trans hbs hb4.size) ?_
        intro v5 w5 ho5 hg5 hk5 hs5
        obtain ⟨A5, c5, hv5⟩ := own_slice ho5.2
        generalize (R ++ D ++ L2).length / 512 = m5 at hv5
        subst hv5
        refine hK _ _ ?_
        clear hK K
        try simp only [Act.put, List.setIfInBounds_toArray, List.set_cons_zero, List.set_cons_succ, List.getElem_toArray, List.getElem_cons_succ, List.getElem_cons_zero]
        have hat5 := roll_grown (HRo3.at_.keep hb4) ⟨HRo3.own.1, own_keep HRo3.own.2 hb4⟩ hg5
        have f0 := hat5.f0
        have c05 := hat5.c0
        have hat6 := roll_heap0 hat5 (.slice A5 m5 c5)
        rw [hM.out] at hat6
        have c1 : (w5.setCell ⟨g, 0, none⟩ (.slice A5 m5 c5)).cell? ⟨g, 1, none⟩ = some (.int .i64 (M : Int)) := cell_of_row _ g 1 _ _ _ hat6
        have f1 : (w5.setCell ⟨g, 0, none⟩ (.slice A5 m5 c5)).frozen? ⟨g, 1, none⟩ = false := frozen_of_row _ g 1 _ _ hat6
        have HST : Rolls base g v' (R ++ D) (R ++ D ++ L2) w3 ((w5.setCell ⟨g, 0, none⟩ (.slice A5 m5 c5)).setCell ⟨g, 1, none⟩ (.int .i64 ((M : Int) + 512))) (.slice A5 m5 c5) := put_next (Rolls.refl HRo3.at_ HRo3.own) hL2l.out ho5 hb4 hg5 hk5 hs5 (Nat.le_refl _) _ (by rw [List.length_append, hM.out, hL2l.out]; rfl)
        have HNX : Hid (Rolls base g v R (R ++ (D ++ L2)) w ((w5.setCell ⟨g, 0, none⟩ (.slice A5 m5 c5)).setCell ⟨g, 1, none⟩ (.int .i64 ((M : Int) + 512))) (.slice A5 m5 c5)) := by have := HRo3.trans HST (by rw [List.length_append]; omega); rw [List.append_assoc] at this; exact this
        have HRW := HST.row hRow3 hAp3
        have HAX := HST.apart hAp3
        clear HST
        clear hat6 hat5
        refine wpAny_take (i := 8) (v := ?_) rfl (by kernel_rfl) (by kernel_rfl) (by kernel_rfl) (fun _ _ _ h => h) (Or.inl ⟨by rfl, ?_⟩) ?_
        rotate_left
        · intro w; go_simp; all_goals (with_reducible rfl)
        try simp only [Act.put, List.setIfInBounds_toArray, List.set_cons_zero, List.set_cons_succ, List.getElem_toArray, List.getElem_cons_succ, List.getElem_cons_zero]
        refine wpAny_take (i := 9) (v := ?_) rfl (by kernel_rfl) (by kernel_rfl) (by kernel_rfl) (fun _ _ _ h => h) (Or.inl ⟨by rfl, ?_⟩) ?_
        rotate_left
        · intro w; go_simp; all_goals (with_reducible rfl)
        try simp only [Act.put, List.setIfInBounds_toArray, List.set_cons_zero, List.set_cons_succ, List.getElem_toArray, List.getElem_cons_succ, List.getElem_cons_zero]
        refine wpAny_ready (rs := [10]) (by kernel_rfl) (by simp) ?_
        refine AllReady.cons rfl (fun K hK => ?_) AllReady.nil
        go_simp
        refine hK _ _ ?_
        clear hK K
        try simp only [Act.put, List.setIfInBounds_toArray, List.set_cons_zero, List.set_cons_succ, List.getElem_toArray, List.getElem_cons_succ, List.getElem_cons_zero]
        refine wpAny_done (by kernel_rfl) ?_ _
        go_wp2
        go_roundg (k + 1 - q)
        case measure => omega
        case rel => exact ⟨A2, c' - q, r'.drop q, D ++ L2, (.slice A5 m5 c5), rfl, by omega, by omega, by rw [List.length_drop, HL1.out], HFN.out, HRW, HAX, HNX.out, by rw [List.length_append, hL2l.out]; have := Hq.out; have := HD.out; omega⟩
      · refine step_load_brk (by rfl) _ (by rfl) wr.heap.size L2 hL2l.out (by rfl) hA3 ?_
        refine hK _ _ ?_
        clear hK K
        try simp only [Act.put, List.setIfInBounds_toArray, List.set_cons_zero, List.set_cons_succ, List.getElem_toArray, List.getElem_cons_succ, List.getElem_cons_zero]
        refine wpAny_ready (rs := [4, 6]) (by kernel_rfl) (by simp) ?_
        refine AllReady.cons rfl (fun K hK => ?_) (AllReady.cons rfl (fun K hK => ?_) AllReady.nil)
        · go_simp
          refine hK _ _ ?_
          clear hK K
          try simp only [Act.put, List.setIfInBounds_toArray, List.set_cons_zero, List.set_cons_succ, List.getElem_toArray, List.getElem_cons_succ, List.getElem_cons_zero]
          refine wpAny_ready (rs := [6]) (by kernel_rfl) (by simp) ?_
          refine AllReady.cons rfl (fun K hK => ?_) AllReady.nil
          refine step_build_brk (by rfl) _ (by rfl) L2 hL2l.out (by rfl) ?_
          refine hK _ _ ?_
          clear hK K
          try simp only [Act.put, List.setIfInBounds_toArray, List.set_cons_zero, List.set_cons_succ, List.getElem_toArray, List.getElem_cons_succ, List.getElem_cons_zero]
          obtain ⟨w4, hw4⟩ : ∃ V, V = w3.alloc (.cells (Hd.arr L2) 89) := ⟨_, rfl⟩
          have hb4 : Bw w3 w4 := by rw [hw4]; exact bw_alloc7 (Bw.refl _) _
          have hA4 : BrkAt w4 w3.heap.size L2 := by rw [hw4]; exact brk_new _ _
          rw [← hw4]
          clear hw4
          refine wpAny_ready (rs := [7]) (by kernel_rfl) (by simp) ?_
          refine AllReady.cons rfl (fun K hK => ?_) AllReady.nil
          refine step_append_brk (by rfl) _ _ (by rfl) base v' (R ++ D) (by rfl) ⟨HRo3.own.1, own_keep HRo3.own.2 hb4⟩ (by rw [hM.out]; omega) w3.heap.size L2 hL2l.out (by rfl) hA4 (Nat.le_trans hbs hb4.size) ?_
          intro v5 w5 ho5 hg5 hk5 hs5
          obtain ⟨A5, c5, hv5⟩ := own_slice ho5.2
          generalize (R ++ D ++ L2).length / 512 = m5 at hv5
          subst hv5
          refine hK _ _ ?_
          clear hK K
          try simp only [Act.put, List.setIfInBounds_toArray, List.set_cons_zero, List.set_cons_succ, List.getElem_toArray, List.getElem_cons_succ, List.getElem_cons_zero]
          have hat5 := roll_grown (HRo3.at_.keep hb4) ⟨HRo3.own.1, own_keep HRo3.own.2 hb4⟩ hg5
          have f0 := hat5.f0
          have c05 := hat5.c0
          have hat6 := roll_heap0 hat5 (.slice A5 m5 c5)
          rw [hM.out] at hat6
          have c1 : (w5.setCell ⟨g, 0, none⟩ (.slice A5 m5 c5)).cell? ⟨g, 1, none⟩ = some (.int .i64 (M : Int)) := cell_of_row _ g 1 _ _ _ hat6
          have f1 : (w5.setCell ⟨g, 0, none⟩ (.slice A5 m5 c5)).frozen? ⟨g, 1, none⟩ = false := frozen_of_row _ g 1 _ _ hat6
          have HST : Rolls base g v' (R ++ D) (R ++ D ++ L2) w3 ((w5.setCell ⟨g, 0, none⟩ (.slice A5 m5 c5)).setCell ⟨g, 1, none⟩ (.int .i64 ((M : Int) + 512))) (.slice A5 m5 c5) := put_next (Rolls.refl HRo3.at_ HRo3.own) hL2l.out ho5 hb4 hg5 hk5 hs5 (Nat.le_refl _) _ (by rw [List.length_append, hM.out, hL2l.out]; rfl)
          have HNX : Hid (Rolls base g v R (R ++ (D ++ L2)) w ((w5.setCell ⟨g, 0, none⟩ (.slice A5 m5 c5)).setCell ⟨g, 1, none⟩ (.int .i64 ((M : Int) + 512))) (.slice A5 m5 c5)) := by have := HRo3.trans HST (by rw [List.length_append]; omega); rw [List.append_assoc] at this; exact this
          have HRW := HST.row hRow3 hAp3
          have HAX := HST.apart hAp3
          clear HST
          clear hat6 hat5
          refine wpAny_take (i := 8) (v := ?_) rfl (by kernel_rfl) (by kernel_rfl) (by kernel_rfl) (fun _ _ _ h => h) (Or.inl ⟨by rfl, ?_⟩) ?_
          rotate_left
          · intro w; go_simp; all_goals (with_reducible rfl)
          try simp only [Act.put, List.setIfInBounds_toArray, List.set_cons_zero, List.set_cons_succ, List.getElem_toArray, List.getElem_cons_succ, List.getElem_cons_zero]
          refine wpAny_take (i := 9) (v := ?_) rfl (by kernel_rfl) (by kernel_rfl) (by kernel_rfl) (fun _ _ _ h => h) (Or.inl ⟨by rfl, ?_⟩) ?_
          rotate_left
          · intro w; go_simp; all_goals (with_reducible rfl)
          try simp only [Act.put, List.setIfInBounds_toArray, List.set_cons_zero, List.set_cons_succ, List.getElem_toArray, List.getElem_cons_succ, List.getElem_cons_zero]
          refine wpAny_ready (rs := [10]) (by kernel_rfl) (by simp) ?_
          refine AllReady.cons rfl (fun K hK => ?_) AllReady.nil
          go_simp
          refine hK _ _ ?_
          clear hK K
          try simp only [Act.put, List.setIfInBounds_toArray, List.set_cons_zero, List.set_cons_succ, List.getElem_toArray, List.getElem_cons_succ, List.getElem_cons_zero]
          refine wpAny_done (by kernel_rfl) ?_ _
          go_wp2
          go_roundg (k + 1 - q)
          case measure => omega
          case rel => exact ⟨A2, c' - q, r'.drop q, D ++ L2, (.slice A5 m5 c5), rfl, by omega, by omega, by rw [List.length_drop, HL1.out], HFN.out, HRW, HAX, HNX.out, by rw [List.length_append, hL2l.out]; have := Hq.out; have := HD.out; omega⟩
        · refine step_build_brk (by rfl) _ (by rfl) L2 hL2l.out (by rfl) ?_
          refine hK _ _ ?_
          clear hK K
          try simp only [Act.put, List.setIfInBounds_toArray, List.set_cons_zero, List.set_cons_succ, List.getElem_toArray, List.getElem_cons_succ, List.getElem_cons_zero]
          obtain ⟨w4, hw4⟩ : ∃ V, V = w3.alloc (.cells (Hd.arr L2) 89) := ⟨_, rfl⟩
          have hb4 : Bw w3 w4 := by rw [hw4]; exact bw_alloc7 (Bw.refl _) _
          have hA4 : BrkAt w4 w3.heap.size L2 := by rw [hw4]; exact brk_new _ _
          rw [← hw4]
          clear hw4
          have c4 : w4.cell? ⟨g, 0, none⟩ = some v' := (HRo3.at_.keep hb4).c0
          refine wpAny_ready (rs := [4]) (by kernel_rfl) (by simp) ?_
          refine AllReady.cons rfl (fun K hK => ?_) AllReady.nil
          go_simp
          refine hK _ _ ?_
          clear hK K
          try simp only [Act.put, List.setIfInBounds_toArray, List.set_cons_zero, List.set_cons_succ, List.getElem_toArray, List.getElem_cons_succ, List.getElem_cons_zero]
          refine wpAny_ready (rs := [7]) (by kernel_rfl) (by simp) ?_
          refine AllReady.cons rfl (fun K hK => ?_) AllReady.nil
          refine step_append_brk (by rfl) _ _ (by rfl) base v' (R ++ D) (by rfl) ⟨HRo3.own.1, own_keep HRo3.own.2 hb4⟩ (by rw [hM.out]; omega) w3.heap.size L2 hL2l.out (by rfl) hA4 (Nat.le_trans hbs hb4.size) ?_
          intro v5 w5 ho5 hg5 hk5 hs5
          obtain ⟨A5, c5, hv5⟩ := own_slice ho5.2
          generalize (R ++ D ++ L2).length / 512 = m5 at hv5
          subst hv5
          refine hK _ _ ?_
          clear hK K
          try simp only [Act.put, List.setIfInBounds_toArray, List.set_cons_zero, List.set_cons_succ, List.getElem_toArray, List.getElem_cons_succ, List.getElem_cons_zero]
          have hat5 := roll_grown (HRo3.at_.keep hb4) ⟨HRo3.own.1, own_keep HRo3.own.2 hb4⟩ hg5
          have f0 := hat5.f0
          have c05 := hat5.c0
          have hat6 := roll_heap0 hat5 (.slice A5 m5 c5)
          rw [hM.out] at hat6
          have c1 : (w5.setCell ⟨g, 0, none⟩ (.slice A5 m5 c5)).cell? ⟨g, 1, none⟩ = some (.int .i64 (M : Int)) := cell_of_row _ g 1 _ _ _ hat6
          have f1 : (w5.setCell ⟨g, 0, none⟩ (.slice A5 m5 c5)).frozen? ⟨g, 1, none⟩ = false := frozen_of_row _ g 1 _ _ hat6
          have HST : Rolls base g v' (R ++ D) (R ++ D ++ L2) w3 ((w5.setCell ⟨g, 0, none⟩ (.slice A5 m5 c5)).setCell ⟨g, 1, none⟩ (.int .i64 ((M : Int) + 512))) (.slice A5 m5 c5) := put_next (Rolls.refl HRo3.at_ HRo3.own) hL2l.out ho5 hb4 hg5 hk5 hs5 (Nat.le_refl _) _ (by rw [List.length_append, hM.out, hL2l.out]; rfl)
          have HNX : Hid (Rolls base g v R (R ++ (D ++ L2)) w ((w5.setCell ⟨g, 0, none⟩ (.slice A5 m5 c5)).setCell ⟨g, 1, none⟩ (.int .i64 ((M : Int) + 512))) (.slice A5 m5 c5)) := by have := HRo3.trans HST (by rw [List.length_append]; omega); rw [List.append_assoc] at this; exact this
          have HRW := HST.row hRow3 hAp3
          have HAX := HST.apart hAp3
          clear HST
          clear hat6 hat5
          refine wpAny_take (i := 8) (v := ?_) rfl (by kernel_rfl) (by kernel_rfl) (by kernel_rfl) (fun _ _ _ h => h) (Or.inl ⟨by rfl, ?_⟩) ?_
          rotate_left
          · intro w; go_simp; all_goals (with_reducible rfl)
          try simp only [Act.put, List.setIfInBounds_toArray, List.set_cons_zero, List.set_cons_succ, List.getElem_toArray, List.getElem_cons_succ, List.getElem_cons_zero]
          refine wpAny_take (i := 9) (v := ?_) rfl (by kernel_rfl) (by kernel_rfl) (by kernel_rfl) (fun _ _ _ h => h) (Or.inl ⟨by rfl, ?_⟩) ?_
          rotate_left
          · intro w; go_simp; all_goals (with_reducible rfl)
          try simp only [Act.put, List.setIfInBounds_toArray, List.set_cons_zero, List.set_cons_succ, List.getElem_toArray, List.getElem_cons_succ, List.getElem_cons_zero]
          refine wpAny_ready (rs := [10]) (by kernel_rfl) (by simp) ?_
          refine AllReady.cons rfl (fun K hK => ?_) AllReady.nil
          go_simp
          refine hK _ _ ?_
          clear hK K
          try simp only [Act.put, List.setIfInBounds_toArray, List.set_cons_zero, List.set_cons_succ, List.getElem_toArray, List.getElem_cons_succ, List.getElem_cons_zero]
          refine wpAny_done (by kernel_rfl) ?_ _
          go_wp2
          go_roundg (k + 1 - q)
          case measure => omega
          case rel => exact ⟨A2, c' - q, r'.drop q, D ++ L2, (.slice A5 m5 c5), rfl, by omega, by omega, by rw [List.length_drop, HL1.out], HFN.out, HRW, HAX, HNX.out, by rw [List.length_append, hL2l.out]; have := Hq.out; have := HD.out; omega⟩
end Go.Proofs.YtldkhbkgmiicbabGreatDoor
