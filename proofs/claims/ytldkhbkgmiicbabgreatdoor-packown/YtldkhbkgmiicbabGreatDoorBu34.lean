/- Texts of mine, put together. -/
import Derived.Test.YtldkhbkgmiicbabGreatDoorBu33

/- Layer 12: a Writer's Add, open, that takes the item; Add of an open writer, whatever comes (written by mkzv.py). -/
namespace Go.Proofs.YtldkhbkgmiicbabGreatDoor
open Go.RowKit Go.Deep
set_option linter.unusedVariables false
set_option linter.unusedSimpArgs false

theorem step_append_its {w : World} {ops : Array Oper} {o : Oper} {a : Act} {K : Act → World → Prop} {Q : Exit → Act → World → Prop} {E : Prop} (hgd : o.guard = none) (s x : Operand)
    (ho : o.op = .call { callee := .builtin .append, args := #[s, x], argTypes := #[22, 22] })
    (base : Nat) (v : Value) (n : Nat) (xs : List Value) (hs : a.eval s = v) (hown : w.ownsRow base 26 6 v n xs)
    (ad : Addr) (C : Nat) (L : List Tr.Iv) (m : Nat) (hm : L.length = m) (hx : a.eval x = .slice (some ad) m C) (hr : ItsAt w (some ad) L)
    (h63 : n + m ≤ 1000000) (hbase : base ≤ w.heap.size)
    (h0 : 0 < m) (h : ∀ v' w', w'.ownsRow base 26 6 v' (n + m) (xs ++ Tr.cellsI L) → w.grownBy w' v.ownBlock → (v'.ownBlock = v.ownBlock ∨ ∃ k, v'.ownBlock = some k ∧ w.heap.size ≤ k) → K (a.put o.dst v') w') :
    if Region.wanted o (yielded ops a.tmps) = true then Oper.wp Tryz.prog o a w K Q else E := by
  have hw : Region.wanted o (yielded ops a.tmps) = true := by simp [Region.wanted, hgd]
  rw [if_pos hw]
  obtain ⟨i0, hi0, hz0, hz1, hz2⟩ := info_parts info_item
  have hnews : ∀ j u, (Tr.cellsI L)[j]? = some u → w.cell? (ad.add j) = some u := by
    rcases hr.at_ with h0 | ⟨b, off, e1, h2⟩
    · intro j u hu; rw [h0] at hu; simp [Tr.cellsI] at hu
    · cases e1; exact its_news hr
  obtain ⟨v', w', hrun, h1, h2, h3, -⟩ := append_more (P := Tryz.prog) w base 22 o.type 26 i0 _ 6 80 Tryz.underlying22 hi0 hz0 hz1 hz2 rfl (by decide) v _ _ hown ad m C h0 (Tr.cellsI L) (by rw [Tr.cellsI_len, hm]) hnews (Tr.cellsI_one L) (by unfold maxLen; omega) (by omega) hbase
  unfold Oper.wp
  simp [execOp, ho, resolve, invoke, builtin, hs, hx, hrun, Result.andThen]
  exact h v' w' h1 h2 h3
theorem box_bare {w : World} {g : Nat} {y : Tr.Iv} (h : BoxAt w g y) : BoxAt (w.setCell ⟨g, 4, none⟩ (.slice none 0 0)) g (Tr.ivb y.it) := by
  have := heap_setCell_same w g 4 _ _ (.slice none 0 0) h
  unfold BoxAt
  rw [this]
  rfl
theorem wr_set2 {I I' : Value} {cl : Bool} {w : World} {g : Nat} {v : Value} {R : Pk.B} (h : WrAt I cl w g v R) : WrAt I' cl (w.setCell ⟨g, 2, none⟩ I') g v R := heap_setCell_same w g 2 _ _ I' h
theorem own_apart {w : World} {b1 b2 : Nat} {e1 e2 : TypeId} {s1 s2 : Nat} {u u' : Value} {k k' : Nat} {ys ys' : List Value} (h1 : w.ownsRow b1 e1 s1 u k ys) (h2 : w.ownsRow b2 e2 s2 u' k' ys') (hne : e1 ≠ e2) {x : Nat} (hx : u.ownBlock = some x) : u'.ownBlock ≠ some x := fun e => by
  rcases h1.2 with ⟨r, _⟩ | ⟨g1, c1, cur1, r, _, hc1, _⟩
  · rw [r] at hx; cases hx
  rw [r] at hx
  cases hx
  rcases h2.2 with ⟨r2, _⟩ | ⟨g2, c2, cur2, r2, _, hc2, _⟩
  · rw [r2] at e; cases e
  rw [r2] at e
  cases e
  rw [hc1] at hc2
  simp only [Option.some.injEq, Obj.cells.injEq] at hc2
  exact hne hc2.2.1
theorem its_apart12 {I : Value} {cl : Bool} {w : World} {base g : Nat} {v : Value} {R : Pk.B} {u : Value} {k : Nat} {ys : List Value} (h1 : WrAt I cl w g v R) (h2 : w.ownsRow base 26 6 u k ys) : u.ownBlock ≠ some g := fun e => by
  rcases h2.2 with ⟨e1, _⟩ | ⟨g', cap, cur, e1, _, hc, _⟩
  · rw [e1] at e; cases e
  · rw [e1] at e
    cases e
    unfold WrAt at h1
    rw [hc] at h1
    simp only [Option.some.injEq, Obj.cells.injEq] at h1
    exact absurd h1.2.1 (by decide)
/-- what Add of an open writer makes of it -/
def AddedW (base g : Nat) (t t' : List Tr.It) (v : Value) (AI : Option Addr) (cI : Nat) (w w' : World) : Prop :=
  ∃ v' AI' cI', WOk w' base g t' v' AI' cI' ∧ Bx (wIn g v (.slice AI t.length cI)) w w' ∧ ∀ b, wIn g v' (.slice AI' t'.length cI') b → wIn g v (.slice AI t.length cI) b ∨ w.heap.size ≤ b
set_option maxRecDepth 100000 in
/-- the item is kept: the end of Add -/
theorem added_end {w u w9 w10 w11 w12 : World} {base g z : Nat} {t : List Tr.It} {v v9 v6 : Value} {AI : Option Addr} {cI : Nat} {y : Tr.Iv} (HH : WOk w base g t v AI cI) (hy : Tr.Fit y.it) (he : (Tr.chkE (t ++ [y.it])).2 = 0) (hs : ¬ 131072 < (Pk.flat t ++ Pk.pcs y.it).length + 1024)
    (hbg : base ≤ g) (hz : w.heap.size ≤ z) (hu : Bw w u) (hzu : z < u.heap.size) (hr : RollsW (.slice AI t.length cI) false base g v (Pk.flat t) (Pk.flat t ++ Pk.pcs y.it) u w9 v9)
    (k10 : Bx (fun b => b = z) w9 w10) (k11 : Bw w10 w11) (g11 : w11.grownBy w12 (Value.slice AI t.length cI).ownBlock) (o12 : w12.ownsRow base 26 6 v6 (t.length + 1) (Tr.cellsI (t.map Tr.ivb) ++ Tr.cellsI [Tr.ivb y.it]))
    (blk12 : v6.ownBlock = (Value.slice AI t.length cI).ownBlock ∨ ∃ k, v6.ownBlock = some k ∧ w11.heap.size ≤ k) : AddedW base g t (t ++ [y.it]) v AI cI w (w12.setCell ⟨g, 2, none⟩ v6) := by
  have hfl : Pk.flat (t ++ [y.it]) = Pk.flat t ++ Pk.pcs y.it := by
    unfold Pk.flat
    rw [List.flatMap_append]
    simp
  have hc := Tr.chk_zero he
  have hgl := HH.at_.lt
  have hin : ∀ b, wIn g v (.slice AI t.length cI) b → b < w.heap.size := fun b hb => by
    rcases hb with rfl | hb | hb
    · exact hgl
    · exact (World.ownsRow.lt HH.roll.2 b hb).2
    · exact (World.ownsRow.lt HH.its b hb).2
  have hbx9 : Bx (wIn g v (.slice AI t.length cI)) w w9 := (Bx.of_bw hu).trans (hr.bx.more (fun b e => e.elim .inl (fun e => .inr (.inl e))))
  have hbx10 : Bx (wIn g v (.slice AI t.length cI)) w w10 := hbx9.new k10 (fun x hx e => by subst e; omega)
  have hbx11 := hbx10.trans (Bx.of_bw k11)
  have x12 : Bx (fun b => (Value.slice AI t.length cI).ownBlock = some b) w11 w12 := ⟨g11.os, g11.tape, g11.output, g11.size, fun b hb hne => g11.block b hb (fun e => hne e.symm)⟩
  have hbx12 := hbx11.trans (x12.more (fun b e => .inr (.inr e)))
  have x13 : Bx (fun b => b = g) w12 (w12.setCell ⟨g, 2, none⟩ v6) := Bx.put (Bx.refl _ _) rfl
  have hneg : ∀ b, (Value.slice AI t.length cI).ownBlock = some b → b ≠ g := fun b hb e => HH.apart hb (.inl e)
  have hgz : g ≠ z := by omega
  have HI9 : w9.ownsRow base 26 6 (.slice AI t.length cI) t.length (Tr.cellsI (t.map Tr.ivb)) := own_bx (own_keep HH.its hu) hr.bx (fun b hb e => HH.apart hb e)
  have HI11 := own_keep (own_bx HI9 k10 (fun b hb e => by subst e; have := (World.ownsRow.lt HH.its b hb).2; omega)) k11
  have hvz : ∀ b, v9.ownBlock = some b → b ≠ z := fun b hb e => by
    subst e
    rcases hr.blk with h | ⟨k, h1, h2⟩
    · have := (World.ownsRow.lt HH.roll.2 b (by rw [← h]; exact hb)).2; omega
    · rw [h1] at hb; cases hb; omega
  have HR11 := own_keep (own_bx hr.own.2 k10 hvz) k11
  have HR12 := own_bx HR11 x12 (fun b hb e => own_apart HR11 HI11 (by decide) hb e)
  have a12 : WrAt (.slice AI t.length cI) false w12 g v9 (Pk.flat t ++ Pk.pcs y.it) := ((hr.at_.keepx k10 hgz).keep k11).keepx x12 (fun e => hneg g e rfl)
  have HR13 := own_bx HR12 x13 (fun b hb e => by subst e; exact wr_apart a12 ⟨hr.own.1, HR12⟩ hb)
  have HI13 := own_bx o12 x13 (fun b hb e => by subst e; exact its_apart12 a12 o12 hb)
  have a13 := wr_set2 (I' := v6) a12
  have hln : (t ++ [y.it]).length = t.length + 1 := by rw [List.length_append]; rfl
  have hfits : ∀ x ∈ t ++ [y.it], Tr.Fit x := fun x hx => by
    rcases List.mem_append.1 hx with h | h
    · exact HH.fit x h
    · rw [List.mem_singleton.1 h]; exact hy
  have HIf : (w12.setCell ⟨g, 2, none⟩ v6).ownsRow base 26 6 v6 ((t ++ [y.it]).map Tr.ivb).length (Tr.cellsI ((t ++ [y.it]).map Tr.ivb)) := by
    rw [List.length_map, hln, List.map_append, Tr.cellsI_append]
    exact HI13
  obtain ⟨A', cap', e', hle', -, -, -⟩ := its_of_own HIf (fun z hz => by obtain ⟨x, hx, rfl⟩ := List.mem_map.1 hz; exact body_ivb (hfits x hx) _)
  rw [List.length_map] at e' HIf
  subst e'
  rw [← hfl] at a13 HR13
  refine ⟨v9, A', cap', ⟨a13, ⟨by rw [hfl]; exact hr.own.1, HR13⟩, HIf, hc.2, hc.1, by rw [hfl]; omega, hfits⟩, hbx12.trans (x13.more (fun b e => .inl e)), fun b hb => ?_⟩
  rcases hb with rfl | hb | hb
  · exact .inl (.inl rfl)
  · rcases hr.blk with h | ⟨k, h1, h2⟩
    · exact .inl (.inr (.inl (by rw [← h]; exact hb)))
    · rw [h1] at hb; cases hb
      exact .inr (Nat.le_trans hu.size h2)
  · rcases blk12 with h | ⟨k, h1, h2⟩
    · exact .inl (.inr (.inr (by rw [← h]; exact hb)))
    · rw [h1] at hb; cases hb
      exact .inr (Nat.le_trans (Nat.le_trans hu.size hr.bx.size) (Nat.le_trans k10.size (Nat.le_trans k11.size h2)))
theorem WOk.keepx {S : Nat → Prop} {w w' : World} {base g : Nat} {t : List Tr.It} {v : Value} {AI : Option Addr} {cI : Nat} (h : WOk w base g t v AI cI) (k : Bx S w w') (hS : ∀ b, S b → ¬ wIn g v (.slice AI t.length cI) b) : WOk w' base g t v AI cI :=
  ⟨h.at_.keepx k (fun e => hS g e (.inl rfl)), ⟨h.roll.1, own_bx h.roll.2 k (fun x hx e => hS x e (.inr (.inl hx)))⟩, own_bx h.its k (fun x hx e => hS x e (.inr (.inr hx))), h.ok, h.len, h.room, h.fit⟩
theorem WOk.keep {w w' : World} {base g : Nat} {t : List Tr.It} {v : Value} {AI : Option Addr} {cI : Nat} (h : WOk w base g t v AI cI) (k : Bw w w') : WOk w' base g t v AI cI := h.keepx (S := fun _ => False) (Bx.of_bw k) (fun b e => e.elim)
theorem Pk.wr_zero {t : List Tr.It} (h : (Pk.wr t).2.2 = 0) : Pk.wr t = (Pk.flat t ++ List.replicate 1024 0, 0, 0) := by
  rcases Pk.wr_cases t with ⟨h1, e⟩ | ⟨_, i, _, e⟩ | ⟨_, g, e⟩
  · rw [e] at h; exact absurd h h1
  · rw [e] at h; cases h
  · exact e
set_option maxRecDepth 100000 in
set_option maxHeartbeats 8000000 in
theorem wadd_ok {w : World} {base g : Nat} {t : List Tr.It} {v : Value} {AI : Option Addr} {cI : Nat} (h : WOk w base g t v AI cI) (y : Tr.Iv) (hy : BodyAt w y) (he : (Tr.chkE (t ++ [y.it])).2 = 0) (hbase : base ≤ w.heap.size) (hbg : base ≤ g) (hap : Apart w y.ad y.it.body.length g v) (hk : ∀ u, Below base w u → KTAt u) (hs : ¬ 131072 < (Pk.flat t ++ Pk.pcs y.it).length + 1024) :
    Calls Tryz.prog 9 #[.pointer (some ⟨g, 0, none⟩), .agg y.arr] w fun e w' => e = .returned (.int .i64 0) ∧ AddedW base g t (t ++ [y.it]) v AI cI w w' := by
  have HH : Hid (WOk w base g t v AI cI) := h
  have HFit : Hid (Tr.Fit y.it) := hy.fit
  have HE0 : Hid ((Tr.chkE (t ++ [y.it])).2 = 0) := he
  have HS0 : Hid (¬ 131072 < (Pk.flat t ++ Pk.pcs y.it).length + 1024) := hs
  have hgl := h.at_.lt
  have hvl : ∀ k, v.ownBlock = some k → k < w.heap.size ∧ base ≤ k := fun k hk => ⟨(World.ownsRow.lt h.roll.2 k hk).2, (World.ownsRow.lt h.roll.2 k hk).1⟩
  have HLay : Hid (∀ u, Bw w u → Calls Tryz.prog 24 #[.pointer (some ⟨g, 0, none⟩), .agg y.arr] u fun e w' => e = .returned (.int .i64 0) ∧ ∃ v', RollsW (.slice AI t.length cI) false base g v (Pk.flat t) (Pk.flat t ++ Pk.pcs y.it) u w' v') := fun u hu => by
    refine (layW_any (.slice AI t.length cI) false base g y (Pk.flat t) v (by have := h.room; omega) (may_of_chk h.ok he) u (Nat.le_trans hbase hu.size) (h.at_.keep hu) ⟨h.roll.1, own_keep h.roll.2 hu⟩ (hy.keep hu) (fun b o e hn => ⟨Nat.lt_of_lt_of_le (hap b o e hn).1 hu.size, (hap b o e hn).2⟩) (fun u' hu' => hk u' (Below.trans (hu.mono hbase) hu'))).mono fun e w' hl => ?_
    rcases hl with ⟨h0, _⟩ | ⟨_, h1, h2⟩
    · exact absurd h0 hs
    · exact ⟨h1, h2⟩
  have HVG : Hid (∀ b, b = g ∨ v.ownBlock = some b → b < w.heap.size ∧ base ≤ b) := fun b e => e.elim (fun e => by subst e; exact ⟨hgl, hbg⟩) (hvl b)
  have HIB : Hid (∀ b, (Value.slice AI t.length cI).ownBlock = some b → b < w.heap.size) := fun b hb => (World.ownsRow.lt h.its b hb).2
  clear hvl hap hk hs
  obtain ⟨W, hW⟩ : ∃ W, Hid (w.alloc (.cells y.arr 26) = W) := ⟨_, rfl⟩
  obtain ⟨z, hz⟩ : ∃ z, Hid (w.heap.size = z) := ⟨_, rfl⟩
  have hbw : Bw w W := by rw [← hW.out]; exact bw_alloc11 (Bw.refl _) _
  have hX : Hid (BoxAt W z y) := by rw [← hW.out, ← hz.out]; exact BoxAt.new _ _
  have HM := maywr_any (h.at_.keep hbw)
  rw [if_neg (by decide)] at HM
  obtain ⟨E, hE⟩ : ∃ E, Hid ((Tr.chkE (t ++ [y.it])).2 = E) := ⟨_, rfl⟩
  rw [hE.out] at he
  obtain ⟨n, hn⟩ : ∃ n, Hid (t.length = n) := ⟨_, rfl⟩
  have hl := h.len
  have c2 := (h.at_.keep hbw).c2
  obtain ⟨x0, x1, x2, x3, x4, x5⟩ := hX.out.cells
  have hits := h.its
  rw [show t.length = (t.map Tr.ivb).length by rw [List.length_map]] at hits
  obtain ⟨A', cap', he', hle', hI', hni', -⟩ := its_of_own hits (fun y hy => by obtain ⟨x, hx, rfl⟩ := List.mem_map.1 hy; exact body_ivb (h.fit x hx) w)
  cases he'
  rw [List.length_map] at hle'
  have HI : Hid (ItsAt W AI (t.map Tr.ivb)) := hI'.keep hbw
  have HY : Hid (BodyAt W y) := hy.keep hbw
  have HN : Hid (AI = none → cI = 0 ∧ t.map Tr.ivb = []) := hni'
  obtain ⟨M, hM⟩ : ∃ M, Hid (t.map Tr.ivb ++ [y] = M) := ⟨_, rfl⟩
  have hMl : M.length = t.length + 1 := by rw [← hM.out, List.length_append, List.length_map]; rfl
  have HMi : Hid (Tr.chkE (Tr.its M) = Tr.chkE (t ++ [y.it])) := by
    rw [← hM.out, Tr.its_append, Tr.its_ivb]
    exact Tr.chk_bare h.ok y.it
  have HCc : Hid (∀ u k, Bw W u → u.cell? ⟨k, 0, none⟩ = some (.slice AI n cI) → u.cell? ⟨k, 1, none⟩ = some (.slice (some ⟨W.heap.size, 0, none⟩) 1 1) → BoxAt u W.heap.size y → Calls Tryz.prog 23 #[.slice (some ⟨k, 0, none⟩) 2 2] u fun e w' => ConcatEnds u.heap.size M e w' ∧ Bw u w') := fun u k hu k0 k1 k3 => by
    rw [← hM.out]
    exact concat2_any k _ _ cI 1 (t.map Tr.ivb) [y] (by simp) (by rw [List.length_map]; simp; omega) u (by rw [List.length_map, hn.out]; exact k0) k1 (HI.out.keep hu) (its_one k3 (HY.out.keep hu)) (fun e => ⟨by rw [(HN.out e).2]; rfl, (HN.out e).1⟩) (fun e => by cases e)
  have HMb : Hid (∀ u, Bw W u → ∀ z ∈ M, BodyAt u z) := fun u hu z hz => by
    rw [← hM.out] at hz
    rcases List.mem_append.1 hz with hz | hz
    · exact (HI.out.keep hu).body z hz
    · rw [List.mem_singleton.1 hz]; exact HY.out.keep hu
  have HCk : Hid (∀ u A1 c1, M.length ≤ c1 → ItsAt u A1 M → Calls Tryz.prog 22 #[.slice A1 M.length c1] u fun e w' => (∃ a : Nat, e = .returned (.tuple #[.int .i64 (a : Int), .int .i64 E])) ∧ Bw u w') := fun u A1 c1 k2 k4 => by
    have := tcheck_any A1 c1 M (by rw [hMl]; omega) k2 u k4
    rw [HMi.out, hE.out] at this
    exact this.mono fun e w' h => ⟨⟨_, h.1⟩, h.2⟩
  subst he
  rw [hn.out] at c2 hl hle'
  clear h hy hits hI' hni' hMl
  go_enter Tryz.func9, Tryz.ntmps9
  go_wp2_with (first
    | (rw [hW.out, hz.out])
    | (go_at_call 21; refine HM.mono ?_; rintro e w1 ⟨rfl, hw⟩; obtain rfl := hw.symm; clear HM))
  go_region_held3 (fun w' => w'.cell? ⟨g, 2, none⟩ = some (.slice AI n cI) ∧ w'.cell? ⟨z, 0, none⟩ = some (.string (Nm.S y.it.path)) ∧ w'.cell? ⟨z, 1, none⟩ = some (.int .u8 (y.it.kind : Int)) ∧ w'.cell? ⟨z, 2, none⟩ = some (.int .i64 y.it.mode) ∧ w'.cell? ⟨z, 3, none⟩ = some (.int .i64 y.it.time) ∧ w'.cell? ⟨z, 4, none⟩ = some (.slice y.ad y.it.body.length y.cp) ∧ w'.cell? ⟨z, 5, none⟩ = some (.string (Nm.S y.it.to)) ∧ Bw W w')
    (first | exact ⟨c2, x0, x1, x2, x3, x4, x5, Below.drew (Bw.refl _)⟩ | assumption | exact keep_add ⟨c2, x0, x1, x2, x3, x4, x5, Bw.refl _⟩ (by repeat (first | assumption | exact Bw.refl _ | refine Below.drew ?_ | refine bw_alloc11 ?_ _)) | exact keep_add (by assumption) (by assumption))
    (first
      | (go_at_call 23; obtain ⟨bX, d1, d2, d4⟩ := two_built2 W y (.slice AI n cI) (.slice (some ⟨W.heap.size, 0, none⟩) 1 1); refine (HCc.out _ _ bX d1 d2 d4).mono ?_; rintro e w7 ⟨⟨v7, rfl, ho7⟩, hw7⟩; have b7 : Bw W w7 := bX.trans hw7; obtain ⟨A7, c7, hv7, hle7, hI7, hni7, -⟩ := its_of_own ho7 (HMb.out w7 b7); subst hv7; clear ho7 hni7 d1 d2 d4)
      | (go_at_call 22; refine (HCk.out _ A7 c7 hle7 (hI7.keep (by repeat (first | exact Bw.refl _ | refine Below.drew ?_)))).mono ?_; rintro e w8 ⟨⟨r1, rfl⟩, hw8⟩; have b8 : Bw W w8 := Bw.trans (by repeat (first | assumption | refine Below.drew ?_)) hw8))
  rename_i hSe
  have hSw := hSe.2.2.2.2.2.2.2
  obtain ⟨-, s0, s1, s2, s3, s4, s5, -⟩ := hSe
  go_wp2
  have HZ : Hid (∀ u w' v', Bw W u → RollsW (.slice AI t.length cI) false base g v (Pk.flat t) (Pk.flat t ++ Pk.pcs y.it) u w' v' → w'.heap[z]? = u.heap[z]?) := fun u w' v' hu hr => hr.bx.block z (by have := hu.size; have := (Array.getElem?_eq_some_iff.1 hX.out).1; omega) (fun e => by have := (HVG.out z e).1; have := hz.out; omega)
  have hfin : Hid (∀ u w' v', Bw W u → RollsW (.slice AI t.length cI) false base g v (Pk.flat t) (Pk.flat t ++ Pk.pcs y.it) u w' v' → ∃ u v', Bw w u ∧ z < u.heap.size ∧ RollsW (.slice AI t.length cI) false base g v (Pk.flat t) (Pk.flat t ++ Pk.pcs y.it) u w' v' ∧ BoxAt w' z y) := fun u w' v' hu hr =>
    ⟨u, v', hbw.trans hu, by have := hu.size; have := (Array.getElem?_eq_some_iff.1 hX.out).1; omega, hr, (HZ.out u w' v' hu hr).trans (hX.out.keep hu)⟩
  have HSix : Hid (∀ w' : World, (∃ u : World, Bw W u ∧ w'.heap[z]? = u.heap[z]?) → w'.cell? ⟨z, 0, none⟩ = some (.string (Nm.S y.it.path)) ∧ w'.cell? ⟨z, 1, none⟩ = some (.int .u8 (y.it.kind : Int)) ∧ w'.cell? ⟨z, 2, none⟩ = some (.int .i64 y.it.mode) ∧ w'.cell? ⟨z, 3, none⟩ = some (.int .i64 y.it.time) ∧ w'.cell? ⟨z, 4, none⟩ = some (.slice y.ad y.it.body.length y.cp) ∧ w'.cell? ⟨z, 5, none⟩ = some (.string (Nm.S y.it.to))) := fun w' ⟨u, hu, e⟩ => by
    have hb : BoxAt w' z y := e.trans (hX.out.keep hu)
    exact hb.cells
  go_region_held3 (fun w' => w'.cell? ⟨z, 0, none⟩ = some (.string (Nm.S y.it.path)) ∧ w'.cell? ⟨z, 1, none⟩ = some (.int .u8 (y.it.kind : Int)) ∧ w'.cell? ⟨z, 2, none⟩ = some (.int .i64 y.it.mode) ∧ w'.cell? ⟨z, 3, none⟩ = some (.int .i64 y.it.time) ∧ w'.cell? ⟨z, 4, none⟩ = some (.slice y.ad y.it.body.length y.cp) ∧ w'.cell? ⟨z, 5, none⟩ = some (.string (Nm.S y.it.to)))
    (first | exact ⟨s0, s1, s2, s3, s4, s5⟩ | exact hS9 | assumption)
    (first | ((go_at_call 24; refine (HLay.out _ (hbw.trans (by first | exact hSw | exact Below.drew hSw | assumption))).mono ?_; rintro e w9 ⟨rfl, v9, hr9⟩; have hf9 := hfin.out _ _ _ (by first | exact hSw | exact Below.drew hSw | assumption) hr9; have hS9 := HSix.out _ ⟨_, (by first | exact hSw | exact Below.drew hSw | assumption), HZ.out _ _ _ (by first | exact hSw | exact Below.drew hSw | assumption) hr9⟩; have HF9 : Hid _ := hf9; clear hf9 hr9)))
  clear hfin HZ HSix HLay s0 s1 s2 s3 s4 s5
  have hF := HF9.out
  obtain ⟨u9, vr, hu9, hzu, hr9, hb9⟩ := hF
  have HR9 : Hid (RollsW (.slice AI t.length cI) false base g v (Pk.flat t) (Pk.flat t ++ Pk.pcs y.it) u9 w9 vr) := hr9
  have hg9 := hr9.at_
  have fz4 := box_cell4 hb9
  have x4b := hb9.cells.2.2.2.2.1
  clear hr9 hS9
  go_upto_region 11 with fail
  have hzw : w.heap.size ≤ z := by rw [hz.out]; exact Nat.le_refl _
  have hbb := box_bare hb9
  have k10 : Bx (fun b => b = z) w9 (w9.setCell ⟨z, 4, none⟩ (.slice none 0 0)) := Bx.put (Bx.refl _ _) rfl
  obtain ⟨w10, hw10⟩ : ∃ V, Hid (w9.setCell ⟨z, 4, none⟩ (.slice none 0 0) = V) := ⟨_, rfl⟩
  rw [hw10.out] at hbb k10 ⊢
  have hgz : g ≠ z := by have := HVG.out g (.inl rfl); omega
  have hg10 := (hg9.keepx k10 hgz).keep (Bw.refl w10).drew
  have hbd := hbb.keep (Bw.refl w10).drew
  have e2 := hg10.c2
  rw [hn.out] at e2
  clear fz4 x4b hg9 hb9 hbb
  have k11 : Bw w10 (w10.drew.alloc (.cells (Tr.ivb y.it).arr 26)) := bw_alloc11 (Bw.refl w10).drew _
  have HI11 : Hid (ItsAt (w10.drew.alloc (.cells (Tr.ivb y.it).arr 26)) (some ⟨w10.drew.heap.size, 0, none⟩) [Tr.ivb y.it]) := its_one (BoxAt.new _ _) (body_ivb HFit.out _)
  have HO9 : w9.ownsRow base 26 6 (.slice AI t.length cI) t.length (Tr.cellsI (t.map Tr.ivb)) := own_bx (own_keep HH.out.its hu9) HR9.out.bx (fun b hb e => HH.out.apart hb e)
  have HO11 : Hid ((w10.drew.alloc (.cells (Tr.ivb y.it).arr 26)).ownsRow base 26 6 (.slice AI n cI) n (Tr.cellsI (t.map Tr.ivb))) := by
    rw [← hn.out]
    exact own_keep (own_bx HO9 k10 (fun b hb e => by subst e; have := HIB.out b hb; omega)) k11
  have HB11 : Hid (base ≤ (w10.drew.alloc (.cells (Tr.ivb y.it).arr 26)).heap.size) := Nat.le_trans hbase (Nat.le_trans hu9.size (Nat.le_trans HR9.out.bx.size (Nat.le_trans k10.size k11.size)))
  have hbn : BoxAt (w10.drew.alloc (.cells (Tr.ivb y.it).arr 26)) z (Tr.ivb y.it) := hbd.keep (bw_alloc11 (Bw.refl _) _)
  have HN12 : Hid (∀ w12, (w10.drew.alloc (.cells (Tr.ivb y.it).arr 26)).grownBy w12 (Value.slice AI n cI).ownBlock → BoxAt w12 z (Tr.ivb y.it) ∧ WrAt (.slice AI n cI) false w12 g vr (Pk.flat t ++ Pk.pcs y.it)) := fun w12 hg => by
    have hzl : z < w.heap.size ∨ w.heap.size ≤ z := Nat.lt_or_ge _ _
    have hne : ∀ b, (Value.slice AI n cI).ownBlock = some b → b < w.heap.size ∧ b ≠ g := fun b hb => by
      rw [← hn.out] at hb
      exact ⟨HIB.out b hb, fun e => HH.out.apart hb (.inl e)⟩
    rw [hn.out] at hg10
    exact ⟨(hg.block z (Array.getElem?_eq_some_iff.1 hbn).1 (fun e => by have := (hne z e.symm).1; omega)).trans hbn, (hg.block g (hg10.keep (bw_alloc11 (Bw.refl _) _)).lt (fun e => (hne g e.symm).2 rfl)).trans (hg10.keep (bw_alloc11 (Bw.refl _) _))⟩
  have e2' : (w10.drew.alloc (.cells (Tr.ivb y.it).arr 26)).cell? ⟨g, 2, none⟩ = some (.slice AI n cI) := keep_cell11 e2 (bw_alloc11 (Bw.refl _) _)
  obtain ⟨w11, hw11⟩ : ∃ V, Hid (w10.drew.alloc (.cells (Tr.ivb y.it).arr 26) = V) := ⟨_, rfl⟩
  rw [hw11.out] at k11 HI11 HO11 HB11 hbn HN12 e2'
  clear hbase
  refine wp_region_held_drew (S := fun w' => BoxAt w' z (Tr.ivb y.it)) (by kernel_rfl) (hbd) (fun hHeld => ?_)
  refine wpAnyH_take (i := 0) (v := ?_) rfl (by kernel_rfl) (by kernel_rfl) (by kernel_rfl) (fun _ _ _ h => h) (Or.inl ⟨by rfl, ?_⟩) (by assumption) ?_
  rotate_left
  · intro w hSw; (try dsimp only at hSw); go_simp; all_goals (with_reducible rfl)
  try simp only [Act.put, List.setIfInBounds_toArray, List.set_cons_zero, List.set_cons_succ, List.getElem_toArray, List.getElem_cons_succ, List.getElem_cons_zero]
  refine wpAnyH_take (i := 1) (v := ?_) rfl (by kernel_rfl) (by kernel_rfl) (by kernel_rfl) (fun _ _ _ h => h) (Or.inl ⟨by rfl, ?_⟩) (by assumption) ?_
  rotate_left
  · intro w hSw; (try dsimp only at hSw); go_simp; all_goals (with_reducible rfl)
  try simp only [Act.put, List.setIfInBounds_toArray, List.set_cons_zero, List.set_cons_succ, List.getElem_toArray, List.getElem_cons_succ, List.getElem_cons_zero]
  refine wpAnyH_take (i := 2) (v := ?_) rfl (by kernel_rfl) (by kernel_rfl) (by kernel_rfl) (fun _ _ _ h => h) (Or.inl ⟨by rfl, ?_⟩) (by assumption) ?_
  rotate_left
  · intro w hSw; (try dsimp only at hSw); go_simp; all_goals (with_reducible rfl)
  try simp only [Act.put, List.setIfInBounds_toArray, List.set_cons_zero, List.set_cons_succ, List.getElem_toArray, List.getElem_cons_succ, List.getElem_cons_zero]
  refine wpAnyH_take (i := 3) (v := ?_) rfl (by kernel_rfl) (by kernel_rfl) (by kernel_rfl) (fun _ _ _ h => h) (Or.inl ⟨by rfl, ?_⟩) (by assumption) ?_
  rotate_left
  · intro w hSw; (try dsimp only at hSw); go_simp; all_goals (with_reducible rfl)
  try simp only [Act.put, List.setIfInBounds_toArray, List.set_cons_zero, List.set_cons_succ, List.getElem_toArray, List.getElem_cons_succ, List.getElem_cons_zero]
  refine wpAnyH_take (i := 5) (v := ?_) rfl (by kernel_rfl) (by kernel_rfl) (by kernel_rfl) (fun _ _ _ h => h) (Or.inl ⟨by rfl, ?_⟩) (by assumption) ?_
  rotate_left
  · intro w hSw; (try dsimp only at hSw); obtain ⟨c0, c1, c2, c3, c4, c5⟩ := hSw.cells; go_simp; all_goals (with_reducible rfl)
  try simp only [Act.put, List.setIfInBounds_toArray, List.set_cons_zero, List.set_cons_succ, List.getElem_toArray, List.getElem_cons_succ, List.getElem_cons_zero]
  refine wpAnyH_ready (rs := [4, 6]) (by kernel_rfl) (by simp) ?_
  refine AllReadyH.cons rfl (fun K hK => ?_) (AllReadyH.cons rfl (fun K hK => ?_) AllReadyH.nil)
  · go_simp
    refine hK.out _ _ (hbd) (fun hHeld => ?_)
    clear hK K
    try simp only [Act.put, List.setIfInBounds_toArray, List.set_cons_zero, List.set_cons_succ, List.getElem_toArray, List.getElem_cons_succ, List.getElem_cons_zero]
    refine wpAnyH_ready (rs := [6]) (by kernel_rfl) (by simp) ?_
    refine AllReadyH.cons rfl (fun K hK => ?_) AllReadyH.nil
    go_simp
    refine hK.out _ (w10.drew.alloc (.cells (Tr.ivb y.it).arr 26)) (by rw [hw11.out]; exact hbn) (fun hHeld => ?_)
    clear hK K hHeld
    have hHeld := hbn
    rw [hw11.out]
    try simp only [Act.put, List.setIfInBounds_toArray, List.set_cons_zero, List.set_cons_succ, List.getElem_toArray, List.getElem_cons_succ, List.getElem_cons_zero]
    refine wpAnyH_ready (rs := [7]) (by kernel_rfl) (by simp) ?_
    refine AllReadyH.cons rfl (fun K hK => ?_) AllReadyH.nil
    refine step_append_its (by rfl) (.tmp 42) (.tmp 44) (by rfl) base _ n _ (by rfl) HO11.out ⟨w10.drew.heap.size, 0, none⟩ 1 [Tr.ivb y.it] 1 rfl (by rfl) HI11.out (by omega) HB11.out (by decide) ?_
    intro v6 w12 o12 g12 blk12
    obtain ⟨A6, c6, rfl⟩ := own_slice o12
    obtain ⟨hb12, hg12⟩ := HN12.out w12 g12
    have c12 := hg12.c2
    have f12 := hg12.fz 2
    refine hK.out _ _ (hb12) (fun hHeld => ?_)
    clear hK K
    try simp only [Act.put, List.setIfInBounds_toArray, List.set_cons_zero, List.set_cons_succ, List.getElem_toArray, List.getElem_cons_succ, List.getElem_cons_zero]
    refine wpAnyH_take (i := 8) (v := ?_) rfl (by kernel_rfl) (by kernel_rfl) (by kernel_rfl) (fun _ _ _ h => h) (Or.inl ⟨by rfl, ?_⟩) (by assumption) ?_
    rotate_left
    · intro w hSw; (try dsimp only at hSw); go_simp; all_goals (with_reducible rfl)
    try simp only [Act.put, List.setIfInBounds_toArray, List.set_cons_zero, List.set_cons_succ, List.getElem_toArray, List.getElem_cons_succ, List.getElem_cons_zero]
    refine wpAnyH_take (i := 9) (v := ?_) rfl (by kernel_rfl) (by kernel_rfl) (by kernel_rfl) (fun _ _ _ h => h) (Or.inl ⟨by rfl, ?_⟩) (by assumption) ?_
    rotate_left
    · intro w hSw; (try dsimp only at hSw); go_simp; all_goals (with_reducible rfl)
    try simp only [Act.put, List.setIfInBounds_toArray, List.set_cons_zero, List.set_cons_succ, List.getElem_toArray, List.getElem_cons_succ, List.getElem_cons_zero]
    refine wpAnyH_ready (rs := [10]) (by kernel_rfl) (by simp) ?_
    refine AllReadyH.cons rfl (fun K hK => ?_) AllReadyH.nil
    go_simp
    refine hK.out _ _ ((heap_setCell_other w12 ⟨g, 2, none⟩ z _ (Ne.symm hgz)).trans hb12) (fun hHeld => ?_)
    clear hK K
    try simp only [Act.put, List.setIfInBounds_toArray, List.set_cons_zero, List.set_cons_succ, List.getElem_toArray, List.getElem_cons_succ, List.getElem_cons_zero]
    refine wpAnyH_done (by kernel_rfl) ?_ _
    have hfin := hn.out
    subst hfin
    have hend := added_end HH.out HFit.out HE0.out HS0.out hbg hzw hu9 hzu HR9.out k10 k11 g12 o12 blk12
    clear c12 f12
    go_wp2
    go_ret
    exact ⟨rfl, hend⟩
  · go_simp
    refine hK.out _ (w10.drew.alloc (.cells (Tr.ivb y.it).arr 26)) (by rw [hw11.out]; exact hbn) (fun hHeld => ?_)
    clear hK K hHeld
    have hHeld := hbn
    rw [hw11.out]
    try simp only [Act.put, List.setIfInBounds_toArray, List.set_cons_zero, List.set_cons_succ, List.getElem_toArray, List.getElem_cons_succ, List.getElem_cons_zero]
    refine wpAnyH_ready (rs := [4]) (by kernel_rfl) (by simp) ?_
    refine AllReadyH.cons rfl (fun K hK => ?_) AllReadyH.nil
    go_simp
    refine hK.out _ _ (hbn) (fun hHeld => ?_)
    clear hK K
    try simp only [Act.put, List.setIfInBounds_toArray, List.set_cons_zero, List.set_cons_succ, List.getElem_toArray, List.getElem_cons_succ, List.getElem_cons_zero]
    refine wpAnyH_ready (rs := [7]) (by kernel_rfl) (by simp) ?_
    refine AllReadyH.cons rfl (fun K hK => ?_) AllReadyH.nil
    refine step_append_its (by rfl) (.tmp 42) (.tmp 44) (by rfl) base _ n _ (by rfl) HO11.out ⟨w10.drew.heap.size, 0, none⟩ 1 [Tr.ivb y.it] 1 rfl (by rfl) HI11.out (by omega) HB11.out (by decide) ?_
    intro v6 w12 o12 g12 blk12
    obtain ⟨A6, c6, rfl⟩ := own_slice o12
    obtain ⟨hb12, hg12⟩ := HN12.out w12 g12
    have c12 := hg12.c2
    have f12 := hg12.fz 2
    refine hK.out _ _ (hb12) (fun hHeld => ?_)
    clear hK K
    try simp only [Act.put, List.setIfInBounds_toArray, List.set_cons_zero, List.set_cons_succ, List.getElem_toArray, List.getElem_cons_succ, List.getElem_cons_zero]
    refine wpAnyH_take (i := 8) (v := ?_) rfl (by kernel_rfl) (by kernel_rfl) (by kernel_rfl) (fun _ _ _ h => h) (Or.inl ⟨by rfl, ?_⟩) (by assumption) ?_
    rotate_left
    · intro w hSw; (try dsimp only at hSw); go_simp; all_goals (with_reducible rfl)
    try simp only [Act.put, List.setIfInBounds_toArray, List.set_cons_zero, List.set_cons_succ, List.getElem_toArray, List.getElem_cons_succ, List.getElem_cons_zero]
    refine wpAnyH_take (i := 9) (v := ?_) rfl (by kernel_rfl) (by kernel_rfl) (by kernel_rfl) (fun _ _ _ h => h) (Or.inl ⟨by rfl, ?_⟩) (by assumption) ?_
    rotate_left
    · intro w hSw; (try dsimp only at hSw); go_simp; all_goals (with_reducible rfl)
    try simp only [Act.put, List.setIfInBounds_toArray, List.set_cons_zero, List.set_cons_succ, List.getElem_toArray, List.getElem_cons_succ, List.getElem_cons_zero]
    refine wpAnyH_ready (rs := [10]) (by kernel_rfl) (by simp) ?_
    refine AllReadyH.cons rfl (fun K hK => ?_) AllReadyH.nil
    go_simp
    refine hK.out _ _ ((heap_setCell_other w12 ⟨g, 2, none⟩ z _ (Ne.symm hgz)).trans hb12) (fun hHeld => ?_)
    clear hK K
    try simp only [Act.put, List.setIfInBounds_toArray, List.set_cons_zero, List.set_cons_succ, List.getElem_toArray, List.getElem_cons_succ, List.getElem_cons_zero]
    refine wpAnyH_done (by kernel_rfl) ?_ _
    have hfin := hn.out
    subst hfin
    have hend := added_end HH.out HFit.out HE0.out HS0.out hbg hzw hu9 hzu HR9.out k10 k11 g12 o12 blk12
    clear c12 f12
    go_wp2
    go_ret
    exact ⟨rfl, hend⟩
/-- Add of an open writer, whatever comes -/
theorem wadd_any {w : World} {base g : Nat} {t : List Tr.It} {v : Value} {AI : Option Addr} {cI : Nat} (h : WOk w base g t v AI cI) (hw : Pk.wr t = (Pk.flat t ++ List.replicate 1024 0, 0, 0)) (y : Tr.Iv) (hy : BodyAt w y) (hbase : base ≤ w.heap.size) (hbg : base ≤ g) (hap : Apart w y.ad y.it.body.length g v) (hk : ∀ u, Below base w u → KTAt u) :
    Calls Tryz.prog 9 #[.pointer (some ⟨g, 0, none⟩), .agg y.arr] w fun e w' => e = .returned (.int .i64 (Pk.wr (t ++ [y.it])).2.2) ∧ AddedW base g t (if (Pk.wr (t ++ [y.it])).2.2 = 0 then t ++ [y.it] else t) v AI cI w w' := by
  by_cases he : (Tr.chkE (t ++ [y.it])).2 = 0
  · have hsn := Pk.wr_snoc h.room y.it he
    by_cases hl : 131072 < (Pk.flat t ++ Pk.pcs y.it).length + 1024
    · rw [if_pos hl] at hsn
      rw [hsn]
      refine (wadd_long h y hy he hbase hbg hap hk hl).mono fun e w' q => ⟨q.1, ?_⟩
      rw [if_neg (by show ¬ (2 : Int) = 0; decide)]
      exact ⟨v, AI, cI, q.2.1, q.2.2, fun b hb => .inl hb⟩
    · rw [if_neg hl] at hsn
      rw [hsn]
      refine (wadd_ok h y hy he hbase hbg hap hk hl).mono fun e w' q => ⟨q.1, ?_⟩
      rw [if_pos rfl]
      exact q.2
  · have hb := Pk.wr_bad he
    rw [hb]
    refine (wadd_bad h y hy he).mono fun e w' q => ⟨q.1, ?_⟩
    rw [if_neg he]
    exact ⟨v, AI, cI, h.keep q.2, Bx.of_bw q.2, fun b hb => .inl hb⟩
end Go.Proofs.YtldkhbkgmiicbabGreatDoor
