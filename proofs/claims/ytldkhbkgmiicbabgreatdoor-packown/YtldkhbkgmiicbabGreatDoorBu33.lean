/- Texts of mine, put together. -/
import Derived.Test.YtldkhbkgmiicbabGreatDoorBu32

/- Layer 12: a Writer's Add, open: refused by the tree. -/
namespace Go.Proofs.YtldkhbkgmiicbabGreatDoor
open Go.RowKit Go.Deep
set_option linter.unusedVariables false
set_option linter.unusedSimpArgs false

/-- an item as a writer keeps it -/
def Tr.ivb (x : Tr.It) : Tr.Iv := ⟨Tr.bare x, none, 0⟩
theorem Tr.its_ivb (t : List Tr.It) : Tr.its (t.map Tr.ivb) = t.map Tr.bare := by
  unfold Tr.its
  rw [List.map_map]
  rfl
theorem body_ivb {x : Tr.It} (h : Tr.Fit x) (w : World) : BodyAt w (Tr.ivb x) := ⟨⟨Or.inl rfl, fun i => by show 0 ≤ Tr.rowF [] i ∧ Tr.rowF [] i < 256; unfold Tr.rowF; simp⟩, Nat.le_refl _, fun _ => rfl, ⟨h.kind, h.mode, h.time, h.path, Nat.zero_le _, h.to⟩⟩
theorem keep_add {W w w' : World} {g z : Nat} {i v0 v1 v2 v3 v4 v5 : Value} (h : w.cell? ⟨g, 2, none⟩ = some i ∧ w.cell? ⟨z, 0, none⟩ = some v0 ∧ w.cell? ⟨z, 1, none⟩ = some v1 ∧ w.cell? ⟨z, 2, none⟩ = some v2 ∧ w.cell? ⟨z, 3, none⟩ = some v3 ∧ w.cell? ⟨z, 4, none⟩ = some v4 ∧ w.cell? ⟨z, 5, none⟩ = some v5 ∧ Bw W w) (k : Bw w w') :
    w'.cell? ⟨g, 2, none⟩ = some i ∧ w'.cell? ⟨z, 0, none⟩ = some v0 ∧ w'.cell? ⟨z, 1, none⟩ = some v1 ∧ w'.cell? ⟨z, 2, none⟩ = some v2 ∧ w'.cell? ⟨z, 3, none⟩ = some v3 ∧ w'.cell? ⟨z, 4, none⟩ = some v4 ∧ w'.cell? ⟨z, 5, none⟩ = some v5 ∧ Bw W w' := by
  obtain ⟨hi, h0, h1, h2, h3, h4, h5, h6⟩ := h
  exact ⟨keep_cell11 hi k, keep_cell11 h0 k, keep_cell11 h1 k, keep_cell11 h2 k, keep_cell11 h3 k, keep_cell11 h4 k, keep_cell11 h5 k, h6.trans k⟩
/-- an open writer of the items t -/
structure WOk (w : World) (base g : Nat) (t : List Tr.It) (v : Value) (AI : Option Addr) (cI : Nat) : Prop where
  at_ : WrAt (.slice AI t.length cI) false w g v (Pk.flat t)
  roll : RollOwn w base v (Pk.flat t)
  its : w.ownsRow base 26 6 (.slice AI t.length cI) t.length (Tr.cellsI (t.map Tr.ivb))
  ok : Tr.Ok t
  len : t.length ≤ 256
  room : (Pk.flat t).length + 1024 ≤ 131072
  fit : ∀ x ∈ t, Tr.Fit x
set_option maxRecDepth 100000 in
set_option maxHeartbeats 8000000 in
theorem wadd_bad {w : World} {base g : Nat} {t : List Tr.It} {v : Value} {AI : Option Addr} {cI : Nat} (h : WOk w base g t v AI cI) (y : Tr.Iv) (hy : BodyAt w y) (he : (Tr.chkE (t ++ [y.it])).2 ≠ 0) :
    Calls Tryz.prog 9 #[.pointer (some ⟨g, 0, none⟩), .agg y.arr] w fun e w' => e = .returned (.int .i64 (Tr.chkE (t ++ [y.it])).2) ∧ Bw w w' := by
  obtain ⟨W, hW⟩ : ∃ W, Hid (w.alloc (.cells y.arr 26) = W) := ⟨_, rfl⟩
  obtain ⟨z, hz⟩ : ∃ z, Hid (w.heap.size = z) := ⟨_, rfl⟩
  have hbw : Bw w W := by rw [← hW.out]; exact bw_alloc11 (Bw.refl _) _
  have hX : Hid (BoxAt W z y) := by rw [← hW.out, ← hz.out]; exact BoxAt.new _ _
  have HM := maywr_any (h.at_.keep hbw)
  rw [if_neg (by decide)] at HM
  obtain ⟨E, hE⟩ : ∃ E, Hid ((Tr.chkE (t ++ [y.it])).2 = E) := ⟨_, rfl⟩
  rw [hE.out] at he ⊢
  obtain ⟨n, hn⟩ : ∃ n, Hid (t.length = n) := ⟨_, rfl⟩
  have hl := h.len
  have c2 := (h.at_.keep hbw).c2
  obtain ⟨x0, x1, x2, x3, x4, x5⟩ := hX.out.cells
  have hits := h.its
  rw [show t.length = (t.map Tr.ivb).length by rw [List.length_map]] at hits
  obtain ⟨A', cap', he', hle', hI', hni', -⟩ := its_of_own hits (fun y hy => by obtain ⟨x, hx, rfl⟩ := List.mem_map.1 hy; exact body_ivb (h.fit x hx) w)
  cases he'
  rw [List.length_map] at hle'
  have HI : Hid (ItsAt W AI (t.map Tr.ivb)) := hI'.keep hbw
  have HY : Hid (BodyAt W y) := hy.keep hbw
  have HN : Hid (AI = none → cI = 0 ∧ t.map Tr.ivb = []) := hni'
  obtain ⟨M, hM⟩ : ∃ M, Hid (t.map Tr.ivb ++ [y] = M) := ⟨_, rfl⟩
  have hMl : M.length = t.length + 1 := by rw [← hM.out, List.length_append, List.length_map]; rfl
  have HMi : Hid (Tr.chkE (Tr.its M) = Tr.chkE (t ++ [y.it])) := by
    rw [← hM.out, Tr.its_append, Tr.its_ivb]
    exact Tr.chk_bare h.ok y.it
  have HCc : Hid (∀ u k, Bw W u → u.cell? ⟨k, 0, none⟩ = some (.slice AI n cI) → u.cell? ⟨k, 1, none⟩ = some (.slice (some ⟨W.heap.size, 0, none⟩) 1 1) → BoxAt u W.heap.size y → Calls Tryz.prog 23 #[.slice (some ⟨k, 0, none⟩) 2 2] u fun e w' => ConcatEnds u.heap.size M e w' ∧ Bw u w') := fun u k hu k0 k1 k3 => by
    rw [← hM.out]
    exact concat2_any k _ _ cI 1 (t.map Tr.ivb) [y] (by simp) (by rw [List.length_map]; simp; omega) u (by rw [List.length_map, hn.out]; exact k0) k1 (HI.out.keep hu) (its_one k3 (HY.out.keep hu)) (fun e => ⟨by rw [(HN.out e).2]; rfl, (HN.out e).1⟩) (fun e => by cases e)
  have HMb : Hid (∀ u, Bw W u → ∀ z ∈ M, BodyAt u z) := fun u hu z hz => by
    rw [← hM.out] at hz
    rcases List.mem_append.1 hz with hz | hz
    · exact (HI.out.keep hu).body z hz
    · rw [List.mem_singleton.1 hz]; exact HY.out.keep hu
  have HCk : Hid (∀ u A1 c1, M.length ≤ c1 → ItsAt u A1 M → Calls Tryz.prog 22 #[.slice A1 M.length c1] u fun e w' => (∃ a : Nat, e = .returned (.tuple #[.int .i64 (a : Int), .int .i64 E])) ∧ Bw u w') := fun u A1 c1 k2 k4 => by
    have := tcheck_any A1 c1 M (by rw [hMl]; omega) k2 u k4
    rw [HMi.out, hE.out] at this
    exact this.mono fun e w' h => ⟨⟨_, h.1⟩, h.2⟩
  have e0 : (E == 0) = false := by rw [beq_eq_false_iff_ne]; exact he
  rw [hn.out] at c2 hl hle'
  clear h hy hits hI' hni' hMl he
  go_enter Tryz.func9, Tryz.ntmps9
  go_wp2_with (first
    | (rw [hW.out, hz.out])
    | (go_at_call 21; refine HM.mono ?_; rintro e w1 ⟨rfl, hw⟩; obtain rfl := hw.symm; clear HM))
  go_region_held3 (fun w' => w'.cell? ⟨g, 2, none⟩ = some (.slice AI n cI) ∧ w'.cell? ⟨z, 0, none⟩ = some (.string (Nm.S y.it.path)) ∧ w'.cell? ⟨z, 1, none⟩ = some (.int .u8 (y.it.kind : Int)) ∧ w'.cell? ⟨z, 2, none⟩ = some (.int .i64 y.it.mode) ∧ w'.cell? ⟨z, 3, none⟩ = some (.int .i64 y.it.time) ∧ w'.cell? ⟨z, 4, none⟩ = some (.slice y.ad y.it.body.length y.cp) ∧ w'.cell? ⟨z, 5, none⟩ = some (.string (Nm.S y.it.to)) ∧ Bw W w')
    (first | exact ⟨c2, x0, x1, x2, x3, x4, x5, Below.drew (Bw.refl _)⟩ | assumption | exact keep_add ⟨c2, x0, x1, x2, x3, x4, x5, Bw.refl _⟩ (by repeat (first | assumption | exact Bw.refl _ | refine Below.drew ?_ | refine bw_alloc11 ?_ _)) | exact keep_add (by assumption) (by assumption))
    (first
      | (go_at_call 23; obtain ⟨bX, d1, d2, d4⟩ := two_built2 W y (.slice AI n cI) (.slice (some ⟨W.heap.size, 0, none⟩) 1 1); refine (HCc.out _ _ bX d1 d2 d4).mono ?_; rintro e w7 ⟨⟨v7, rfl, ho7⟩, hw7⟩; have b7 : Bw W w7 := bX.trans hw7; obtain ⟨A7, c7, hv7, hle7, hI7, hni7, -⟩ := its_of_own ho7 (HMb.out w7 b7); subst hv7; clear ho7 hni7 d1 d2 d4)
      | (go_at_call 22; refine (HCk.out _ A7 c7 hle7 (hI7.keep (by repeat (first | exact Bw.refl _ | refine Below.drew ?_)))).mono ?_; rintro e w8 ⟨⟨r1, rfl⟩, hw8⟩; have b8 : Bw W w8 := Bw.trans (by repeat (first | assumption | refine Below.drew ?_)) hw8))
  rename_i hSe
  have hSw := hSe.2.2.2.2.2.2.2
  go_wp2
  go_ret
  exact ⟨rfl, hbw.trans hSw⟩
end Go.Proofs.YtldkhbkgmiicbabGreatDoor

/- Layer 12: a Writer's Add, open, that finds no room (written by mkzu.py). -/
namespace Go.Proofs.YtldkhbkgmiicbabGreatDoor
open Go.RowKit Go.Deep
set_option linter.unusedVariables false
set_option linter.unusedSimpArgs false

/-- a writer's blocks -/
def wIn (g : Nat) (v I : Value) (b : Nat) : Prop := b = g ∨ v.ownBlock = some b ∨ I.ownBlock = some b
theorem may_of_chk {t : List Tr.It} {x : Tr.It} (h : Tr.Ok t) (he : (Tr.chkE (t ++ [x])).2 = 0) : Tr.mayE x = 0 := by
  rw [Tr.chk_snoc h] at he
  split at he
  · cases he
  · unfold Tr.chkF at he
    by_cases hs : Tr.stepE t x ≠ 0
    · rw [if_pos hs] at he; exact absurd he hs
    · have hs' := Decidable.not_not.1 hs
      unfold Tr.stepE at hs'
      by_cases hm : Tr.mayE x ≠ 0
      · rw [if_pos hm] at hs'; exact absurd hs' hm
      · exact Decidable.not_not.1 hm
theorem WOk.apart {w : World} {base g : Nat} {t : List Tr.It} {v : Value} {AI : Option Addr} {cI : Nat} (h : WOk w base g t v AI cI) {b : Nat} (hb : (Value.slice AI t.length cI).ownBlock = some b) : ¬ (b = g ∨ v.ownBlock = some b) := fun e => by
  rcases h.its.2 with ⟨e1, _⟩ | ⟨g', cap, cur, e1, _, hc, _⟩
  · rw [e1] at hb; cases hb
  rw [e1] at hb
  cases hb
  rcases e with rfl | e
  · have h1 := h.at_
    unfold WrAt at h1
    rw [hc] at h1
    simp only [Option.some.injEq, Obj.cells.injEq] at h1
    exact absurd h1.2.1 (by decide)
  · rcases h.roll.2.2 with ⟨e2, _⟩ | ⟨g2, cap2, cur2, e2, _, hc2, _⟩
    · rw [e2] at e; cases e
    · rw [e2] at e
      cases e
      rw [hc] at hc2
      simp only [Option.some.injEq, Obj.cells.injEq] at hc2
      exact absurd hc2.2.1 (by decide)
set_option maxRecDepth 100000 in
set_option maxHeartbeats 8000000 in
theorem wadd_long {w : World} {base g : Nat} {t : List Tr.It} {v : Value} {AI : Option Addr} {cI : Nat} (h : WOk w base g t v AI cI) (y : Tr.Iv) (hy : BodyAt w y) (he : (Tr.chkE (t ++ [y.it])).2 = 0) (hbase : base ≤ w.heap.size) (hbg : base ≤ g) (hap : Apart w y.ad y.it.body.length g v) (hk : ∀ u, Below base w u → KTAt u) (hlong : 131072 < (Pk.flat t ++ Pk.pcs y.it).length + 1024) :
    Calls Tryz.prog 9 #[.pointer (some ⟨g, 0, none⟩), .agg y.arr] w fun e w' => e = .returned (.int .i64 2) ∧ WOk w' base g t v AI cI ∧ Bx (wIn g v (.slice AI t.length cI)) w w' := by
  have HH : Hid (WOk w base g t v AI cI) := h
  have hgl := h.at_.lt
  have hvl : ∀ k, v.ownBlock = some k → k < w.heap.size ∧ base ≤ k := fun k hk => ⟨(World.ownsRow.lt h.roll.2 k hk).2, (World.ownsRow.lt h.roll.2 k hk).1⟩
  have HLay : Hid (∀ u, Bw w u → Calls Tryz.prog 24 #[.pointer (some ⟨g, 0, none⟩), .agg y.arr] u fun e w' => e = .returned (.int .i64 2) ∧ RollsW (.slice AI t.length cI) false base g v (Pk.flat t) (Pk.flat t) u w' v) := fun u hu => by
    refine (layW_any (.slice AI t.length cI) false base g y (Pk.flat t) v (by have := h.room; omega) (may_of_chk h.ok he) u (Nat.le_trans hbase hu.size) (h.at_.keep hu) ⟨h.roll.1, own_keep h.roll.2 hu⟩ (hy.keep hu) (fun b o e hn => ⟨Nat.lt_of_lt_of_le (hap b o e hn).1 hu.size, (hap b o e hn).2⟩) (fun u' hu' => hk u' (Below.trans (hu.mono hbase) hu'))).mono fun e w' hl => ?_
    rcases hl with ⟨_, h1, h2⟩ | ⟨h0, _⟩
    · exact ⟨h1, h2⟩
    · exact absurd hlong h0
  have HVG : Hid (∀ b, b = g ∨ v.ownBlock = some b → b < w.heap.size ∧ base ≤ b) := fun b e => e.elim (fun e => by subst e; exact ⟨hgl, hbg⟩) (hvl b)
  clear hvl hap hk hlong
  obtain ⟨W, hW⟩ : ∃ W, Hid (w.alloc (.cells y.arr 26) = W) := ⟨_, rfl⟩
  obtain ⟨z, hz⟩ : ∃ z, Hid (w.heap.size = z) := ⟨_, rfl⟩
  have hbw : Bw w W := by rw [← hW.out]; exact bw_alloc11 (Bw.refl _) _
  have hX : Hid (BoxAt W z y) := by rw [← hW.out, ← hz.out]; exact BoxAt.new _ _
  have HM := maywr_any (h.at_.keep hbw)
  rw [if_neg (by decide)] at HM
  obtain ⟨E, hE⟩ : ∃ E, Hid ((Tr.chkE (t ++ [y.it])).2 = E) := ⟨_, rfl⟩
  rw [hE.out] at he
  obtain ⟨n, hn⟩ : ∃ n, Hid (t.length = n) := ⟨_, rfl⟩
  have hl := h.len
  have c2 := (h.at_.keep hbw).c2
  obtain ⟨x0, x1, x2, x3, x4, x5⟩ := hX.out.cells
  have hits := h.its
  rw [show t.length = (t.map Tr.ivb).length by rw [List.length_map]] at hits
  obtain ⟨A', cap', he', hle', hI', hni', -⟩ := its_of_own hits (fun y hy => by obtain ⟨x, hx, rfl⟩ := List.mem_map.1 hy; exact body_ivb (h.fit x hx) w)
  cases he'
  rw [List.length_map] at hle'
  have HI : Hid (ItsAt W AI (t.map Tr.ivb)) := hI'.keep hbw
  have HY : Hid (BodyAt W y) := hy.keep hbw
  have HN : Hid (AI = none → cI = 0 ∧ t.map Tr.ivb = []) := hni'
  obtain ⟨M, hM⟩ : ∃ M, Hid (t.map Tr.ivb ++ [y] = M) := ⟨_, rfl⟩
  have hMl : M.length = t.length + 1 := by rw [← hM.out, List.length_append, List.length_map]; rfl
  have HMi : Hid (Tr.chkE (Tr.its M) = Tr.chkE (t ++ [y.it])) := by
    rw [← hM.out, Tr.its_append, Tr.its_ivb]
    exact Tr.chk_bare h.ok y.it
  have HCc : Hid (∀ u k, Bw W u → u.cell? ⟨k, 0, none⟩ = some (.slice AI n cI) → u.cell? ⟨k, 1, none⟩ = some (.slice (some ⟨W.heap.size, 0, none⟩) 1 1) → BoxAt u W.heap.size y → Calls Tryz.prog 23 #[.slice (some ⟨k, 0, none⟩) 2 2] u fun e w' => ConcatEnds u.heap.size M e w' ∧ Bw u w') := fun u k hu k0 k1 k3 => by
    rw [← hM.out]
    exact concat2_any k _ _ cI 1 (t.map Tr.ivb) [y] (by simp) (by rw [List.length_map]; simp; omega) u (by rw [List.length_map, hn.out]; exact k0) k1 (HI.out.keep hu) (its_one k3 (HY.out.keep hu)) (fun e => ⟨by rw [(HN.out e).2]; rfl, (HN.out e).1⟩) (fun e => by cases e)
  have HMb : Hid (∀ u, Bw W u → ∀ z ∈ M, BodyAt u z) := fun u hu z hz => by
    rw [← hM.out] at hz
    rcases List.mem_append.1 hz with hz | hz
    · exact (HI.out.keep hu).body z hz
    · rw [List.mem_singleton.1 hz]; exact HY.out.keep hu
  have HCk : Hid (∀ u A1 c1, M.length ≤ c1 → ItsAt u A1 M → Calls Tryz.prog 22 #[.slice A1 M.length c1] u fun e w' => (∃ a : Nat, e = .returned (.tuple #[.int .i64 (a : Int), .int .i64 E])) ∧ Bw u w') := fun u A1 c1 k2 k4 => by
    have := tcheck_any A1 c1 M (by rw [hMl]; omega) k2 u k4
    rw [HMi.out, hE.out] at this
    exact this.mono fun e w' h => ⟨⟨_, h.1⟩, h.2⟩
  subst he
  rw [hn.out] at c2 hl hle'
  clear h hy hits hI' hni' hMl
  go_enter Tryz.func9, Tryz.ntmps9
  go_wp2_with (first
    | (rw [hW.out, hz.out])
    | (go_at_call 21; refine HM.mono ?_; rintro e w1 ⟨rfl, hw⟩; obtain rfl := hw.symm; clear HM))
  go_region_held3 (fun w' => w'.cell? ⟨g, 2, none⟩ = some (.slice AI n cI) ∧ w'.cell? ⟨z, 0, none⟩ = some (.string (Nm.S y.it.path)) ∧ w'.cell? ⟨z, 1, none⟩ = some (.int .u8 (y.it.kind : Int)) ∧ w'.cell? ⟨z, 2, none⟩ = some (.int .i64 y.it.mode) ∧ w'.cell? ⟨z, 3, none⟩ = some (.int .i64 y.it.time) ∧ w'.cell? ⟨z, 4, none⟩ = some (.slice y.ad y.it.body.length y.cp) ∧ w'.cell? ⟨z, 5, none⟩ = some (.string (Nm.S y.it.to)) ∧ Bw W w')
    (first | exact ⟨c2, x0, x1, x2, x3, x4, x5, Below.drew (Bw.refl _)⟩ | assumption | exact keep_add ⟨c2, x0, x1, x2, x3, x4, x5, Bw.refl _⟩ (by repeat (first | assumption | exact Bw.refl _ | refine Below.drew ?_ | refine bw_alloc11 ?_ _)) | exact keep_add (by assumption) (by assumption))
    (first
      | (go_at_call 23; obtain ⟨bX, d1, d2, d4⟩ := two_built2 W y (.slice AI n cI) (.slice (some ⟨W.heap.size, 0, none⟩) 1 1); refine (HCc.out _ _ bX d1 d2 d4).mono ?_; rintro e w7 ⟨⟨v7, rfl, ho7⟩, hw7⟩; have b7 : Bw W w7 := bX.trans hw7; obtain ⟨A7, c7, hv7, hle7, hI7, hni7, -⟩ := its_of_own ho7 (HMb.out w7 b7); subst hv7; clear ho7 hni7 d1 d2 d4)
      | (go_at_call 22; refine (HCk.out _ A7 c7 hle7 (hI7.keep (by repeat (first | exact Bw.refl _ | refine Below.drew ?_)))).mono ?_; rintro e w8 ⟨⟨r1, rfl⟩, hw8⟩; have b8 : Bw W w8 := Bw.trans (by repeat (first | assumption | refine Below.drew ?_)) hw8))
  rename_i hSe
  have hSw := hSe.2.2.2.2.2.2.2
  obtain ⟨-, s0, s1, s2, s3, s4, s5, -⟩ := hSe
  go_wp2
  have HZ : Hid (∀ u w', Bw W u → RollsW (.slice AI t.length cI) false base g v (Pk.flat t) (Pk.flat t) u w' v → w'.heap[z]? = u.heap[z]?) := fun u w' hu hr => hr.bx.block z (by have := hu.size; have := (Array.getElem?_eq_some_iff.1 hX.out).1; omega) (fun e => by have := (HVG.out z e).1; have := hz.out; omega)
  have hfin : Hid (∀ u w', Bw W u → RollsW (.slice AI t.length cI) false base g v (Pk.flat t) (Pk.flat t) u w' v → WOk w' base g t v AI cI ∧ Bx (wIn g v (.slice AI t.length cI)) w w') := fun u w' hu hr =>
    ⟨⟨hr.at_, hr.own, own_bx (own_keep HH.out.its (hbw.trans hu)) hr.bx (fun b hb e => HH.out.apart hb e), HH.out.ok, HH.out.len, HH.out.room, HH.out.fit⟩, (Bx.of_bw (hbw.trans hu)).trans (hr.bx.more (fun b e => e.elim .inl (fun e => .inr (.inl e))))⟩
  have HSix : Hid (∀ w' : World, (∃ u : World, Bw W u ∧ w'.heap[z]? = u.heap[z]?) → w'.cell? ⟨z, 0, none⟩ = some (.string (Nm.S y.it.path)) ∧ w'.cell? ⟨z, 1, none⟩ = some (.int .u8 (y.it.kind : Int)) ∧ w'.cell? ⟨z, 2, none⟩ = some (.int .i64 y.it.mode) ∧ w'.cell? ⟨z, 3, none⟩ = some (.int .i64 y.it.time) ∧ w'.cell? ⟨z, 4, none⟩ = some (.slice y.ad y.it.body.length y.cp) ∧ w'.cell? ⟨z, 5, none⟩ = some (.string (Nm.S y.it.to))) := fun w' ⟨u, hu, e⟩ => by
    have hb : BoxAt w' z y := e.trans (hX.out.keep hu)
    exact hb.cells
  go_region_held3 (fun w' => w'.cell? ⟨z, 0, none⟩ = some (.string (Nm.S y.it.path)) ∧ w'.cell? ⟨z, 1, none⟩ = some (.int .u8 (y.it.kind : Int)) ∧ w'.cell? ⟨z, 2, none⟩ = some (.int .i64 y.it.mode) ∧ w'.cell? ⟨z, 3, none⟩ = some (.int .i64 y.it.time) ∧ w'.cell? ⟨z, 4, none⟩ = some (.slice y.ad y.it.body.length y.cp) ∧ w'.cell? ⟨z, 5, none⟩ = some (.string (Nm.S y.it.to)))
    (first | exact ⟨s0, s1, s2, s3, s4, s5⟩ | exact hS9 | assumption)
    (first | ((go_at_call 24; refine (HLay.out _ (hbw.trans (by first | exact hSw | exact Below.drew hSw | assumption))).mono ?_; rintro e w9 ⟨rfl, hr9⟩; have hf9 := hfin.out _ _ (by first | exact hSw | exact Below.drew hSw | assumption) hr9; have hS9 := HSix.out _ ⟨_, (by first | exact hSw | exact Below.drew hSw | assumption), HZ.out _ _ (by first | exact hSw | exact Below.drew hSw | assumption) hr9⟩; have HF9 : Hid _ := hf9; clear hf9)))
  go_wp2
  go_ret
  exact ⟨rfl, HF9.out⟩
end Go.Proofs.YtldkhbkgmiicbabGreatDoor
