/- Texts of mine, put together. -/
import Derived.Test.YtldkhbkgmiicbabGreatDoorBu23
import Derived.Deep.RegionHeld3

/- The two drawn regions of what Put's work does. -/
namespace Go.Proofs.YtldkhbkgmiicbabGreatDoor
open Go.RowKit Go.Deep
set_option linter.unusedVariables false
set_option linter.unusedSimpArgs false

theorem Bw.drew9 (w : World) : Bw w w.drew := Below.drew (Bw.refl _)
set_option maxRecDepth 100000 in
set_option maxHeartbeats 4000000 in
theorem put_reg2 (lo base gat gl gb b off n cap k : Nat) (p : Px.Pr) (l : Px.B) (v : Value) (wr : World) (Q : Exit → Act → World → Prop) (u3 u4 u5 u6 u7 u8 u9 u10 u11 u12 u13 u14 u15 u16 u17 u18 u19 u20 u21 u22 u23 : Value)
    (hk : k < n) (hn : n ≤ 64) (va : VarAt wr gat 3 (.int .i64 (k : Int))) (vl : VarAt wr gl 37 (.slice (some ⟨b, off, none⟩) n cap))
    (c1 : wr.cell? ⟨b, off + k * 2, none⟩ = some (.string (Nm.S p.1))) (c2 : wr.cell? ⟨b, off + k * 2 + 1, none⟩ = some (.string (Nm.S p.2)))
    (hQ : ∀ (c : List PanicEntry) (a : Act) (d : Option Nat) (x : Value) (w : World), Q (.panic c) (a.put d x) w → Q (.panic c) a w)
    (vb : VarAt wr gb 24 v) (hs1 : (Nm.S p.1).size ≤ 140737488355328) (hs2 : (Nm.S p.2).size ≤ 140737488355328) (KK : Hid (∀ W, Bw wr W → KAt W)) (ho : wr.ownsRow base 5 1 v l.length (Px.cellsB l)) (hl : l.length ≤ 100000)
    (hbase : base ≤ wr.heap.size) (hga : gat < base) (hgl : gl < base) (hgb : gb < base) (hbb : b < base) (hne1 : gat ≠ gb) (hne2 : gl ≠ gb) (hne3 : b ≠ gb)
    (hthrow : Px.fits p ≠ 0 → ∀ a w', a.defers = [] → Bw wr w' → Q (.panic [{ v := .iface 29 (.int .i64 (Px.fits p : Int)), recovered := false }]) a w')
    (hgood : Px.fits p = 0 → ∀ y9 y10 y11 y12 y13 y14 y15 A3 c3 m3 w3, Hid ((l ++ Px.rcd p).length = m3) → Below base wr w3 → w3.ownsRow base 5 1 (.slice A3 m3 c3) m3 (Px.cellsB (l ++ Px.rcd p)) → Q .normal { tmps := #[.pointer (some ⟨gat, 0, none⟩), .pointer (some ⟨gl, 0, none⟩), .pointer (some ⟨gb, 0, none⟩), u3, u4, u5, u6, u7, u8, y9, y10, y11, y12, y13, y14, y15, u16, u17, u18, u19, u20, u21, u22, u23], defers := [] } (w3.setCell ⟨gb, 0, none⟩ (.slice A3 m3 c3))) :
    Code.wp Tryz.prog (Code.region 2 #[{ dst := some 9, op := Op.load 24 (Operand.tmp 2), type := 24, pos := "pax.go:56", after := #[], guard := none }, { dst := some 10, op := Op.load 37 (Operand.tmp 1), type := 37, pos := "pax.go:56", after := #[], guard := none }, { dst := some 11, op := Op.load 3 (Operand.tmp 0), type := 3, pos := "pax.go:56", after := #[], guard := none }, { dst := some 12, op := Op.indexAddr 37 (Operand.tmp 10) (Operand.tmp 11), type := 0, pos := "pax.go:56", after := #[{ on := 1, ground := Ground.data }, { on := 2, ground := Ground.data }], guard := none }, { dst := some 13, op := Op.load 42 (Operand.tmp 12), type := 42, pos := "pax.go:56", after := #[{ on := 3, ground := Ground.data }], guard := none }, { dst := some 14, op := Op.call { callee := Callee.value (Operand.func 45), args := #[Operand.tmp 13], argTypes := #[42] }, type := 24, pos := "pax.go:56", after := #[{ on := 4, ground := Ground.data }], guard := none }, { dst := some 15, op := Op.call { callee := Callee.builtin Builtin.append, args := #[Operand.tmp 9, Operand.tmp 14], argTypes := #[24, 24] }, type := 24, pos := "pax.go:56", after := #[{ on := 0, ground := Ground.data }, { on := 5, ground := Ground.data }, { on := 5, ground := Ground.chain }], guard := none }, { dst := none, op := Op.store 24 (Operand.tmp 2) (Operand.tmp 15), type := 0, pos := "pax.go:56", after := #[{ on := 6, ground := Ground.data }, { on := 6, ground := Ground.chain }, { on := 0, ground := Ground.phase }, { on := 1, ground := Ground.phase }, { on := 2, ground := Ground.phase }, { on := 3, ground := Ground.phase }, { on := 4, ground := Ground.phase }, { on := 5, ground := Ground.phase }, { on := 6, ground := Ground.phase }], guard := none }] true) Q { tmps := #[.pointer (some ⟨gat, 0, none⟩), .pointer (some ⟨gl, 0, none⟩), .pointer (some ⟨gb, 0, none⟩), u3, u4, u5, u6, u7, u8, u9, u10, u11, u12, u13, u14, u15, u16, u17, u18, u19, u20, u21, u22, u23], defers := [] } wr := by
  have k0 : (0 : Int) ≤ (k : Int) := Int.natCast_nonneg _
  have k1 : (k : Int) < (n : Int) := by omega
  have hpp : Hid (((Nm.S p.1).toList, (Nm.S p.2).toList) = p) := by show _ = _; rw [Nm.toList_S, Nm.toList_S]
  have SK : Hid (∀ w', Below base wr w' → w'.cell? ⟨gat, 0, none⟩ = some (.int .i64 (k : Int)) ∧ w'.cell? ⟨gl, 0, none⟩ = some (.slice (some ⟨b, off, none⟩) n cap) ∧ w'.cell? ⟨b, off + k * 2, none⟩ = some (.string (Nm.S p.1)) ∧ w'.cell? ⟨b, off + k * 2 + 1, none⟩ = some (.string (Nm.S p.2))) := fun w' h => ⟨(va.keep h hga).cell, (vl.keep h hgl).cell, (h.cell (p := ⟨b, off + k * 2, none⟩) hbb).trans c1, (h.cell (p := ⟨b, off + k * 2 + 1, none⟩) hbb).trans c2⟩
  have SX : Hid (∀ w1 x, Below base wr w1 → (fun w' => w'.cell? ⟨gat, 0, none⟩ = some (.int .i64 (k : Int)) ∧ w'.cell? ⟨gl, 0, none⟩ = some (.slice (some ⟨b, off, none⟩) n cap) ∧ w'.cell? ⟨b, off + k * 2, none⟩ = some (.string (Nm.S p.1)) ∧ w'.cell? ⟨b, off + k * 2 + 1, none⟩ = some (.string (Nm.S p.2))) (w1.setCell ⟨gb, 0, none⟩ x)) := fun w1 x h => ⟨((va.keep h hga).other x hne1).cell, ((vl.keep h hgl).other x hne2).cell, by
    have := (h.cell (p := ⟨b, off + k * 2, none⟩) hbb).trans c1
    rw [← this]; exact World.cell?_of_block (w := w1) (Below.heap_setCell w1 ⟨gb, 0, none⟩ x b hne3), by
    have := (h.cell (p := ⟨b, off + k * 2 + 1, none⟩) hbb).trans c2
    rw [← this]; exact World.cell?_of_block (w := w1) (Below.heap_setCell w1 ⟨gb, 0, none⟩ x b hne3)⟩
  have vac := va.cell
  have vlc := vl.cell
  have vbc := vb.cell
  refine wp_region_held_drew (S := fun w' => w'.cell? ⟨gat, 0, none⟩ = some (.int .i64 (k : Int)) ∧ w'.cell? ⟨gl, 0, none⟩ = some (.slice (some ⟨b, off, none⟩) n cap) ∧ w'.cell? ⟨b, off + k * 2, none⟩ = some (.string (Nm.S p.1)) ∧ w'.cell? ⟨b, off + k * 2 + 1, none⟩ = some (.string (Nm.S p.2))) (by kernel_rfl) ⟨vac, vlc, c1, c2⟩ (fun hHeld => ?_)
  clear vac vlc
  refine wpAnyH_take (i := 1) (oi := { dst := some 10, op := Op.load 37 (Operand.tmp 1), type := 37, pos := "pax.go:56", after := #[], guard := none }) (v := ?_) rfl (by kernel_rfl) (by kernel_rfl) (by kernel_rfl) (fun _ _ _ h => hQ _ _ _ _ _ h) (Or.inl ⟨by rfl, ?_⟩) (by assumption) ?_
  rotate_left
  · intro w hSw; (try dsimp only at hSw); go_simp; all_goals (with_reducible rfl)
  try simp only [Act.put, List.setIfInBounds_toArray, List.set_cons_zero, List.set_cons_succ]
  refine wpAnyH_take (i := 2) (oi := { dst := some 11, op := Op.load 3 (Operand.tmp 0), type := 3, pos := "pax.go:56", after := #[], guard := none }) (v := ?_) rfl (by kernel_rfl) (by kernel_rfl) (by kernel_rfl) (fun _ _ _ h => hQ _ _ _ _ _ h) (Or.inl ⟨by rfl, ?_⟩) (by assumption) ?_
  rotate_left
  · intro w hSw; (try dsimp only at hSw); go_simp; all_goals (with_reducible rfl)
  try simp only [Act.put, List.setIfInBounds_toArray, List.set_cons_zero, List.set_cons_succ]
  refine wpAnyH_take (i := 3) (oi := { dst := some 12, op := Op.indexAddr 37 (Operand.tmp 10) (Operand.tmp 11), type := 0, pos := "pax.go:56", after := #[{ on := 1, ground := Ground.data }, { on := 2, ground := Ground.data }], guard := none }) (v := ?_) rfl (by kernel_rfl) (by kernel_rfl) (by kernel_rfl) (fun _ _ _ h => hQ _ _ _ _ _ h) (Or.inl ⟨by rfl, ?_⟩) (by assumption) ?_
  rotate_left
  · intro w hSw; (try dsimp only at hSw); go_simp; all_goals (with_reducible rfl)
  try simp only [Act.put, List.setIfInBounds_toArray, List.set_cons_zero, List.set_cons_succ]
  refine wpAnyH_take (i := 4) (oi := { dst := some 13, op := Op.load 42 (Operand.tmp 12), type := 42, pos := "pax.go:56", after := #[{ on := 3, ground := Ground.data }], guard := none }) (v := ?_) rfl (by kernel_rfl) (by kernel_rfl) (by kernel_rfl) (fun _ _ _ h => hQ _ _ _ _ _ h) (Or.inl ⟨by rfl, ?_⟩) (by assumption) ?_
  rotate_left
  · intro w hSw; (try dsimp only at hSw); go_simp; all_goals (with_reducible rfl)
  try simp only [Act.put, List.setIfInBounds_toArray, List.set_cons_zero, List.set_cons_succ]
  refine wpAnyH_ready (rs := [0, 5]) (by kernel_rfl) (by simp) ?_
  refine AllReadyH.cons (o := { dst := some 9, op := Op.load 24 (Operand.tmp 2), type := 24, pos := "pax.go:56", after := #[], guard := none }) rfl (fun K hK => ?_) (AllReadyH.cons (o := { dst := some 14, op := Op.call { callee := Callee.value (Operand.func 45), args := #[Operand.tmp 13], argTypes := #[42] }, type := 24, pos := "pax.go:56", after := #[{ on := 4, ground := Ground.data }], guard := none }) rfl (fun K hK => ?_) AllReadyH.nil)
  · go_simp
    refine hK.out _ _ hHeld (fun hHeld => ?_)
    clear hK K
    try simp only [Act.put, List.setIfInBounds_toArray, List.set_cons_zero, List.set_cons_succ]
    refine wpAnyH_ready (rs := [5]) (by kernel_rfl) (by simp) ?_
    refine AllReadyH.cons (o := { dst := some 14, op := Op.call { callee := Callee.value (Operand.func 45), args := #[Operand.tmp 13], argTypes := #[42] }, type := 24, pos := "pax.go:56", after := #[{ on := 4, ground := Ground.data }], guard := none }) rfl (fun K hK => ?_) AllReadyH.nil
    go_simp
    refine (rec_any (Nm.S p.1) (Nm.S p.2) hs1 hs2 _ (KK.out _ (Bw.drew9 _))).mono ?_
    rintro e w1 ⟨hA, hw1⟩
    rw [hpp.out] at hA
    have hwx := Bw.trans (Bw.drew9 wr) hw1
    have hb1 : Below base wr w1 := hwx.mono hbase
    rcases hA with ⟨h, rfl⟩ | ⟨h, x, rfl, hu⟩
    · unfold thrown
      exact hthrow h _ _ rfl hwx
    · have hrl := Px.rcd_bd h
      have hr0 : 0 < (Px.rcd p).length := by rw [Px.rcd_len]; have := Px.size_ge (3 + p.1.length + p.2.length); unfold Px.psize; omega
      have hsz1 := hwx.size
      have vb1 := vb.keep hwx vb.lt
      have ho1 := own_keep ho hwx
      obtain ⟨A5, c5, rfl⟩ := own_slice hu
      have hS1 := SK.out w1 hb1
      refine hK.out _ _ hS1 (fun hHeld => ?_)
      clear hK K
      try simp only [Act.put, List.setIfInBounds_toArray, List.set_cons_zero, List.set_cons_succ]
      refine wpAnyH_ready (rs := [6]) (by kernel_rfl) (by simp) ?_
      refine AllReadyH.cons (o := { dst := some 15, op := Op.call { callee := Callee.builtin Builtin.append, args := #[Operand.tmp 9, Operand.tmp 14], argTypes := #[24, 24] }, type := 24, pos := "pax.go:56", after := #[{ on := 0, ground := Ground.data }, { on := 5, ground := Ground.data }, { on := 5, ground := Ground.chain }], guard := none }) rfl (fun K hK => ?_) AllReadyH.nil
      refine step_own9 (w := w1) (by rfl) _ _ (by rfl) base v l (by rfl) ho1 _ _ (Px.rcd p) (by rfl) hu hr0 (by omega) (by omega) (Nat.le_trans hbase hsz1) ?_
      intro A3 c3 m3 w3 hm3 ho3 hb3
      have hb13 := hb1.trans hb3
      have hS3 := SK.out w3 hb13
      refine hK.out _ _ hS3 (fun hHeld => ?_)
      clear hK K
      try simp only [Act.put, List.setIfInBounds_toArray, List.set_cons_zero, List.set_cons_succ]
      refine wpAnyH_ready (rs := [7]) (by kernel_rfl) (by simp) ?_
      refine AllReadyH.cons (o := { dst := none, op := Op.store 24 (Operand.tmp 2) (Operand.tmp 15), type := 0, pos := "pax.go:56", after := #[{ on := 6, ground := Ground.data }, { on := 6, ground := Ground.chain }, { on := 0, ground := Ground.phase }, { on := 1, ground := Ground.phase }, { on := 2, ground := Ground.phase }, { on := 3, ground := Ground.phase }, { on := 4, ground := Ground.phase }, { on := 5, ground := Ground.phase }, { on := 6, ground := Ground.phase }], guard := none }) rfl (fun K hK => ?_) AllReadyH.nil
      have vb3 := vb1.keep hb3 hgb
      have cb3 := vb3.cell
      have zb3 := vb3.free
      go_simp
      have hS4 := SX.out w3 (.slice A3 m3 c3) hb13
      refine hK.out _ _ hS4 (fun hHeld => ?_)
      clear hK K
      try simp only [Act.put, List.setIfInBounds_toArray, List.set_cons_zero, List.set_cons_succ]
      refine wpAnyH_done (by kernel_rfl) ?_ _
      exact hgood h _ _ _ _ _ _ _ _ _ _ _ hm3 hb13 ho3
  · go_simp
    refine (rec_any (Nm.S p.1) (Nm.S p.2) hs1 hs2 _ (KK.out _ (Bw.drew9 _))).mono ?_
    rintro e w1 ⟨hA, hw1⟩
    rw [hpp.out] at hA
    have hwx := Bw.trans (Bw.drew9 wr) hw1
    have hb1 : Below base wr w1 := hwx.mono hbase
    rcases hA with ⟨h, rfl⟩ | ⟨h, x, rfl, hu⟩
    · unfold thrown
      exact hthrow h _ _ rfl hwx
    · have hrl := Px.rcd_bd h
      have hr0 : 0 < (Px.rcd p).length := by rw [Px.rcd_len]; have := Px.size_ge (3 + p.1.length + p.2.length); unfold Px.psize; omega
      have hsz1 := hwx.size
      have vb1 := vb.keep hwx vb.lt
      have ho1 := own_keep ho hwx
      obtain ⟨A5, c5, rfl⟩ := own_slice hu
      have hS1 := SK.out w1 hb1
      refine hK.out _ _ hS1 (fun hHeld => ?_)
      clear hK K
      try simp only [Act.put, List.setIfInBounds_toArray, List.set_cons_zero, List.set_cons_succ]
      refine wpAnyH_ready (rs := [0]) (by kernel_rfl) (by simp) ?_
      refine AllReadyH.cons (o := { dst := some 9, op := Op.load 24 (Operand.tmp 2), type := 24, pos := "pax.go:56", after := #[], guard := none }) rfl (fun K hK => ?_) AllReadyH.nil
      have vb1c := vb1.cell
      go_simp
      refine hK.out _ _ hS1 (fun hHeld => ?_)
      clear hK K
      try simp only [Act.put, List.setIfInBounds_toArray, List.set_cons_zero, List.set_cons_succ]
      refine wpAnyH_ready (rs := [6]) (by kernel_rfl) (by simp) ?_
      refine AllReadyH.cons (o := { dst := some 15, op := Op.call { callee := Callee.builtin Builtin.append, args := #[Operand.tmp 9, Operand.tmp 14], argTypes := #[24, 24] }, type := 24, pos := "pax.go:56", after := #[{ on := 0, ground := Ground.data }, { on := 5, ground := Ground.data }, { on := 5, ground := Ground.chain }], guard := none }) rfl (fun K hK => ?_) AllReadyH.nil
      refine step_own9 (w := w1) (by rfl) _ _ (by rfl) base v l (by rfl) ho1 _ _ (Px.rcd p) (by rfl) hu hr0 (by omega) (by omega) (Nat.le_trans hbase hsz1) ?_
      intro A3 c3 m3 w3 hm3 ho3 hb3
      have hb13 := hb1.trans hb3
      have hS3 := SK.out w3 hb13
      refine hK.out _ _ hS3 (fun hHeld => ?_)
      clear hK K
      try simp only [Act.put, List.setIfInBounds_toArray, List.set_cons_zero, List.set_cons_succ]
      refine wpAnyH_ready (rs := [7]) (by kernel_rfl) (by simp) ?_
      refine AllReadyH.cons (o := { dst := none, op := Op.store 24 (Operand.tmp 2) (Operand.tmp 15), type := 0, pos := "pax.go:56", after := #[{ on := 6, ground := Ground.data }, { on := 6, ground := Ground.chain }, { on := 0, ground := Ground.phase }, { on := 1, ground := Ground.phase }, { on := 2, ground := Ground.phase }, { on := 3, ground := Ground.phase }, { on := 4, ground := Ground.phase }, { on := 5, ground := Ground.phase }, { on := 6, ground := Ground.phase }], guard := none }) rfl (fun K hK => ?_) AllReadyH.nil
      have vb3 := vb1.keep hb3 hgb
      have cb3 := vb3.cell
      have zb3 := vb3.free
      go_simp
      have hS4 := SX.out w3 (.slice A3 m3 c3) hb13
      refine hK.out _ _ hS4 (fun hHeld => ?_)
      clear hK K
      try simp only [Act.put, List.setIfInBounds_toArray, List.set_cons_zero, List.set_cons_succ]
      refine wpAnyH_done (by kernel_rfl) ?_ _
      exact hgood h _ _ _ _ _ _ _ _ _ _ _ hm3 hb13 ho3
set_option maxRecDepth 100000 in
set_option maxHeartbeats 4000000 in
theorem put_reg3 (gat gl gb b off n cap k : Nat) (L : List Px.Pr) (p : Px.Pr) (wr : World) (Q : Exit → Act → World → Prop) (u3 u4 u5 u6 u7 u8 u9 u10 u11 u12 u13 u14 u15 u16 u17 u18 u19 u20 u21 u22 u23 : Value)
    (hk : k < n) (hn : n ≤ 64) (va : VarAt wr gat 3 (.int .i64 (k : Int))) (vl : VarAt wr gl 37 (.slice (some ⟨b, off, none⟩) n cap))
    (c1 : wr.cell? ⟨b, off + k * 2, none⟩ = some (.string (Nm.S p.1))) (c2 : wr.cell? ⟨b, off + k * 2 + 1, none⟩ = some (.string (Nm.S p.2)))
    (hQ : ∀ (c : List PanicEntry) (a : Act) (d : Option Nat) (x : Value) (w : World), Q (.panic c) (a.put d x) w → Q (.panic c) a w)
    (hLn : L.length = n) (hcap : n ≤ cap) (ha : PrsAt wr (some ⟨b, off, none⟩) L)
    (hthrow : Px.riseK L k p.1 ≠ 0 → ∀ a w', a.defers = [] → Bw wr w' → Q (.panic [{ v := .iface 29 (.int .i64 (Px.riseK L k p.1 : Int)), recovered := false }]) a w')
    (hgood : Px.riseK L k p.1 = 0 → ∀ y16 y17 y18 y19 y20 y21 y22 y23 w', Bw wr w' → Q .normal { tmps := #[.pointer (some ⟨gat, 0, none⟩), .pointer (some ⟨gl, 0, none⟩), .pointer (some ⟨gb, 0, none⟩), u3, u4, u5, u6, u7, u8, u9, u10, u11, u12, u13, u14, u15, y16, y17, y18, y19, y20, y21, y22, y23], defers := [] } w') :
    Code.wp Tryz.prog (Code.region 3 #[{ dst := some 16, op := Op.load 37 (Operand.tmp 1), type := 37, pos := "pax.go:57", after := #[], guard := none }, { dst := some 17, op := Op.load 3 (Operand.tmp 0), type := 3, pos := "pax.go:57", after := #[], guard := none }, { dst := some 18, op := Op.slice 37 (Operand.tmp 16) none (some (Operand.tmp 17)) none, type := 37, pos := "pax.go:57", after := #[{ on := 0, ground := Ground.data }, { on := 1, ground := Ground.data }], guard := none }, { dst := some 19, op := Op.load 37 (Operand.tmp 1), type := 37, pos := "pax.go:57", after := #[], guard := none }, { dst := some 20, op := Op.load 3 (Operand.tmp 0), type := 3, pos := "pax.go:57", after := #[], guard := none }, { dst := some 21, op := Op.indexAddr 37 (Operand.tmp 19) (Operand.tmp 20), type := 0, pos := "pax.go:57", after := #[{ on := 3, ground := Ground.data }, { on := 4, ground := Ground.data }], guard := none }, { dst := some 22, op := Op.load 42 (Operand.tmp 21), type := 42, pos := "pax.go:57", after := #[{ on := 5, ground := Ground.data }], guard := none }, { dst := some 23, op := Op.call { callee := Callee.value (Operand.func 46), args := #[Operand.tmp 18, Operand.tmp 22], argTypes := #[37, 42] }, type := 0, pos := "pax.go:57", after := #[{ on := 2, ground := Ground.data }, { on := 6, ground := Ground.data }], guard := none }] true) Q { tmps := #[.pointer (some ⟨gat, 0, none⟩), .pointer (some ⟨gl, 0, none⟩), .pointer (some ⟨gb, 0, none⟩), u3, u4, u5, u6, u7, u8, u9, u10, u11, u12, u13, u14, u15, u16, u17, u18, u19, u20, u21, u22, u23], defers := [] } wr := by
  have k0 : (0 : Int) ≤ (k : Int) := Int.natCast_nonneg _
  have k1 : (k : Int) < (n : Int) := by omega
  have k2 : (k : Int) ≤ (cap : Int) := by omega
  have kc : k ≤ cap := by omega
  have SK : Hid (∀ w', Bw wr w' → w'.cell? ⟨gat, 0, none⟩ = some (.int .i64 (k : Int)) ∧ w'.cell? ⟨gl, 0, none⟩ = some (.slice (some ⟨b, off, none⟩) n cap) ∧ w'.cell? ⟨b, off + k * 2, none⟩ = some (.string (Nm.S p.1)) ∧ w'.cell? ⟨b, off + k * 2 + 1, none⟩ = some (.string (Nm.S p.2))) := fun w' h => ⟨(va.keep h va.lt).cell, (vl.keep h vl.lt).cell, (h.cell (p := ⟨b, off + k * 2, none⟩) (block_lt_of_cell c1)).trans c1, (h.cell (p := ⟨b, off + k * 2 + 1, none⟩) (block_lt_of_cell c2)).trans c2⟩
  have vac := va.cell
  have vlc := vl.cell
  refine wp_region_held_drew (S := fun w' => w'.cell? ⟨gat, 0, none⟩ = some (.int .i64 (k : Int)) ∧ w'.cell? ⟨gl, 0, none⟩ = some (.slice (some ⟨b, off, none⟩) n cap) ∧ w'.cell? ⟨b, off + k * 2, none⟩ = some (.string (Nm.S p.1)) ∧ w'.cell? ⟨b, off + k * 2 + 1, none⟩ = some (.string (Nm.S p.2))) (by kernel_rfl) ⟨vac, vlc, c1, c2⟩ (fun hHeld => ?_)
  clear vac vlc
  refine wpAnyH_take (i := 0) (oi := { dst := some 16, op := Op.load 37 (Operand.tmp 1), type := 37, pos := "pax.go:57", after := #[], guard := none }) (v := ?_) rfl (by kernel_rfl) (by kernel_rfl) (by kernel_rfl) (fun _ _ _ h => hQ _ _ _ _ _ h) (Or.inl ⟨by rfl, ?_⟩) (by assumption) ?_
  rotate_left
  · intro w hSw; (try dsimp only at hSw); go_simp; all_goals (with_reducible rfl)
  try simp only [Act.put, List.setIfInBounds_toArray, List.set_cons_zero, List.set_cons_succ]
  refine wpAnyH_take (i := 1) (oi := { dst := some 17, op := Op.load 3 (Operand.tmp 0), type := 3, pos := "pax.go:57", after := #[], guard := none }) (v := ?_) rfl (by kernel_rfl) (by kernel_rfl) (by kernel_rfl) (fun _ _ _ h => hQ _ _ _ _ _ h) (Or.inl ⟨by rfl, ?_⟩) (by assumption) ?_
  rotate_left
  · intro w hSw; (try dsimp only at hSw); go_simp; all_goals (with_reducible rfl)
  try simp only [Act.put, List.setIfInBounds_toArray, List.set_cons_zero, List.set_cons_succ]
  refine wpAnyH_take (i := 2) (oi := { dst := some 18, op := Op.slice 37 (Operand.tmp 16) none (some (Operand.tmp 17)) none, type := 37, pos := "pax.go:57", after := #[{ on := 0, ground := Ground.data }, { on := 1, ground := Ground.data }], guard := none }) (v := ?_) rfl (by kernel_rfl) (by kernel_rfl) (by kernel_rfl) (fun _ _ _ h => hQ _ _ _ _ _ h) (Or.inl ⟨by rfl, ?_⟩) (by assumption) ?_
  rotate_left
  · intro w hSw; (try dsimp only at hSw); go_simp; all_goals (with_reducible rfl)
  try simp only [Act.put, List.setIfInBounds_toArray, List.set_cons_zero, List.set_cons_succ]
  refine wpAnyH_take (i := 3) (oi := { dst := some 19, op := Op.load 37 (Operand.tmp 1), type := 37, pos := "pax.go:57", after := #[], guard := none }) (v := ?_) rfl (by kernel_rfl) (by kernel_rfl) (by kernel_rfl) (fun _ _ _ h => hQ _ _ _ _ _ h) (Or.inl ⟨by rfl, ?_⟩) (by assumption) ?_
  rotate_left
  · intro w hSw; (try dsimp only at hSw); go_simp; all_goals (with_reducible rfl)
  try simp only [Act.put, List.setIfInBounds_toArray, List.set_cons_zero, List.set_cons_succ]
  refine wpAnyH_take (i := 4) (oi := { dst := some 20, op := Op.load 3 (Operand.tmp 0), type := 3, pos := "pax.go:57", after := #[], guard := none }) (v := ?_) rfl (by kernel_rfl) (by kernel_rfl) (by kernel_rfl) (fun _ _ _ h => hQ _ _ _ _ _ h) (Or.inl ⟨by rfl, ?_⟩) (by assumption) ?_
  rotate_left
  · intro w hSw; (try dsimp only at hSw); go_simp; all_goals (with_reducible rfl)
  try simp only [Act.put, List.setIfInBounds_toArray, List.set_cons_zero, List.set_cons_succ]
  refine wpAnyH_take (i := 5) (oi := { dst := some 21, op := Op.indexAddr 37 (Operand.tmp 19) (Operand.tmp 20), type := 0, pos := "pax.go:57", after := #[{ on := 3, ground := Ground.data }, { on := 4, ground := Ground.data }], guard := none }) (v := ?_) rfl (by kernel_rfl) (by kernel_rfl) (by kernel_rfl) (fun _ _ _ h => hQ _ _ _ _ _ h) (Or.inl ⟨by rfl, ?_⟩) (by assumption) ?_
  rotate_left
  · intro w hSw; (try dsimp only at hSw); go_simp; all_goals (with_reducible rfl)
  try simp only [Act.put, List.setIfInBounds_toArray, List.set_cons_zero, List.set_cons_succ]
  refine wpAnyH_take (i := 6) (oi := { dst := some 22, op := Op.load 42 (Operand.tmp 21), type := 42, pos := "pax.go:57", after := #[{ on := 5, ground := Ground.data }], guard := none }) (v := ?_) rfl (by kernel_rfl) (by kernel_rfl) (by kernel_rfl) (fun _ _ _ h => hQ _ _ _ _ _ h) (Or.inl ⟨by rfl, ?_⟩) (by assumption) ?_
  rotate_left
  · intro w hSw; (try dsimp only at hSw); go_simp; all_goals (with_reducible rfl)
  try simp only [Act.put, List.setIfInBounds_toArray, List.set_cons_zero, List.set_cons_succ]
  refine wpAnyH_ready (rs := [7]) (by kernel_rfl) (by simp) ?_
  refine AllReadyH.cons (o := { dst := some 23, op := Op.call { callee := Callee.value (Operand.func 46), args := #[Operand.tmp 18, Operand.tmp 22], argTypes := #[37, 42] }, type := 0, pos := "pax.go:57", after := #[{ on := 2, ground := Ground.data }, { on := 6, ground := Ground.data }], guard := none }) rfl (fun K hK => ?_) AllReadyH.nil
  go_simp
  refine (mrise_any (some ⟨b, off, none⟩) cap k L (by omega) (by omega) (Nm.S p.1) (Nm.S p.2) _ (ha.keep (Bw.drew9 _))).mono ?_
  rintro e w1 ⟨hA, hw1⟩
  rw [Nm.toList_S] at hA
  have hwx := Bw.trans (Bw.drew9 wr) hw1
  rcases hA with ⟨h, rfl⟩ | ⟨h, rfl⟩
  · have hS1 := SK.out w1 hwx
    refine hK.out _ _ hS1 (fun hHeld => ?_)
    clear hK K
    try simp only [Act.put, List.setIfInBounds_toArray, List.set_cons_zero, List.set_cons_succ]
    refine wpAnyH_done (by kernel_rfl) ?_ _
    exact hgood h _ _ _ _ _ _ _ _ _ hwx
  · unfold thrown
    exact hthrow h _ _ rfl hwx
end Go.Proofs.YtldkhbkgmiicbabGreatDoor
