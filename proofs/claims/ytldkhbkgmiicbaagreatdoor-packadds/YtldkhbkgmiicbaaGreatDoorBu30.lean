/- Texts of mine, put together. -/
import Derived.Test.YtldkhbkgmiicbaaGreatDoorBu29
import Derived.Deep.RegionHeld3

/- mustRise as a whole; an append onto an owned row inside a drawn region. -/
namespace Go.Proofs.YtldkhbkgmiicbaaGreatDoor
open Go.RowKit Go.Deep
set_option linter.unusedVariables false
set_option linter.unusedSimpArgs false

def Px.riseK (L : List Px.Pr) (k : Nat) (a : Px.B) : Nat := if Px.behind (Px.lastK L k) a = true then 0 else 92
theorem mrise_any (A : Option Addr) (cap k : Nat) (L : List Px.Pr) (hk : k ≤ L.length) (hn : L.length ≤ 4611686018427387904) (a b : ByteArray) (w : World) (ha : PrsAt w A L) :
    Calls Tryz.prog 86 #[.slice A k cap, .agg #[.string a, .string b]] w fun e w' => Asks (Px.riseK L k a.toList) e ∧ Bw w w' := by
  rcases Nat.eq_zero_or_pos k with h0 | h0
  · subst h0
    exact (rise_none A cap a b w).mono fun e w' ⟨h1, h2⟩ => ⟨.inl ⟨rfl, h1⟩, h2⟩
  · obtain ⟨q, rfl⟩ : ∃ q, k = q + 1 := ⟨k - 1, by omega⟩
    obtain ⟨p', hp'⟩ : ∃ p', L[q]? = some p' := ⟨_, List.getElem?_eq_getElem (by omega)⟩
    obtain ⟨g, o, rfl, hc⟩ := ha.at (by omega)
    obtain ⟨c1, -⟩ := hc q p' hp'
    have hb : Px.behind (Px.lastK L (q + 1)) a.toList = Op.bytesLess (Nm.S p'.1).toList a.toList := by
      unfold Px.lastK
      rw [if_neg (by omega), Nat.add_sub_cancel, hp', Nm.toList_S]
      rfl
    cases hls : Op.bytesLess (Nm.S p'.1).toList a.toList
    · refine (rise_no g o q cap (by omega) (Nm.S p'.1) a b w c1 hls).mono fun e w' ⟨h1, h2⟩ => ⟨.inr ?_, h2⟩
      have : Px.riseK L (q + 1) a.toList = 92 := by unfold Px.riseK; rw [hb, hls]; rfl
      rw [this]
      exact ⟨by decide, h1⟩
    · refine (rise_yes g o q cap (by omega) (Nm.S p'.1) a b w c1 hls).mono fun e w' ⟨h1, h2⟩ => ⟨.inl ⟨?_, h1⟩, h2⟩
      unfold Px.riseK; rw [hb, hls]; rfl
theorem PrsAt.keepb {w w' : World} {B : Nat} {A : Option Addr} {L : List Px.Pr} (h : PrsAt w A L) (k : Below B w w') (hA : L = [] ∨ ∀ b o, A = some ⟨b, o, none⟩ → b < B) : PrsAt w' A L := by
  rcases hA with h0 | hA
  · exact .inl h0
  rcases h with h | ⟨b, off, h1, h2⟩
  · exact .inl h
  · refine .inr ⟨b, off, h1, fun i p hp => ?_⟩
    obtain ⟨h3, h4⟩ := h2 i p hp
    exact ⟨(k.cell (p := ⟨b, off + i * 2, none⟩) (hA b off h1)).trans h3, (k.cell (p := ⟨b, off + i * 2 + 1, none⟩) (hA b off h1)).trans h4⟩
/-- bytes onto an owned row, in a drawn region -/
theorem step_own9 {w : World} {ops : Array Oper} {o : Oper} {a : Act} {K : Act → World → Prop} {Q : Exit → Act → World → Prop} {E : Prop} (hgd : o.guard = none) (s x : Operand)
    (ho : o.op = .call { callee := .builtin .append, args := #[s, x], argTypes := #[24, 24] }) (B : Nat) (v : Value) (l : Px.B) (hs : a.eval s = v)
    (hown : w.ownsRow B 5 1 v l.length (Px.cellsB l)) (B' : Nat) (u : Value) (r : Px.B) (hx : a.eval x = u) (hr : w.ownsRow B' 5 1 u r.length (Px.cellsB r)) (hr0 : 0 < r.length)
    (hlen : l.length ≤ 1000000) (hlr : r.length ≤ 1000000) (hB : B ≤ w.heap.size)
    (hh : ∀ A c m w', Hid ((l ++ r).length = m) → w'.ownsRow B 5 1 (.slice A m c) m (Px.cellsB (l ++ r)) → Below B w w' → K (a.put o.dst (.slice A m c)) w') :
    if Region.wanted o (yielded ops a.tmps) = true then Oper.wp Tryz.prog o a w K Q else E := by
  have hw : Region.wanted o (yielded ops a.tmps) = true := by simp [Region.wanted, hgd]
  rw [if_pos hw]
  obtain ⟨i0, hi0, hz0, hz1, hz2⟩ := info_parts info_u8
  obtain ⟨g, cap, rfl⟩ : ∃ g cap, u = .slice (some ⟨g, 0, none⟩) r.length cap := by
    rcases hr with ⟨h0, ⟨h1, h2⟩ | ⟨g', cap, cur, h1, h2⟩⟩
    · omega
    · exact ⟨g', cap, h1⟩
  obtain ⟨v', w', hrun, h1, h2, -⟩ := run_append_own (P := Tryz.prog) w B 24 o.type 5 i0 _ 1 1 Tryz.underlying24 hi0 hz0 hz1 hz2 rfl (by decide) v l.length (Px.cellsB l) hown ⟨g, 0, none⟩ r.length cap (Px.cellsB r) (by rw [Px.cellsB_len, Nat.mul_one]) (hr.cells (g := g) rfl) (fun y hy => by
    unfold Px.cellsB at hy
    obtain ⟨c, _, rfl⟩ := List.mem_map.1 hy
    rfl) (by unfold maxLen; omega) (by omega) hB
  have h3 : w'.ownsRow B 5 1 v' (l ++ r).length (Px.cellsB (l ++ r)) := by
    rw [Px.cellsB_append, List.length_append]; exact h1
  obtain ⟨A, c, rfl⟩ := own_slice h3
  unfold Oper.wp execOp
  simp only [ho, resolve, invoke, builtin, Sem.run_bind, Sem.run_pure, Result.andThen_ok, List.map_toArray, List.map_cons, List.map_nil, hs, hx, hrun]
  exact hh A c _ w' (show (l ++ r).length = _ from rfl) h3 ((Below.refl _ _).grown h2 hB (fun k hk => (hown.lt k hk).1))
end Go.Proofs.YtldkhbkgmiicbaaGreatDoor

/- The two drawn regions of what Put's work does. -/
namespace Go.Proofs.YtldkhbkgmiicbaaGreatDoor
open Go.RowKit Go.Deep
set_option linter.unusedVariables false
set_option linter.unusedSimpArgs false

theorem Bw.drew9 (w : World) : Bw w w.drew := Below.drew (Bw.refl _)
set_option maxRecDepth 100000 in
set_option maxHeartbeats 4000000 in
theorem put_reg2 (lo base gat gl gb b off n cap k : Nat) (p : Px.Pr) (l : Px.B) (v : Value) (wr : World) (Q : Exit → Act → World → Prop) (u3 u4 u5 u6 u7 u8 u9 u10 u11 u12 u13 u14 u15 u16 u17 u18 u19 u20 u21 u22 u23 : Value)
    (hk : k < n) (hn : n ≤ 64) (va : VarAt wr gat 3 (.int .i64 (k : Int))) (vl : VarAt wr gl 95 (.slice (some ⟨b, off, none⟩) n cap))
    (c1 : wr.cell? ⟨b, off + k * 2, none⟩ = some (.string (Nm.S p.1))) (c2 : wr.cell? ⟨b, off + k * 2 + 1, none⟩ = some (.string (Nm.S p.2)))
    (hQ : ∀ (c : List PanicEntry) (a : Act) (d : Option Nat) (x : Value) (w : World), Q (.panic c) (a.put d x) w → Q (.panic c) a w)
    (vb : VarAt wr gb 24 v) (hs1 : (Nm.S p.1).size ≤ 140737488355328) (hs2 : (Nm.S p.2).size ≤ 140737488355328) (KK : Hid (∀ W, Bw wr W → KAt W)) (ho : wr.ownsRow base 5 1 v l.length (Px.cellsB l)) (hl : l.length ≤ 100000)
    (hbase : base ≤ wr.heap.size) (hga : gat < base) (hgl : gl < base) (hgb : gb < base) (hbb : b < base) (hne1 : gat ≠ gb) (hne2 : gl ≠ gb) (hne3 : b ≠ gb)
    (hthrow : Px.fits p ≠ 0 → ∀ a w', a.defers = [] → Bw wr w' → Q (.panic [{ v := .iface 25 (.int .i64 (Px.fits p : Int)), recovered := false }]) a w')
    (hgood : Px.fits p = 0 → ∀ y9 y10 y11 y12 y13 y14 y15 A3 c3 m3 w3, Hid ((l ++ Px.rcd p).length = m3) → Below base wr w3 → w3.ownsRow base 5 1 (.slice A3 m3 c3) m3 (Px.cellsB (l ++ Px.rcd p)) → Q .normal { tmps := #[.pointer (some ⟨gat, 0, none⟩), .pointer (some ⟨gl, 0, none⟩), .pointer (some ⟨gb, 0, none⟩), u3, u4, u5, u6, u7, u8, y9, y10, y11, y12, y13, y14, y15, u16, u17, u18, u19, u20, u21, u22, u23], defers := [] } (w3.setCell ⟨gb, 0, none⟩ (.slice A3 m3 c3))) :
    Code.wp Tryz.prog (Code.region 2 #[{ dst := some 9, op := Op.load 24 (Operand.tmp 2), type := 24, pos := "pax.go:56", after := #[], guard := none }, { dst := some 10, op := Op.load 95 (Operand.tmp 1), type := 95, pos := "pax.go:56", after := #[], guard := none }, { dst := some 11, op := Op.load 3 (Operand.tmp 0), type := 3, pos := "pax.go:56", after := #[], guard := none }, { dst := some 12, op := Op.indexAddr 95 (Operand.tmp 10) (Operand.tmp 11), type := 0, pos := "pax.go:56", after := #[{ on := 1, ground := Ground.data }, { on := 2, ground := Ground.data }], guard := none }, { dst := some 13, op := Op.load 130 (Operand.tmp 12), type := 130, pos := "pax.go:56", after := #[{ on := 3, ground := Ground.data }], guard := none }, { dst := some 14, op := Op.call { callee := Callee.value (Operand.func 85), args := #[Operand.tmp 13], argTypes := #[130] }, type := 24, pos := "pax.go:56", after := #[{ on := 4, ground := Ground.data }], guard := none }, { dst := some 15, op := Op.call { callee := Callee.builtin Builtin.append, args := #[Operand.tmp 9, Operand.tmp 14], argTypes := #[24, 24] }, type := 24, pos := "pax.go:56", after := #[{ on := 0, ground := Ground.data }, { on := 5, ground := Ground.data }, { on := 5, ground := Ground.chain }], guard := none }, { dst := none, op := Op.store 24 (Operand.tmp 2) (Operand.tmp 15), type := 0, pos := "pax.go:56", after := #[{ on := 6, ground := Ground.data }, { on := 6, ground := Ground.chain }, { on := 0, ground := Ground.phase }, { on := 1, ground := Ground.phase }, { on := 2, ground := Ground.phase }, { on := 3, ground := Ground.phase }, { on := 4, ground := Ground.phase }, { on := 5, ground := Ground.phase }, { on := 6, ground := Ground.phase }], guard := none }] true) Q { tmps := #[.pointer (some ⟨gat, 0, none⟩), .pointer (some ⟨gl, 0, none⟩), .pointer (some ⟨gb, 0, none⟩), u3, u4, u5, u6, u7, u8, u9, u10, u11, u12, u13, u14, u15, u16, u17, u18, u19, u20, u21, u22, u23], defers := [] } wr := by
  have k0 : (0 : Int) ≤ (k : Int) := Int.natCast_nonneg _
  have k1 : (k : Int) < (n : Int) := by omega
  have hpp : Hid (((Nm.S p.1).toList, (Nm.S p.2).toList) = p) := by show _ = _; rw [Nm.toList_S, Nm.toList_S]
  have SK : Hid (∀ w', Below base wr w' → w'.cell? ⟨gat, 0, none⟩ = some (.int .i64 (k : Int)) ∧ w'.cell? ⟨gl, 0, none⟩ = some (.slice (some ⟨b, off, none⟩) n cap) ∧ w'.cell? ⟨b, off + k * 2, none⟩ = some (.string (Nm.S p.1)) ∧ w'.cell? ⟨b, off + k * 2 + 1, none⟩ = some (.string (Nm.S p.2))) := fun w' h => ⟨(va.keep h hga).cell, (vl.keep h hgl).cell, (h.cell (p := ⟨b, off + k * 2, none⟩) hbb).trans c1, (h.cell (p := ⟨b, off + k * 2 + 1, none⟩) hbb).trans c2⟩
  have SX : Hid (∀ w1 x, Below base wr w1 → (fun w' => w'.cell? ⟨gat, 0, none⟩ = some (.int .i64 (k : Int)) ∧ w'.cell? ⟨gl, 0, none⟩ = some (.slice (some ⟨b, off, none⟩) n cap) ∧ w'.cell? ⟨b, off + k * 2, none⟩ = some (.string (Nm.S p.1)) ∧ w'.cell? ⟨b, off + k * 2 + 1, none⟩ = some (.string (Nm.S p.2))) (w1.setCell ⟨gb, 0, none⟩ x)) := fun w1 x h => ⟨((va.keep h hga).other x hne1).cell, ((vl.keep h hgl).other x hne2).cell, by
    have := (h.cell (p := ⟨b, off + k * 2, none⟩) hbb).trans c1
    rw [← this]; exact World.cell?_of_block (w := w1) (Below.heap_setCell w1 ⟨gb, 0, none⟩ x b hne3), by
    have := (h.cell (p := ⟨b, off + k * 2 + 1, none⟩) hbb).trans c2
    rw [← this]; exact World.cell?_of_block (w := w1) (Below.heap_setCell w1 ⟨gb, 0, none⟩ x b hne3)⟩
  have vac := va.cell
  have vlc := vl.cell
  have vbc := vb.cell
  refine wp_region_held_drew (S := fun w' => w'.cell? ⟨gat, 0, none⟩ = some (.int .i64 (k : Int)) ∧ w'.cell? ⟨gl, 0, none⟩ = some (.slice (some ⟨b, off, none⟩) n cap) ∧ w'.cell? ⟨b, off + k * 2, none⟩ = some (.string (Nm.S p.1)) ∧ w'.cell? ⟨b, off + k * 2 + 1, none⟩ = some (.string (Nm.S p.2))) (by kernel_rfl) ⟨vac, vlc, c1, c2⟩ (fun hHeld => ?_)
  clear vac vlc
  refine wpAnyH_take (i := 1) (oi := { dst := some 10, op := Op.load 95 (Operand.tmp 1), type := 95, pos := "pax.go:56", after := #[], guard := none }) (v := ?_) rfl (by kernel_rfl) (by kernel_rfl) (by kernel_rfl) (fun _ _ _ h => hQ _ _ _ _ _ h) (Or.inl ⟨by rfl, ?_⟩) (by assumption) ?_
  rotate_left
  · intro w hSw; (try dsimp only at hSw); go_simp; all_goals (with_reducible rfl)
  try simp only [Act.put, List.setIfInBounds_toArray, List.set_cons_zero, List.set_cons_succ]
  refine wpAnyH_take (i := 2) (oi := { dst := some 11, op := Op.load 3 (Operand.tmp 0), type := 3, pos := "pax.go:56", after := #[], guard := none }) (v := ?_) rfl (by kernel_rfl) (by kernel_rfl) (by kernel_rfl) (fun _ _ _ h => hQ _ _ _ _ _ h) (Or.inl ⟨by rfl, ?_⟩) (by assumption) ?_
  rotate_left
  · intro w hSw; (try dsimp only at hSw); go_simp; all_goals (with_reducible rfl)
  try simp only [Act.put, List.setIfInBounds_toArray, List.set_cons_zero, List.set_cons_succ]
  refine wpAnyH_take (i := 3) (oi := { dst := some 12, op := Op.indexAddr 95 (Operand.tmp 10) (Operand.tmp 11), type := 0, pos := "pax.go:56", after := #[{ on := 1, ground := Ground.data }, { on := 2, ground := Ground.data }], guard := none }) (v := ?_) rfl (by kernel_rfl) (by kernel_rfl) (by kernel_rfl) (fun _ _ _ h => hQ _ _ _ _ _ h) (Or.inl ⟨by rfl, ?_⟩) (by assumption) ?_
  rotate_left
  · intro w hSw; (try dsimp only at hSw); go_simp; all_goals (with_reducible rfl)
  try simp only [Act.put, List.setIfInBounds_toArray, List.set_cons_zero, List.set_cons_succ]
  refine wpAnyH_take (i := 4) (oi := { dst := some 13, op := Op.load 130 (Operand.tmp 12), type := 130, pos := "pax.go:56", after := #[{ on := 3, ground := Ground.data }], guard := none }) (v := ?_) rfl (by kernel_rfl) (by kernel_rfl) (by kernel_rfl) (fun _ _ _ h => hQ _ _ _ _ _ h) (Or.inl ⟨by rfl, ?_⟩) (by assumption) ?_
  rotate_left
  · intro w hSw; (try dsimp only at hSw); go_simp; all_goals (with_reducible rfl)
  try simp only [Act.put, List.setIfInBounds_toArray, List.set_cons_zero, List.set_cons_succ]
  refine wpAnyH_ready (rs := [0, 5]) (by kernel_rfl) (by simp) ?_
  refine AllReadyH.cons (o := { dst := some 9, op := Op.load 24 (Operand.tmp 2), type := 24, pos := "pax.go:56", after := #[], guard := none }) rfl (fun K hK => ?_) (AllReadyH.cons (o := { dst := some 14, op := Op.call { callee := Callee.value (Operand.func 85), args := #[Operand.tmp 13], argTypes := #[130] }, type := 24, pos := "pax.go:56", after := #[{ on := 4, ground := Ground.data }], guard := none }) rfl (fun K hK => ?_) AllReadyH.nil)
  · go_simp
    refine hK.out _ _ hHeld (fun hHeld => ?_)
    clear hK K
    try simp only [Act.put, List.setIfInBounds_toArray, List.set_cons_zero, List.set_cons_succ]
    refine wpAnyH_ready (rs := [5]) (by kernel_rfl) (by simp) ?_
    refine AllReadyH.cons (o := { dst := some 14, op := Op.call { callee := Callee.value (Operand.func 85), args := #[Operand.tmp 13], argTypes := #[130] }, type := 24, pos := "pax.go:56", after := #[{ on := 4, ground := Ground.data }], guard := none }) rfl (fun K hK => ?_) AllReadyH.nil
    go_simp
    refine (rec_any (Nm.S p.1) (Nm.S p.2) hs1 hs2 _ (KK.out _ (Bw.drew9 _))).mono ?_
    rintro e w1 ⟨hA, hw1⟩
    rw [hpp.out] at hA
    have hwx := Bw.trans (Bw.drew9 wr) hw1
    have hb1 : Below base wr w1 := hwx.mono hbase
    rcases hA with ⟨h, rfl⟩ | ⟨h, x, rfl, hu⟩
    · unfold thrown
      exact hthrow h _ _ rfl hwx
    · have hrl := Px.rcd_bd h
      have hr0 : 0 < (Px.rcd p).length := by rw [Px.rcd_len]; have := Px.size_ge (3 + p.1.length + p.2.length); unfold Px.psize; omega
      have hsz1 := hwx.size
      have vb1 := vb.keep hwx vb.lt
      have ho1 := own_keep ho hwx
      obtain ⟨A5, c5, rfl⟩ := own_slice hu
      have hS1 := SK.out w1 hb1
      refine hK.out _ _ hS1 (fun hHeld => ?_)
      clear hK K
      try simp only [Act.put, List.setIfInBounds_toArray, List.set_cons_zero, List.set_cons_succ]
      refine wpAnyH_ready (rs := [6]) (by kernel_rfl) (by simp) ?_
      refine AllReadyH.cons (o := { dst := some 15, op := Op.call { callee := Callee.builtin Builtin.append, args := #[Operand.tmp 9, Operand.tmp 14], argTypes := #[24, 24] }, type := 24, pos := "pax.go:56", after := #[{ on := 0, ground := Ground.data }, { on := 5, ground := Ground.data }, { on := 5, ground := Ground.chain }], guard := none }) rfl (fun K hK => ?_) AllReadyH.nil
      refine step_own9 (w := w1) (by rfl) _ _ (by rfl) base v l (by rfl) ho1 _ _ (Px.rcd p) (by rfl) hu hr0 (by omega) (by omega) (Nat.le_trans hbase hsz1) ?_
      intro A3 c3 m3 w3 hm3 ho3 hb3
      have hb13 := hb1.trans hb3
      have hS3 := SK.out w3 hb13
      refine hK.out _ _ hS3 (fun hHeld => ?_)
      clear hK K
      try simp only [Act.put, List.setIfInBounds_toArray, List.set_cons_zero, List.set_cons_succ]
      refine wpAnyH_ready (rs := [7]) (by kernel_rfl) (by simp) ?_
      refine AllReadyH.cons (o := { dst := none, op := Op.store 24 (Operand.tmp 2) (Operand.tmp 15), type := 0, pos := "pax.go:56", after := #[{ on := 6, ground := Ground.data }, { on := 6, ground := Ground.chain }, { on := 0, ground := Ground.phase }, { on := 1, ground := Ground.phase }, { on := 2, ground := Ground.phase }, { on := 3, ground := Ground.phase }, { on := 4, ground := Ground.phase }, { on := 5, ground := Ground.phase }, { on := 6, ground := Ground.phase }], guard := none }) rfl (fun K hK => ?_) AllReadyH.nil
      have vb3 := vb1.keep hb3 hgb
      have cb3 := vb3.cell
      have zb3 := vb3.free
      go_simp
      have hS4 := SX.out w3 (.slice A3 m3 c3) hb13
      refine hK.out _ _ hS4 (fun hHeld => ?_)
      clear hK K
      try simp only [Act.put, List.setIfInBounds_toArray, List.set_cons_zero, List.set_cons_succ]
      refine wpAnyH_done (by kernel_rfl) ?_ _
      exact hgood h _ _ _ _ _ _ _ _ _ _ _ hm3 hb13 ho3
  · go_simp
    refine (rec_any (Nm.S p.1) (Nm.S p.2) hs1 hs2 _ (KK.out _ (Bw.drew9 _))).mono ?_
    rintro e w1 ⟨hA, hw1⟩
    rw [hpp.out] at hA
    have hwx := Bw.trans (Bw.drew9 wr) hw1
    have hb1 : Below base wr w1 := hwx.mono hbase
    rcases hA with ⟨h, rfl⟩ | ⟨h, x, rfl, hu⟩
    · unfold thrown
      exact hthrow h _ _ rfl hwx
    · have hrl := Px.rcd_bd h
      have hr0 : 0 < (Px.rcd p).length := by rw [Px.rcd_len]; have := Px.size_ge (3 + p.1.length + p.2.length); unfold Px.psize; omega
      have hsz1 := hwx.size
      have vb1 := vb.keep hwx vb.lt
      have ho1 := own_keep ho hwx
      obtain ⟨A5, c5, rfl⟩ := own_slice hu
      have hS1 := SK.out w1 hb1
      refine hK.out _ _ hS1 (fun hHeld => ?_)
      clear hK K
      try simp only [Act.put, List.setIfInBounds_toArray, List.set_cons_zero, List.set_cons_succ]
      refine wpAnyH_ready (rs := [0]) (by kernel_rfl) (by simp) ?_
      refine AllReadyH.cons (o := { dst := some 9, op := Op.load 24 (Operand.tmp 2), type := 24, pos := "pax.go:56", after := #[], guard := none }) rfl (fun K hK => ?_) AllReadyH.nil
      have vb1c := vb1.cell
      go_simp
      refine hK.out _ _ hS1 (fun hHeld => ?_)
      clear hK K
      try simp only [Act.put, List.setIfInBounds_toArray, List.set_cons_zero, List.set_cons_succ]
      refine wpAnyH_ready (rs := [6]) (by kernel_rfl) (by simp) ?_
      refine AllReadyH.cons (o := { dst := some 15, op := Op.call { callee := Callee.builtin Builtin.append, args := #[Operand.tmp 9, Operand.tmp 14], argTypes := #[24, 24] }, type := 24, pos := "pax.go:56", after := #[{ on := 0, ground := Ground.data }, { on := 5, ground := Ground.data }, { on := 5, ground := Ground.chain }], guard := none }) rfl (fun K hK => ?_) AllReadyH.nil
      refine step_own9 (w := w1) (by rfl) _ _ (by rfl) base v l (by rfl) ho1 _ _ (Px.rcd p) (by rfl) hu hr0 (by omega) (by omega) (Nat.le_trans hbase hsz1) ?_
      intro A3 c3 m3 w3 hm3 ho3 hb3
      have hb13 := hb1.trans hb3
      have hS3 := SK.out w3 hb13
      refine hK.out _ _ hS3 (fun hHeld => ?_)
      clear hK K
      try simp only [Act.put, List.setIfInBounds_toArray, List.set_cons_zero, List.set_cons_succ]
      refine wpAnyH_ready (rs := [7]) (by kernel_rfl) (by simp) ?_
      refine AllReadyH.cons (o := { dst := none, op := Op.store 24 (Operand.tmp 2) (Operand.tmp 15), type := 0, pos := "pax.go:56", after := #[{ on := 6, ground := Ground.data }, { on := 6, ground := Ground.chain }, { on := 0, ground := Ground.phase }, { on := 1, ground := Ground.phase }, { on := 2, ground := Ground.phase }, { on := 3, ground := Ground.phase }, { on := 4, ground := Ground.phase }, { on := 5, ground := Ground.phase }, { on := 6, ground := Ground.phase }], guard := none }) rfl (fun K hK => ?_) AllReadyH.nil
      have vb3 := vb1.keep hb3 hgb
      have cb3 := vb3.cell
      have zb3 := vb3.free
      go_simp
      have hS4 := SX.out w3 (.slice A3 m3 c3) hb13
      refine hK.out _ _ hS4 (fun hHeld => ?_)
      clear hK K
      try simp only [Act.put, List.setIfInBounds_toArray, List.set_cons_zero, List.set_cons_succ]
      refine wpAnyH_done (by kernel_rfl) ?_ _
      exact hgood h _ _ _ _ _ _ _ _ _ _ _ hm3 hb13 ho3
set_option maxRecDepth 100000 in
set_option maxHeartbeats 4000000 in
theorem put_reg3 (gat gl gb b off n cap k : Nat) (L : List Px.Pr) (p : Px.Pr) (wr : World) (Q : Exit → Act → World → Prop) (u3 u4 u5 u6 u7 u8 u9 u10 u11 u12 u13 u14 u15 u16 u17 u18 u19 u20 u21 u22 u23 : Value)
    (hk : k < n) (hn : n ≤ 64) (va : VarAt wr gat 3 (.int .i64 (k : Int))) (vl : VarAt wr gl 95 (.slice (some ⟨b, off, none⟩) n cap))
    (c1 : wr.cell? ⟨b, off + k * 2, none⟩ = some (.string (Nm.S p.1))) (c2 : wr.cell? ⟨b, off + k * 2 + 1, none⟩ = some (.string (Nm.S p.2)))
    (hQ : ∀ (c : List PanicEntry) (a : Act) (d : Option Nat) (x : Value) (w : World), Q (.panic c) (a.put d x) w → Q (.panic c) a w)
    (hLn : L.length = n) (hcap : n ≤ cap) (ha : PrsAt wr (some ⟨b, off, none⟩) L)
    (hthrow : Px.riseK L k p.1 ≠ 0 → ∀ a w', a.defers = [] → Bw wr w' → Q (.panic [{ v := .iface 25 (.int .i64 (Px.riseK L k p.1 : Int)), recovered := false }]) a w')
    (hgood : Px.riseK L k p.1 = 0 → ∀ y16 y17 y18 y19 y20 y21 y22 y23 w', Bw wr w' → Q .normal { tmps := #[.pointer (some ⟨gat, 0, none⟩), .pointer (some ⟨gl, 0, none⟩), .pointer (some ⟨gb, 0, none⟩), u3, u4, u5, u6, u7, u8, u9, u10, u11, u12, u13, u14, u15, y16, y17, y18, y19, y20, y21, y22, y23], defers := [] } w') :
    Code.wp Tryz.prog (Code.region 3 #[{ dst := some 16, op := Op.load 95 (Operand.tmp 1), type := 95, pos := "pax.go:57", after := #[], guard := none }, { dst := some 17, op := Op.load 3 (Operand.tmp 0), type := 3, pos := "pax.go:57", after := #[], guard := none }, { dst := some 18, op := Op.slice 95 (Operand.tmp 16) none (some (Operand.tmp 17)) none, type := 95, pos := "pax.go:57", after := #[{ on := 0, ground := Ground.data }, { on := 1, ground := Ground.data }], guard := none }, { dst := some 19, op := Op.load 95 (Operand.tmp 1), type := 95, pos := "pax.go:57", after := #[], guard := none }, { dst := some 20, op := Op.load 3 (Operand.tmp 0), type := 3, pos := "pax.go:57", after := #[], guard := none }, { dst := some 21, op := Op.indexAddr 95 (Operand.tmp 19) (Operand.tmp 20), type := 0, pos := "pax.go:57", after := #[{ on := 3, ground := Ground.data }, { on := 4, ground := Ground.data }], guard := none }, { dst := some 22, op := Op.load 130 (Operand.tmp 21), type := 130, pos := "pax.go:57", after := #[{ on := 5, ground := Ground.data }], guard := none }, { dst := some 23, op := Op.call { callee := Callee.value (Operand.func 86), args := #[Operand.tmp 18, Operand.tmp 22], argTypes := #[95, 130] }, type := 0, pos := "pax.go:57", after := #[{ on := 2, ground := Ground.data }, { on := 6, ground := Ground.data }], guard := none }] true) Q { tmps := #[.pointer (some ⟨gat, 0, none⟩), .pointer (some ⟨gl, 0, none⟩), .pointer (some ⟨gb, 0, none⟩), u3, u4, u5, u6, u7, u8, u9, u10, u11, u12, u13, u14, u15, u16, u17, u18, u19, u20, u21, u22, u23], defers := [] } wr := by
  have k0 : (0 : Int) ≤ (k : Int) := Int.natCast_nonneg _
  have k1 : (k : Int) < (n : Int) := by omega
  have k2 : (k : Int) ≤ (cap : Int) := by omega
  have kc : k ≤ cap := by omega
  have SK : Hid (∀ w', Bw wr w' → w'.cell? ⟨gat, 0, none⟩ = some (.int .i64 (k : Int)) ∧ w'.cell? ⟨gl, 0, none⟩ = some (.slice (some ⟨b, off, none⟩) n cap) ∧ w'.cell? ⟨b, off + k * 2, none⟩ = some (.string (Nm.S p.1)) ∧ w'.cell? ⟨b, off + k * 2 + 1, none⟩ = some (.string (Nm.S p.2))) := fun w' h => ⟨(va.keep h va.lt).cell, (vl.keep h vl.lt).cell, (h.cell (p := ⟨b, off + k * 2, none⟩) (block_lt_of_cell c1)).trans c1, (h.cell (p := ⟨b, off + k * 2 + 1, none⟩) (block_lt_of_cell c2)).trans c2⟩
  have vac := va.cell
  have vlc := vl.cell
  refine wp_region_held_drew (S := fun w' => w'.cell? ⟨gat, 0, none⟩ = some (.int .i64 (k : Int)) ∧ w'.cell? ⟨gl, 0, none⟩ = some (.slice (some ⟨b, off, none⟩) n cap) ∧ w'.cell? ⟨b, off + k * 2, none⟩ = some (.string (Nm.S p.1)) ∧ w'.cell? ⟨b, off + k * 2 + 1, none⟩ = some (.string (Nm.S p.2))) (by kernel_rfl) ⟨vac, vlc, c1, c2⟩ (fun hHeld => ?_)
  clear vac vlc
  refine wpAnyH_take (i := 0) (oi := { dst := some 16, op := Op.load 95 (Operand.tmp 1), type := 95, pos := "pax.go:57", after := #[], guard := none }) (v := ?_) rfl (by kernel_rfl) (by kernel_rfl) (by kernel_rfl) (fun _ _ _ h => hQ _ _ _ _ _ h) (Or.inl ⟨by rfl, ?_⟩) (by assumption) ?_
  rotate_left
  · intro w hSw; (try dsimp only at hSw); go_simp; all_goals (with_reducible rfl)
  try simp only [Act.put, List.setIfInBounds_toArray, List.set_cons_zero, List.set_cons_succ]
  refine wpAnyH_take (i := 1) (oi := { dst := some 17, op := Op.load 3 (Operand.tmp 0), type := 3, pos := "pax.go:57", after := #[], guard := none }) (v := ?_) rfl (by kernel_rfl) (by kernel_rfl) (by kernel_rfl) (fun _ _ _ h => hQ _ _ _ _ _ h) (Or.inl ⟨by rfl, ?_⟩) (by assumption) ?_
  rotate_left
  · intro w hSw; (try dsimp only at hSw); go_simp; all_goals (with_reducible rfl)
  try simp only [Act.put, List.setIfInBounds_toArray, List.set_cons_zero, List.set_cons_succ]
  refine wpAnyH_take (i := 2) (oi := { dst := some 18, op := Op.slice 95 (Operand.tmp 16) none (some (Operand.tmp 17)) none, type := 95, pos := "pax.go:57", after := #[{ on := 0, ground := Ground.data }, { on := 1, ground := Ground.data }], guard := none }) (v := ?_) rfl (by kernel_rfl) (by kernel_rfl) (by kernel_rfl) (fun _ _ _ h => hQ _ _ _ _ _ h) (Or.inl ⟨by rfl, ?_⟩) (by assumption) ?_
  rotate_left
  · intro w hSw; (try dsimp only at hSw); go_simp; all_goals (with_reducible rfl)
  try simp only [Act.put, List.setIfInBounds_toArray, List.set_cons_zero, List.set_cons_succ]
  refine wpAnyH_take (i := 3) (oi := { dst := some 19, op := Op.load 95 (Operand.tmp 1), type := 95, pos := "pax.go:57", after := #[], guard := none }) (v := ?_) rfl (by kernel_rfl) (by kernel_rfl) (by kernel_rfl) (fun _ _ _ h => hQ _ _ _ _ _ h) (Or.inl ⟨by rfl, ?_⟩) (by assumption) ?_
  rotate_left
  · intro w hSw; (try dsimp only at hSw); go_simp; all_goals (with_reducible rfl)
  try simp only [Act.put, List.setIfInBounds_toArray, List.set_cons_zero, List.set_cons_succ]
  refine wpAnyH_take (i := 4) (oi := { dst := some 20, op := Op.load 3 (Operand.tmp 0), type := 3, pos := "pax.go:57", after := #[], guard := none }) (v := ?_) rfl (by kernel_rfl) (by kernel_rfl) (by kernel_rfl) (fun _ _ _ h => hQ _ _ _ _ _ h) (Or.inl ⟨by rfl, ?_⟩) (by assumption) ?_
  rotate_left
  · intro w hSw; (try dsimp only at hSw); go_simp; all_goals (with_reducible rfl)
  try simp only [Act.put, List.setIfInBounds_toArray, List.set_cons_zero, List.set_cons_succ]
  refine wpAnyH_take (i := 5) (oi := { dst := some 21, op := Op.indexAddr 95 (Operand.tmp 19) (Operand.tmp 20), type := 0, pos := "pax.go:57", after := #[{ on := 3, ground := Ground.data }, { on := 4, ground := Ground.data }], guard := none }) (v := ?_) rfl (by kernel_rfl) (by kernel_rfl) (by kernel_rfl) (fun _ _ _ h => hQ _ _ _ _ _ h) (Or.inl ⟨by rfl, ?_⟩) (by assumption) ?_
  rotate_left
  · intro w hSw; (try dsimp only at hSw); go_simp; all_goals (with_reducible rfl)
  try simp only [Act.put, List.setIfInBounds_toArray, List.set_cons_zero, List.set_cons_succ]
  refine wpAnyH_take (i := 6) (oi := { dst := some 22, op := Op.load 130 (Operand.tmp 21), type := 130, pos := "pax.go:57", after := #[{ on := 5, ground := Ground.data }], guard := none }) (v := ?_) rfl (by kernel_rfl) (by kernel_rfl) (by kernel_rfl) (fun _ _ _ h => hQ _ _ _ _ _ h) (Or.inl ⟨by rfl, ?_⟩) (by assumption) ?_
  rotate_left
  · intro w hSw; (try dsimp only at hSw); go_simp; all_goals (with_reducible rfl)
  try simp only [Act.put, List.setIfInBounds_toArray, List.set_cons_zero, List.set_cons_succ]
  refine wpAnyH_ready (rs := [7]) (by kernel_rfl) (by simp) ?_
  refine AllReadyH.cons (o := { dst := some 23, op := Op.call { callee := Callee.value (Operand.func 86), args := #[Operand.tmp 18, Operand.tmp 22], argTypes := #[95, 130] }, type := 0, pos := "pax.go:57", after := #[{ on := 2, ground := Ground.data }, { on := 6, ground := Ground.data }], guard := none }) rfl (fun K hK => ?_) AllReadyH.nil
  go_simp
  refine (mrise_any (some ⟨b, off, none⟩) cap k L (by omega) (by omega) (Nm.S p.1) (Nm.S p.2) _ (ha.keep (Bw.drew9 _))).mono ?_
  rintro e w1 ⟨hA, hw1⟩
  rw [Nm.toList_S] at hA
  have hwx := Bw.trans (Bw.drew9 wr) hw1
  rcases hA with ⟨h, rfl⟩ | ⟨h, rfl⟩
  · have hS1 := SK.out w1 hwx
    refine hK.out _ _ hS1 (fun hHeld => ?_)
    clear hK K
    try simp only [Act.put, List.setIfInBounds_toArray, List.set_cons_zero, List.set_cons_succ]
    refine wpAnyH_done (by kernel_rfl) ?_ _
    exact hgood h _ _ _ _ _ _ _ _ _ hwx
  · unfold thrown
    exact hthrow h _ _ rfl hwx
end Go.Proofs.YtldkhbkgmiicbaaGreatDoor
