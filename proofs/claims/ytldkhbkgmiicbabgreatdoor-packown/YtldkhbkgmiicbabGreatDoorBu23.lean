/- Texts of mine, put together. -/
import Derived.Test.YtldkhbkgmiicbabGreatDoorBu22
import Derived.Deep.RegionHeld3

/- mustRise that throws. -/
namespace Go.Proofs.YtldkhbkgmiicbabGreatDoor
open Go.RowKit Go.Deep
set_option linter.unusedVariables false
set_option linter.unusedSimpArgs false

set_option maxRecDepth 100000 in
set_option maxHeartbeats 2000000 in
theorem rise_no (g o n cap : Nat) (hn : n ≤ 4611686018427387904) (k a b : ByteArray) (w : World) (hc : w.cell? ⟨g, o + n * 2, none⟩ = some (.string k)) (hls : Op.bytesLess k.toList a.toList = false) :
    Calls Tryz.prog 46 #[.slice (some ⟨g, o, none⟩) (n + 1) cap, .agg #[.string a, .string b]] w fun e w' => e = thrown 92 ∧ Bw w w' := by
  obtain ⟨W, hW⟩ : ∃ W, Hid (w.alloc (.cells #[.string a, .string b] 42) = W) := ⟨_, rfl⟩
  have hw0 : Bw w W := by rw [← hW.out]; exact Below.alloc (Below.refl _ _) (Nat.le_refl _) _
  have hc1 : W.cell? ⟨g, o + n * 2, none⟩ = some (.string k) := (hw0.cell (p := ⟨g, o + n * 2, none⟩) (block_lt_of_cell hc)).trans hc
  have hg : W.heap[w.heap.size]? = some (.cells #[.string a, .string b] 42 (0, 0)) := by rw [← hW.out]; exact World.alloc_heap_new w _
  have hc2 : W.cell? ⟨w.heap.size, 0, none⟩ = some (.string a) := cell_of_row _ _ 0 _ _ _ hg
  have en : ((n : Int) + 1 == 0) = false := beq_eq_false_iff_ne.2 (by omega)
  clear hg hc
  go_enter Tryz.func46, Tryz.ntmps46
  go_wp2
  rw [hW.out]
  have ew : IntKind.i64.wrap ((n : Int) + 1 - 1) = (n : Int) := by rw [Int.add_sub_cancel]; exact Go.IntWalk.i64_in _ (by omega)
  have ew4 : IntKind.i64.wrap (n : Int) = (n : Int) := Go.IntWalk.i64_in _ (by omega)
  have ew2 : (n : Int) < (n : Int) + 1 := by omega
  have ew3 : (0 : Int) ≤ (n : Int) := by omega
  refine wp_region_held_drew (S := fun w' => w'.cell? ⟨g, o + n * 2, none⟩ = some (.string k) ∧ w'.cell? ⟨w.heap.size, 0, none⟩ = some (.string a) ∧ Bw W w') (by kernel_rfl) ⟨hc1, hc2, Below.drew (Bw.refl _)⟩ (fun hHeld => ?_)
  refine wpAnyH_take (i := 0) (oi := { dst := some 4, op := Op.move (Operand.tmp 0), type := 37, pos := "pax.go:135", after := #[], guard := none }) (v := ?_) rfl (by kernel_rfl) (by kernel_rfl) (by kernel_rfl) (fun _ _ _ h => h) (Or.inl ⟨by rfl, ?_⟩) (by assumption) ?_
  rotate_left
  · intro w hSw; (try dsimp only at hSw); go_simp; all_goals (with_reducible rfl)
  try simp only [Act.put, List.setIfInBounds_toArray, List.set_cons_zero, List.set_cons_succ]
  refine wpAnyH_take (i := 1) (oi := { dst := some 5, op := Op.call { callee := Callee.builtin Builtin.len, args := #[Operand.tmp 4], argTypes := #[37] }, type := 3, pos := "pax.go:135", after := #[{ on := 0, ground := Ground.data }], guard := none }) (v := ?_) rfl (by kernel_rfl) (by kernel_rfl) (by kernel_rfl) (fun _ _ _ h => h) (Or.inl ⟨by rfl, ?_⟩) (by assumption) ?_
  rotate_left
  · intro w hSw; (try dsimp only at hSw); go_simp; all_goals (with_reducible rfl)
  try simp only [Act.put, List.setIfInBounds_toArray, List.set_cons_zero, List.set_cons_succ]
  refine wpAnyH_take (i := 2) (oi := { dst := some 6, op := Op.binOp BinOp.eql 3 (Operand.tmp 5) (Operand.const (Value.int IntKind.i64 0)) 3, type := 4, pos := "pax.go:135", after := #[{ on := 1, ground := Ground.data }], guard := none }) (v := ?_) rfl (by kernel_rfl) (by kernel_rfl) (by kernel_rfl) (fun _ _ _ h => h) (Or.inl ⟨by rfl, ?_⟩) (by assumption) ?_
  rotate_left
  · intro w hSw; (try dsimp only at hSw); go_simp; all_goals (with_reducible rfl)
  try simp only [Act.put, List.setIfInBounds_toArray, List.set_cons_zero, List.set_cons_succ]
  refine wpAnyH_take (i := 3) (oi := { dst := some 7, op := Op.move (Operand.tmp 6), type := 4, pos := "pax.go:135", after := #[{ on := 2, ground := Ground.data }], guard := none }) (v := ?_) rfl (by kernel_rfl) (by kernel_rfl) (by kernel_rfl) (fun _ _ _ h => h) (Or.inl ⟨by rfl, ?_⟩) (by assumption) ?_
  rotate_left
  · intro w hSw; (try dsimp only at hSw); go_simp; all_goals (with_reducible rfl)
  try simp only [Act.put, List.setIfInBounds_toArray, List.set_cons_zero, List.set_cons_succ]
  refine wpAnyH_take (i := 4) (oi := { dst := some 8, op := Op.move (Operand.tmp 0), type := 37, pos := "pax.go:135", after := #[{ on := 3, ground := Ground.guard }], guard := some (3, false) }) (v := ?_) rfl (by kernel_rfl) (by kernel_rfl) (by kernel_rfl) (fun _ _ _ h => h) (Or.inl ⟨by rfl, ?_⟩) (by assumption) ?_
  rotate_left
  · intro w hSw; (try dsimp only at hSw); go_simp; all_goals (with_reducible rfl)
  try simp only [Act.put, List.setIfInBounds_toArray, List.set_cons_zero, List.set_cons_succ]
  refine wpAnyH_take (i := 5) (oi := { dst := some 9, op := Op.move (Operand.tmp 0), type := 37, pos := "pax.go:135", after := #[{ on := 3, ground := Ground.guard }], guard := some (3, false) }) (v := ?_) rfl (by kernel_rfl) (by kernel_rfl) (by kernel_rfl) (fun _ _ _ h => h) (Or.inl ⟨by rfl, ?_⟩) (by assumption) ?_
  rotate_left
  · intro w hSw; (try dsimp only at hSw); go_simp; all_goals (with_reducible rfl)
  try simp only [Act.put, List.setIfInBounds_toArray, List.set_cons_zero, List.set_cons_succ]
  refine wpAnyH_take (i := 6) (oi := { dst := some 10, op := Op.call { callee := Callee.builtin Builtin.len, args := #[Operand.tmp 9], argTypes := #[37] }, type := 3, pos := "pax.go:135", after := #[{ on := 5, ground := Ground.data }, { on := 3, ground := Ground.guard }], guard := some (3, false) }) (v := ?_) rfl (by kernel_rfl) (by kernel_rfl) (by kernel_rfl) (fun _ _ _ h => h) (Or.inl ⟨by rfl, ?_⟩) (by assumption) ?_
  rotate_left
  · intro w hSw; (try dsimp only at hSw); go_simp; all_goals (with_reducible rfl)
  try simp only [Act.put, List.setIfInBounds_toArray, List.set_cons_zero, List.set_cons_succ]
  refine wpAnyH_take (i := 7) (oi := { dst := some 11, op := Op.binOp BinOp.sub 3 (Operand.tmp 10) (Operand.const (Value.int IntKind.i64 1)) 3, type := 3, pos := "pax.go:135", after := #[{ on := 6, ground := Ground.data }, { on := 3, ground := Ground.guard }], guard := some (3, false) }) (v := ?_) rfl (by kernel_rfl) (by kernel_rfl) (by kernel_rfl) (fun _ _ _ h => h) (Or.inl ⟨by rfl, ?_⟩) (by assumption) ?_
  rotate_left
  · intro w hSw; (try dsimp only at hSw); go_simp; all_goals (with_reducible rfl)
  try simp only [Act.put, List.setIfInBounds_toArray, List.set_cons_zero, List.set_cons_succ]
  refine wpAnyH_take (i := 8) (oi := { dst := some 12, op := Op.indexAddr 37 (Operand.tmp 8) (Operand.tmp 11), type := 0, pos := "pax.go:135", after := #[{ on := 4, ground := Ground.data }, { on := 7, ground := Ground.data }, { on := 3, ground := Ground.guard }], guard := some (3, false) }) (v := ?_) rfl (by kernel_rfl) (by kernel_rfl) (by kernel_rfl) (fun _ _ _ h => h) (Or.inl ⟨by rfl, ?_⟩) (by assumption) ?_
  rotate_left
  · intro w hSw; (try dsimp only at hSw); go_simp; all_goals (with_reducible rfl)
  try simp only [Act.put, List.setIfInBounds_toArray, List.set_cons_zero, List.set_cons_succ]
  refine wpAnyH_take (i := 9) (oi := { dst := some 13, op := Op.fieldAddr 42 (Operand.tmp 12) 0, type := 0, pos := "pax.go:135", after := #[{ on := 8, ground := Ground.data }, { on := 3, ground := Ground.guard }], guard := some (3, false) }) (v := ?_) rfl (by kernel_rfl) (by kernel_rfl) (by kernel_rfl) (fun _ _ _ h => h) (Or.inl ⟨by rfl, ?_⟩) (by assumption) ?_
  rotate_left
  · intro w hSw; (try dsimp only at hSw); go_simp; all_goals (with_reducible rfl)
  try simp only [Act.put, List.setIfInBounds_toArray, List.set_cons_zero, List.set_cons_succ]
  refine wpAnyH_take (i := 10) (oi := { dst := some 14, op := Op.load 9 (Operand.tmp 13), type := 9, pos := "pax.go:135", after := #[{ on := 9, ground := Ground.data }, { on := 3, ground := Ground.guard }], guard := some (3, false) }) (v := ?_) rfl (by kernel_rfl) (by kernel_rfl) (by kernel_rfl) (fun _ _ _ h => h) (Or.inl ⟨by rfl, ?_⟩) (by assumption) ?_
  rotate_left
  · intro w hSw; (try dsimp only at hSw); go_simp; all_goals (with_reducible rfl)
  try simp only [Act.put, List.setIfInBounds_toArray, List.set_cons_zero, List.set_cons_succ]
  refine wpAnyH_take (i := 11) (oi := { dst := some 15, op := Op.fieldAddr 42 (Operand.tmp 3) 0, type := 0, pos := "pax.go:135", after := #[{ on := 3, ground := Ground.guard }], guard := some (3, false) }) (v := ?_) rfl (by kernel_rfl) (by kernel_rfl) (by kernel_rfl) (fun _ _ _ h => h) (Or.inl ⟨by rfl, ?_⟩) (by assumption) ?_
  rotate_left
  · intro w hSw; (try dsimp only at hSw); go_simp; all_goals (with_reducible rfl)
  try simp only [Act.put, List.setIfInBounds_toArray, List.set_cons_zero, List.set_cons_succ]
  refine wpAnyH_take (i := 12) (oi := { dst := some 16, op := Op.load 9 (Operand.tmp 15), type := 9, pos := "pax.go:135", after := #[{ on := 11, ground := Ground.data }, { on := 3, ground := Ground.guard }], guard := some (3, false) }) (v := ?_) rfl (by kernel_rfl) (by kernel_rfl) (by kernel_rfl) (fun _ _ _ h => h) (Or.inl ⟨by rfl, ?_⟩) (by assumption) ?_
  rotate_left
  · intro w hSw; (try dsimp only at hSw); go_simp; all_goals (with_reducible rfl)
  try simp only [Act.put, List.setIfInBounds_toArray, List.set_cons_zero, List.set_cons_succ]
  refine wpAnyH_take (i := 13) (oi := { dst := some 17, op := Op.binOp BinOp.lss 9 (Operand.tmp 14) (Operand.tmp 16) 9, type := 4, pos := "pax.go:135", after := #[{ on := 10, ground := Ground.data }, { on := 12, ground := Ground.data }, { on := 3, ground := Ground.guard }], guard := some (3, false) }) (v := ?_) rfl (by kernel_rfl) (by kernel_rfl) (by kernel_rfl) (fun _ _ _ h => h) (Or.inl ⟨by rfl, ?_⟩) (by assumption) ?_
  rotate_left
  · intro w hSw; (try dsimp only at hSw); go_simp; all_goals (with_reducible rfl)
  try simp only [Act.put, List.setIfInBounds_toArray, List.set_cons_zero, List.set_cons_succ]
  refine wpAnyH_take (i := 14) (oi := { dst := some 18, op := Op.pick (Operand.tmp 7) (Operand.const (Value.bool true)) (Operand.tmp 17), type := 4, pos := "pax.go:135", after := #[{ on := 3, ground := Ground.data }, { on := 13, ground := Ground.data }], guard := none }) (v := ?_) rfl (by kernel_rfl) (by kernel_rfl) (by kernel_rfl) (fun _ _ _ h => h) (Or.inl ⟨by rfl, ?_⟩) (by assumption) ?_
  rotate_left
  · intro w hSw; (try dsimp only at hSw); go_simp; all_goals (with_reducible rfl)
  try simp only [Act.put, List.setIfInBounds_toArray, List.set_cons_zero, List.set_cons_succ]
  refine wpAnyH_ready (rs := [15]) (by kernel_rfl) (by simp) ?_
  refine AllReadyH.cons (o := { dst := some 19, op := Op.call { callee := Callee.value (Operand.func 62), args := #[Operand.tmp 18, Operand.const (Value.int IntKind.i64 92)], argTypes := #[4, 29] }, type := 0, pos := "pax.go:135", after := #[{ on := 14, ground := Ground.data }, { on := 3, ground := Ground.chain }], guard := none }) rfl (fun K hK => ?_) AllReadyH.nil
  go_simp
  refine (must_no _ (by first | rfl | assumption) 92 92 rfl _).mono ?_
  rintro e w1 ⟨rfl, hw1⟩
  subst w1
  unfold thrown
  exact ⟨rfl, rfl, hw0.trans (Below.drew (Bw.refl _))⟩
end Go.Proofs.YtldkhbkgmiicbabGreatDoor

/- mustRise as a whole; an append onto an owned row inside a drawn region. -/
namespace Go.Proofs.YtldkhbkgmiicbabGreatDoor
open Go.RowKit Go.Deep
set_option linter.unusedVariables false
set_option linter.unusedSimpArgs false

def Px.riseK (L : List Px.Pr) (k : Nat) (a : Px.B) : Nat := if Px.behind (Px.lastK L k) a = true then 0 else 92
theorem mrise_any (A : Option Addr) (cap k : Nat) (L : List Px.Pr) (hk : k ≤ L.length) (hn : L.length ≤ 4611686018427387904) (a b : ByteArray) (w : World) (ha : PrsAt w A L) :
    Calls Tryz.prog 46 #[.slice A k cap, .agg #[.string a, .string b]] w fun e w' => Asks (Px.riseK L k a.toList) e ∧ Bw w w' := by
  rcases Nat.eq_zero_or_pos k with h0 | h0
  · subst h0
    exact (rise_none A cap a b w).mono fun e w' ⟨h1, h2⟩ => ⟨.inl ⟨rfl, h1⟩, h2⟩
  · obtain ⟨q, rfl⟩ : ∃ q, k = q + 1 := ⟨k - 1, by omega⟩
    obtain ⟨p', hp'⟩ : ∃ p', L[q]? = some p' := ⟨_, List.getElem?_eq_getElem (by omega)⟩
    obtain ⟨g, o, rfl, hc⟩ := ha.at (by omega)
    obtain ⟨c1, -⟩ := hc q p' hp'
    have hb : Px.behind (Px.lastK L (q + 1)) a.toList = Op.bytesLess (Nm.S p'.1).toList a.toList := by
      unfold Px.lastK
      rw [if_neg (by omega), Nat.add_sub_cancel, hp', Nm.toList_S]
      rfl
    cases hls : Op.bytesLess (Nm.S p'.1).toList a.toList
    · refine (rise_no g o q cap (by omega) (Nm.S p'.1) a b w c1 hls).mono fun e w' ⟨h1, h2⟩ => ⟨.inr ?_, h2⟩
      have : Px.riseK L (q + 1) a.toList = 92 := by unfold Px.riseK; rw [hb, hls]; rfl
      rw [this]
      exact ⟨by decide, h1⟩
    · refine (rise_yes g o q cap (by omega) (Nm.S p'.1) a b w c1 hls).mono fun e w' ⟨h1, h2⟩ => ⟨.inl ⟨?_, h1⟩, h2⟩
      unfold Px.riseK; rw [hb, hls]; rfl
theorem PrsAt.keepb {w w' : World} {B : Nat} {A : Option Addr} {L : List Px.Pr} (h : PrsAt w A L) (k : Below B w w') (hA : L = [] ∨ ∀ b o, A = some ⟨b, o, none⟩ → b < B) : PrsAt w' A L := by
  rcases hA with h0 | hA
  · exact .inl h0
  rcases h with h | ⟨b, off, h1, h2⟩
  · exact .inl h
  · refine .inr ⟨b, off, h1, fun i p hp => ?_⟩
    obtain ⟨h3, h4⟩ := h2 i p hp
    exact ⟨(k.cell (p := ⟨b, off + i * 2, none⟩) (hA b off h1)).trans h3, (k.cell (p := ⟨b, off + i * 2 + 1, none⟩) (hA b off h1)).trans h4⟩
/-- bytes onto an owned row, in a drawn region -/
theorem step_own9 {w : World} {ops : Array Oper} {o : Oper} {a : Act} {K : Act → World → Prop} {Q : Exit → Act → World → Prop} {E : Prop} (hgd : o.guard = none) (s x : Operand)
    (ho : o.op = .call { callee := .builtin .append, args := #[s, x], argTypes := #[24, 24] }) (B : Nat) (v : Value) (l : Px.B) (hs : a.eval s = v)
    (hown : w.ownsRow B 5 1 v l.length (Px.cellsB l)) (B' : Nat) (u : Value) (r : Px.B) (hx : a.eval x = u) (hr : w.ownsRow B' 5 1 u r.length (Px.cellsB r)) (hr0 : 0 < r.length)
    (hlen : l.length ≤ 1000000) (hlr : r.length ≤ 1000000) (hB : B ≤ w.heap.size)
    (hh : ∀ A c m w', Hid ((l ++ r).length = m) → w'.ownsRow B 5 1 (.slice A m c) m (Px.cellsB (l ++ r)) → Below B w w' → K (a.put o.dst (.slice A m c)) w') :
    if Region.wanted o (yielded ops a.tmps) = true then Oper.wp Tryz.prog o a w K Q else E := by
  have hw : Region.wanted o (yielded ops a.tmps) = true := by simp [Region.wanted, hgd]
  rw [if_pos hw]
  obtain ⟨i0, hi0, hz0, hz1, hz2⟩ := info_parts info_u8
  obtain ⟨g, cap, rfl⟩ : ∃ g cap, u = .slice (some ⟨g, 0, none⟩) r.length cap := by
    rcases hr with ⟨h0, ⟨h1, h2⟩ | ⟨g', cap, cur, h1, h2⟩⟩
    · omega
    · exact ⟨g', cap, h1⟩
  obtain ⟨v', w', hrun, h1, h2, -⟩ := run_append_own (P := Tryz.prog) w B 24 o.type 5 i0 _ 1 1 Tryz.underlying24 hi0 hz0 hz1 hz2 rfl (by decide) v l.length (Px.cellsB l) hown ⟨g, 0, none⟩ r.length cap (Px.cellsB r) (by rw [Px.cellsB_len, Nat.mul_one]) (hr.cells (g := g) rfl) (fun y hy => by
    unfold Px.cellsB at hy
    obtain ⟨c, _, rfl⟩ := List.mem_map.1 hy
    rfl) (by unfold maxLen; omega) (by omega) hB
  have h3 : w'.ownsRow B 5 1 v' (l ++ r).length (Px.cellsB (l ++ r)) := by
    rw [Px.cellsB_append, List.length_append]; exact h1
  obtain ⟨A, c, rfl⟩ := own_slice h3
  unfold Oper.wp execOp
  simp only [ho, resolve, invoke, builtin, Sem.run_bind, Sem.run_pure, Result.andThen_ok, List.map_toArray, List.map_cons, List.map_nil, hs, hx, hrun]
  exact hh A c _ w' (show (l ++ r).length = _ from rfl) h3 ((Below.refl _ _).grown h2 hB (fun k hk => (hown.lt k hk).1))
end Go.Proofs.YtldkhbkgmiicbabGreatDoor
