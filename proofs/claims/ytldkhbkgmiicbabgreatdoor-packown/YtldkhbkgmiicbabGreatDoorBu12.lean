/- Texts of mine, put together. -/
import Derived.Test.YtldkhbkgmiicbabGreatDoorBu9
import Derived.Test.YtldkhbkgmiicbabGreatDoorBu11
import Derived.Test.YtldkhbkgmiicbabGreatDoorBu3
import Derived.Great.BuildSlice
import Derived.Laws.OwnMore
import Derived.OneCell
import Derived.Deep.LoopGhost
import Derived.Lib.AppendZeros

/- The statements' helpers of layer 11: a list lent. -/
namespace Go.Proofs.YtldkhbkgmiicbabGreatDoor
open Go.RowKit Go.Deep
set_option linter.unusedVariables false
set_option linter.unusedSimpArgs false

theorem wpList_build_it {ops : Array Oper} {rest : List Oper} {o : Oper} {a : Act} {w : World} {Q : Exit → Act → World → Prop} (hgd : o.guard = none) (x : Operand) (ho : o.op = .buildSlice 22 1 #[(0, x)])
    (y : Tr.Iv) (hx : a.eval x = .agg y.arr)
    (h : wpList Tryz.prog ops Q rest (a.put o.dst (.slice (some ⟨w.heap.size, 0, none⟩) 1 1)) (w.alloc (.cells y.arr 26))) : wpList Tryz.prog ops Q (o :: rest) a w := by
  obtain ⟨i0, hi0, hz0, hz1, hz2⟩ := info_parts info_item
  refine wpList_buildSlice hgd 22 26 1 _ ho y.arr i0 _ Tryz.underlying22 hi0 hz0 (by rw [hz1]; omega) (by rw [hz1]; omega) ?_ h
  rw [hz1]
  simp only [Array.toList_map, List.map_cons, List.map_nil, hx]
  kernel_rfl
theorem wpList_built11 {P : Program} {ops : Array Oper} {rest : List Oper} {o : Oper} {a : Act} {w : World} {Q : Exit → Act → World → Prop} (hg : o.guard = none) (t : TypeId) (parts : Array (Nat × Operand)) (ho : o.op = .build t parts)
    (cells : Array Value) (hb : P.built t (parts.map fun (i, x) => (i, a.eval x)).toList = some cells)
    (h : wpList P ops Q rest (a.put o.dst (.agg cells)) w) : wpList P ops Q (o :: rest) a w :=
  wpList_build hg t parts ho (by rw [hb]; rfl) (by rw [hb]; exact h)
/-- a Body of a list that was lent: a mark behind it -/
def MarkAt (w : World) (y : Tr.Iv) : Prop := ∃ gb, y.ad = some ⟨gb, 0, none⟩ ∧ Own w gb (y.it.body.length + 1) (Tr.rowF (y.it.body ++ [201])) ∧ y.it.body.length + 1 ≤ y.cp ∧ Tr.Fit y.it
theorem Tr.rowF_left {a b : Tr.B} {i : Nat} (h : i < a.length) : Tr.rowF (a ++ b) i = Tr.rowF a i := by
  unfold Tr.rowF
  rw [List.getD_eq_getElem?_getD, List.getD_eq_getElem?_getD, List.getElem?_append_left h]
theorem MarkAt.body {w : World} {y : Tr.Iv} (h : MarkAt w y) : BodyAt w y := by
  obtain ⟨gb, h1, h2, h3, h4⟩ := h
  refine ⟨?_, by omega, (fun e => by rw [h1] at e; cases e), h4⟩
  refine ⟨.inr ⟨gb, 0, h1, fun i hi => ?_⟩, Tr.rowF_bd _⟩
  have := (h2.cell (c := i) (by omega)).1
  rw [Nat.zero_add, this, Tr.rowF_left hi]
theorem MarkAt.mark {w : World} {y : Tr.Iv} (h : MarkAt w y) : ∃ gb, y.ad = some ⟨gb, 0, none⟩ ∧ w.cell? ⟨gb, y.it.body.length, none⟩ = some (.int .u8 201) ∧ y.it.body.length + 1 ≤ y.cp := by
  obtain ⟨gb, h1, h2, h3, h4⟩ := h
  refine ⟨gb, h1, ?_, h3⟩
  have := (h2.cell (c := y.it.body.length) (by omega)).1
  rw [this, Tr.rowF_at (c := 201) (by rw [List.getElem?_append_right (Nat.le_refl _), Nat.sub_self]; rfl)]; rfl
theorem MarkAt.keep {w w' : World} {y : Tr.Iv} (h : MarkAt w y) (g : Bw w w') : MarkAt w' y := by
  obtain ⟨gb, h1, h2, h3⟩ := h
  exact ⟨gb, h1, h2.keep g, h3⟩
/-- a list of items that grows leaves a row of bytes as it was -/
theorem MarkAt.grown {w w' : World} {y : Tr.Iv} {base n : Nat} {v : Value} {xs : List Value} (h : MarkAt w y) (g : w.grownBy w' v.ownBlock) (ho : w.ownsRow base 26 6 v n xs) : MarkAt w' y := by
  obtain ⟨gb, h1, ⟨cur, hc, h2⟩, h3⟩ := h
  refine ⟨gb, h1, ⟨cur, ?_, h2⟩, h3⟩
  rw [g.block gb (Array.getElem?_eq_some_iff.1 hc).1 ?_]
  · exact hc
  · intro e
    rcases ho.2 with ⟨rfl, _⟩ | ⟨g', cap, cur', rfl, hb, hg, _⟩
    · cases e
    · simp only [Value.ownBlock, Option.some.injEq] at e
      subst e
      rw [hc] at hg
      injection hg with hg
      injection hg with _ ht
      exact absurd ht (by decide)
theorem box_cell4 {w : World} {g : Nat} {y : Tr.Iv} (h : BoxAt w g y) : w.frozen? ⟨g, 4, none⟩ = false := by
  unfold BoxAt at h
  simp [World.frozen?, h]
theorem box_set4 {w : World} {g : Nat} {y : Tr.Iv} (h : BoxAt w g y) (A : Option Addr) (c : Nat) : BoxAt (w.setCell ⟨g, 4, none⟩ (.slice A y.it.body.length c)) g ⟨y.it, A, c⟩ := by
  have := heap_setCell_same w g 4 _ _ (.slice A y.it.body.length c) h
  unfold BoxAt
  rw [this]
  rfl
/-- a list that was lent -/
structure LentAt (w : World) (g c : Nat) (M : List Tr.Iv) : Prop where
  its : ItsAt w (some ⟨g, 0, none⟩) M
  marks : ∀ y ∈ M, MarkAt w y
  room : M.length + 1 ≤ c
  mark : w.cell? ⟨g, M.length * 6, none⟩ = some (.string ⟨#[109, 97, 114, 107]⟩)
theorem LentAt.keep {w w' : World} {g c : Nat} {M : List Tr.Iv} (h : LentAt w g c M) (k : Bw w w') : LentAt w' g c M :=
  ⟨h.its.keep k, fun y hy => (h.marks y hy).keep k, h.room, (k.cell (p := ⟨g, M.length * 6, none⟩) (block_lt_of_cell h.mark)).trans h.mark⟩
def Tr.markI : Tr.Iv := ⟨⟨[109, 97, 114, 107], 0, 0, 0, [], []⟩, none, 0⟩
theorem Tr.markI_fit : Tr.Fit Tr.markI.it := ⟨by decide, by decide, by decide, by decide, by decide, by decide⟩
theorem built_mark : Tryz.prog.built 26 [(0, .string ⟨#[109, 97, 114, 107]⟩)] = some Tr.markI.arr := by kernel_rfl
theorem mark_body (w : World) : BodyAt w Tr.markI := ⟨⟨.inl rfl, Tr.rowF_bd _⟩, Nat.le_refl _, fun _ => rfl, Tr.markI_fit⟩
theorem its_one {w : World} {g : Nat} {y : Tr.Iv} (h : BoxAt w g y) (hb : BodyAt w y) : ItsAt w (some ⟨g, 0, none⟩) [y] := by
  refine ⟨.inr ⟨g, 0, rfl, fun i z hz => ?_⟩, fun z hz => by rw [List.mem_singleton.1 hz]; exact hb⟩
  cases i with
  | zero => simp at hz; subst hz; exact h.it
  | succ i => simp at hz
theorem own_lower11 {W : World} {b b' : Nat} {e : TypeId} {s n : Nat} {v : Value} {xs : List Value} (h : W.ownsRow b e s v n xs) (hb : b' ≤ b) : W.ownsRow b' e s v n xs := by
  refine ⟨h.1, ?_⟩
  rcases h.2 with h0 | ⟨g, cap, cur, h1, h2, h3⟩
  · exact .inl h0
  · exact .inr ⟨g, cap, cur, h1, Nat.le_trans hb h2, h3⟩
theorem Tr.cells_row (l : Tr.B) (c : UInt8) : cellsU (Tr.rowF l) l.length ++ [.int .u8 (c.toNat : Int)] = cellsU (Tr.rowF (l ++ [c])) (l.length + 1) := by
  rw [cellsU_succ]
  congr 1
  · exact List.map_congr_left fun i hi => by rw [Tr.rowF_left (List.mem_range.1 hi)]
  · rw [Tr.rowF_at (c := c) (by rw [List.getElem?_append_right (Nat.le_refl _), Nat.sub_self]; rfl)]
end Go.Proofs.YtldkhbkgmiicbabGreatDoor

/- The program's own copied and checked, of layer 11, as landed at 97b3c5cd (written by mku9.py). -/
namespace Go.Proofs.YtldkhbkgmiicbabGreatDoor
open Go.RowKit Go.Deep
set_option linter.unusedVariables false
set_option linter.unusedSimpArgs false

/-- a list of items of a call's own, each Body too -/
structure OwnIts (base : Nat) (w : World) (v : Value) (M : List Tr.Iv) : Prop where
  row : w.ownsRow base 26 6 v M.length (Tr.cellsI M)
  body : ∀ y ∈ M, w.ownsRow base 5 1 (.slice y.ad y.it.body.length y.cp) y.it.body.length (cellsU (Tr.rowF y.it.body) y.it.body.length)
  fit : ∀ y ∈ M, Tr.Fit y.it
theorem body_of_own {w : World} {base : Nat} {y : Tr.Iv} (h : w.ownsRow base 5 1 (.slice y.ad y.it.body.length y.cp) y.it.body.length (cellsU (Tr.rowF y.it.body) y.it.body.length)) (hf : Tr.Fit y.it) : BodyAt w y := by
  rcases h.2 with ⟨h0, h1⟩ | ⟨g, cap, cur, hv, hb, hg, h1, h2, h3, h4⟩
  · injection h0 with e1 e2 e3
    exact ⟨⟨.inl h1, Tr.rowF_bd _⟩, by omega, fun _ => e3, hf⟩
  · injection hv with e1 e2 e3
    subst e3
    refine ⟨⟨.inr ⟨g, 0, e1, fun i hi => ?_⟩, Tr.rowF_bd _⟩, h1, (fun e => by rw [e1] at e; cases e), hf⟩
    have e : cur[i]? = (cellsU (Tr.rowF y.it.body) y.it.body.length)[i]? := by
      rw [← h4, List.getElem?_take, if_pos (by omega), Array.getElem?_toList]
    rw [Nat.zero_add, cell_of_row w g i cur _ _ hg, e]
    unfold cellsU
    rw [List.getElem?_map, List.getElem?_range hi]; rfl
theorem OwnIts.its {base : Nat} {w : World} {v : Value} {M : List Tr.Iv} (h : OwnIts base w v M) : ∃ A cap, v = .slice A M.length cap ∧ M.length ≤ cap ∧ ItsAt w A M ∧ (A = none → cap = 0 ∧ M = []) ∧ (∀ a, A = some a → a = ⟨a.block, 0, none⟩ ∧ base ≤ a.block) :=
  its_of_own h.row (fun y hy => body_of_own (h.body y hy) (h.fit y hy))
theorem OwnIts.keep {base : Nat} {w w' : World} {v : Value} {M : List Tr.Iv} (h : OwnIts base w v M) (k : Bw w w') : OwnIts base w' v M := ⟨own_keep h.row k, fun y hy => own_keep (h.body y hy) k, h.fit⟩
namespace Tr
end Tr
/-- an answer that is a list of a call's own -/
def CopyEnds (base : Nat) (t : List Tr.It) (e : Ending) (w' : World) : Prop := ∃ v M, e = .returned v ∧ Tr.its M = t ∧ OwnIts base w' v M
/-- what checked, With and Without answer -/
def ListEnds (base : Nat) (t : List Tr.It) (er : Int) (e : Ending) (w' : World) : Prop :=
  (er ≠ 0 → e = .returned (.tuple #[.slice none 0 0, .int .i64 er])) ∧ (er = 0 → ∃ v M, e = .returned (.tuple #[v, .int .i64 0]) ∧ Tr.its M = t ∧ OwnIts base w' v M)
end Go.Proofs.YtldkhbkgmiicbabGreatDoor

/- The program's own With, of layer 11, as landed at 97b3c5cd: the library's BinarySearchFunc, Grow and Concat at items. -/
namespace Go.Proofs.YtldkhbkgmiicbabGreatDoor
open Go.RowKit Go.Deep
set_option linter.unusedVariables false
set_option linter.unusedSimpArgs false

namespace Tr
/-- a place in a tree for a path -/
structure Place (t : List It) (p : B) (c : Nat) (b : Bool) : Prop where
  le : c ≤ t.length
  low : ∀ (j : Nat) (x : It), j < c → t[j]? = some x → Nm.cmp x.path p = -1
  high : ∀ (j : Nat) (x : It), c ≤ j → t[j]? = some x → Nm.cmp x.path p ≠ -1
  there : b = true ↔ ∃ x, t[c]? = some x ∧ x.path = p
end Tr
end Go.Proofs.YtldkhbkgmiicbabGreatDoor

/- The library's Grow and Concat at items, of layer 11. -/
namespace Go.Proofs.YtldkhbkgmiicbabGreatDoor
open Go.RowKit Go.Deep
set_option linter.unusedVariables false
set_option linter.unusedSimpArgs false

theorem zero_size11 (n : Nat) : (Builtin.zeroCells Tr.zeros.cells n).size = n * 6 := by
  unfold Builtin.zeroCells
  rw [Array.size_map, Array.size_range]
  rfl
def GrowEnds (base : Nat) (e : Ending) (w' : World) : Prop := ∃ cap, e = .returned (.slice (some ⟨base, 0, none⟩) 0 cap) ∧ w'.ownsRow base 26 6 (.slice (some ⟨base, 0, none⟩) 0 cap) 0 []
set_option maxRecDepth 100000 in
set_option maxHeartbeats 1000000 in
theorem grow_any (n : Nat) (h0 : 0 < n) (hn : n ≤ 1000) (w : World) :
    Calls Tryz.prog 30 #[.slice none 0 0, .int .i64 (n : Int)] w fun e w' => GrowEnds w.heap.size e w' ∧ Bw w w' := by
  obtain ⟨j0, hj0, hy0, hy1, hy2⟩ := info_parts info_item
  have hrun := Lib.run_append_nil_zeros (P := Tryz.prog) w 22 3 22 26 j0 _ .i64 .i64 Tryz.underlying22 Tryz.underlying3 hj0 hy0 n h0 (by rw [hy1]; omega) (by omega) (by rw [hy2]; omega)
  obtain ⟨C, hC⟩ : ∃ C, Hid (grownCap w n 0 26 = C) := ⟨_, rfl⟩
  have h1 := grownCap_ge w n 0 26
  have h2 := grownCap_le_maxLen w n 0 26 (by unfold maxLen; omega)
  rw [hC.out] at hrun h1 h2
  obtain ⟨Z, hZ⟩ : ∃ Z, Hid (Builtin.zeroCells Tr.zeros.cells n ++ Builtin.zeroCells Tr.zeros.cells (C - n) = Z) := ⟨_, rfl⟩
  have hzs : Z.size = C * 6 := by
    rw [← hZ.out, Array.size_append, zero_size11, zero_size11]
    omega
  rw [hZ.out] at hrun
  have HM : Hid ((w.drew.alloc (.cells Z 26)).ownsRow w.heap.size 26 6 (.slice (some ⟨w.heap.size, 0, none⟩) 0 C) 0 []) := World.ownsRow_made w.drew Z C (Nat.le_refl _) h2 hzs
  have HB : Hid (Bw w (w.drew.alloc (.cells Z 26))) := bw_alloc11 (Below.drew (Bw.refl _)) _
  obtain ⟨W, hW⟩ : ∃ W, Hid (w.drew.alloc (.cells Z 26) = W) := ⟨_, rfl⟩
  rw [hW.out] at HM HB hrun
  have c1 : (0 : Int) ≤ (C : Int) := Int.natCast_nonneg _
  have c2 : (0 : Int) < (n : Int) := by omega
  have HRun : Hid _ := hrun
  clear hrun hzs
  go_enter Tryz.func30, Tryz.ntmps30
  go_wp2_with (at_builtin; refine Lib.wpList_append_run _ rfl (.tmp 20) (.tmp 21) _ _ rfl _ _ rfl rfl _ _ HRun.out ?_)
  go_ret
  exact ⟨⟨C, rfl, HM.out⟩, HB.out⟩
def ConcatEnds (base : Nat) (L : List Tr.Iv) (e : Ending) (w' : World) : Prop := ∃ v, e = .returned v ∧ w'.ownsRow base 26 6 v L.length (Tr.cellsI L)
end Go.Proofs.YtldkhbkgmiicbabGreatDoor

/- The program's own With, of layer 11, as landed at 97b3c5cd. -/
namespace Go.Proofs.YtldkhbkgmiicbabGreatDoor
open Go.RowKit Go.Deep
set_option linter.unusedVariables false
set_option linter.unusedSimpArgs false

namespace Tr
/-- how many stand ahead of a path -/
def cnt (t : List It) (p : B) : Nat := (t.takeWhile fun x => decide (Nm.cmp x.path p = -1)).length
def there (t : List It) (p : B) : Bool := match t[cnt t p]? with | some x => decide (x.path = p) | none => false
/-- a list with an item put in -/
def withL (t : List It) (x : It) : List It := t.take (cnt t x.path) ++ [x] ++ t.drop (cnt t x.path + (if there t x.path then 1 else 0))
/-- what With answers -/
def withE (t : List It) (x : It) : Int := if (chkE t).2 ≠ 0 then (chkE t).2 else (chkE (withL t x)).2
end Tr
end Go.Proofs.YtldkhbkgmiicbabGreatDoor

/- Lists of pairs in the order of their keys: a list laid over another one (code-free). -/
namespace Go.Proofs.YtldkhbkgmiicbabGreatDoor
open Go.RowKit Go.Deep
set_option linter.unusedVariables false
set_option linter.unusedSimpArgs false

namespace Px
abbrev B := List UInt8
abbrev Pr := B × B
/-- keys in their order, each once -/
def Srt (l : List Pr) : Prop := l.Pairwise (fun a b => Nm.less a.1 b.1 = true)
/-- a key's value -/
def find : List Pr → B → Option B
  | [], _ => none
  | a :: l, k => if a.1 = k then some a.2 else find l k
/-- a list laid over another one -/
def over : List Pr → List Pr → List Pr
  | [], m => m
  | a :: l, [] => a :: l
  | a :: l, b :: m => if Nm.less a.1 b.1 = true then a :: over l (b :: m) else if a.1 = b.1 then b :: over l m else b :: over (a :: l) m
termination_by l m => l.length + m.length
theorem three (a b : B) : Nm.less a b = true ∨ a = b ∨ Nm.less b a = true := by
  cases h : Nm.less a b with
  | true => exact .inl rfl
  | false =>
    cases k : Nm.less b a with
    | true => exact .inr (.inr rfl)
    | false => exact .inr (.inl (Nm.less_tot _ _ h k))
theorem find_none {l : List Pr} {k : B} (h : ∀ x ∈ l, x.1 ≠ k) : find l k = none := by
  induction l with
  | nil => rfl
  | cons a l ih =>
    unfold find
    rw [if_neg (h a List.mem_cons_self)]
    exact ih fun x hx => h x (List.mem_cons_of_mem _ hx)
theorem Srt.tail {a : Pr} {l : List Pr} (h : Srt (a :: l)) : Srt l := (List.pairwise_cons.1 h).2
end Px
end Go.Proofs.YtldkhbkgmiicbabGreatDoor
