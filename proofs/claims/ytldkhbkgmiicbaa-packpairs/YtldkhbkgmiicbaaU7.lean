/- The statements' helpers of layer 11: a list lent. -/
import Derived.Test.YtldkhbkgmiicbaaU4
import Derived.Great.BuildSlice
namespace Go.Proofs.Ytldkhbkgmiicbaa
open Go.RowKit Go.Deep
set_option linter.unusedVariables false
set_option linter.unusedSimpArgs false

theorem wpList_built11 {P : Program} {ops : Array Oper} {rest : List Oper} {o : Oper} {a : Act} {w : World} {Q : Exit → Act → World → Prop} (hg : o.guard = none) (t : TypeId) (parts : Array (Nat × Operand)) (ho : o.op = .build t parts)
    (cells : Array Value) (hb : P.built t (parts.map fun (i, x) => (i, a.eval x)).toList = some cells)
    (h : wpList P ops Q rest (a.put o.dst (.agg cells)) w) : wpList P ops Q (o :: rest) a w :=
  wpList_build hg t parts ho (by rw [hb]; rfl) (by rw [hb]; exact h)
/-- a Body of a list that was lent: a mark behind it -/
def MarkAt (w : World) (y : Tr.Iv) : Prop := ∃ gb, y.ad = some ⟨gb, 0, none⟩ ∧ Own w gb (y.it.body.length + 1) (Tr.rowF (y.it.body ++ [201])) ∧ y.it.body.length + 1 ≤ y.cp ∧ Tr.Fit y.it
theorem Tr.rowF_left {a b : Tr.B} {i : Nat} (h : i < a.length) : Tr.rowF (a ++ b) i = Tr.rowF a i := by
  unfold Tr.rowF
  rw [List.getD_eq_getElem?_getD, List.getD_eq_getElem?_getD, List.getElem?_append_left h]
theorem MarkAt.body {w : World} {y : Tr.Iv} (h : MarkAt w y) : BodyAt w y := by
  obtain ⟨gb, h1, h2, h3, h4⟩ := h
  refine ⟨?_, by omega, (fun e => by rw [h1] at e; cases e), h4⟩
  refine ⟨.inr ⟨gb, 0, h1, fun i hi => ?_⟩, Tr.rowF_bd _⟩
  have := (h2.cell (c := i) (by omega)).1
  rw [Nat.zero_add, this, Tr.rowF_left hi]
theorem MarkAt.mark {w : World} {y : Tr.Iv} (h : MarkAt w y) : ∃ gb, y.ad = some ⟨gb, 0, none⟩ ∧ w.cell? ⟨gb, y.it.body.length, none⟩ = some (.int .u8 201) ∧ y.it.body.length + 1 ≤ y.cp := by
  obtain ⟨gb, h1, h2, h3, h4⟩ := h
  refine ⟨gb, h1, ?_, h3⟩
  have := (h2.cell (c := y.it.body.length) (by omega)).1
  rw [this, Tr.rowF_at (c := 201) (by rw [List.getElem?_append_right (Nat.le_refl _), Nat.sub_self]; rfl)]; rfl
theorem MarkAt.keep {w w' : World} {y : Tr.Iv} (h : MarkAt w y) (g : Bw w w') : MarkAt w' y := by
  obtain ⟨gb, h1, h2, h3⟩ := h
  exact ⟨gb, h1, h2.keep g, h3⟩
/-- a list of items that grows leaves a row of bytes as it was -/
theorem MarkAt.grown {w w' : World} {y : Tr.Iv} {base n : Nat} {v : Value} {xs : List Value} (h : MarkAt w y) (g : w.grownBy w' v.ownBlock) (ho : w.ownsRow base 25 6 v n xs) : MarkAt w' y := by
  obtain ⟨gb, h1, ⟨cur, hc, h2⟩, h3⟩ := h
  refine ⟨gb, h1, ⟨cur, ?_, h2⟩, h3⟩
  rw [g.block gb (Array.getElem?_eq_some_iff.1 hc).1 ?_]
  · exact hc
  · intro e
    rcases ho.2 with ⟨rfl, _⟩ | ⟨g', cap, cur', rfl, hb, hg, _⟩
    · cases e
    · simp only [Value.ownBlock, Option.some.injEq] at e
      subst e
      rw [hc] at hg
      injection hg with hg
      injection hg with _ ht
      exact absurd ht (by decide)
theorem box_cell4 {w : World} {g : Nat} {y : Tr.Iv} (h : BoxAt w g y) : w.frozen? ⟨g, 4, none⟩ = false := by
  unfold BoxAt at h
  simp [World.frozen?, h]
theorem box_set4 {w : World} {g : Nat} {y : Tr.Iv} (h : BoxAt w g y) (A : Option Addr) (c : Nat) : BoxAt (w.setCell ⟨g, 4, none⟩ (.slice A y.it.body.length c)) g ⟨y.it, A, c⟩ := by
  have := heap_setCell_same w g 4 _ _ (.slice A y.it.body.length c) h
  unfold BoxAt
  rw [this]
  rfl
/-- a list that was lent -/
structure LentAt (w : World) (g c : Nat) (M : List Tr.Iv) : Prop where
  its : ItsAt w (some ⟨g, 0, none⟩) M
  marks : ∀ y ∈ M, MarkAt w y
  room : M.length + 1 ≤ c
  mark : w.cell? ⟨g, M.length * 6, none⟩ = some (.string ⟨#[109, 97, 114, 107]⟩)
theorem LentAt.keep {w w' : World} {g c : Nat} {M : List Tr.Iv} (h : LentAt w g c M) (k : Bw w w') : LentAt w' g c M :=
  ⟨h.its.keep k, fun y hy => (h.marks y hy).keep k, h.room, (k.cell (p := ⟨g, M.length * 6, none⟩) (block_lt_of_cell h.mark)).trans h.mark⟩
def Tr.markI : Tr.Iv := ⟨⟨[109, 97, 114, 107], 0, 0, 0, [], []⟩, none, 0⟩
theorem Tr.markI_fit : Tr.Fit Tr.markI.it := ⟨by decide, by decide, by decide, by decide, by decide, by decide⟩
theorem built_mark : Try.prog.built 25 [(0, .string ⟨#[109, 97, 114, 107]⟩)] = some Tr.markI.arr := by kernel_rfl
theorem mark_body (w : World) : BodyAt w Tr.markI := ⟨⟨.inl rfl, Tr.rowF_bd _⟩, Nat.le_refl _, fun _ => rfl, Tr.markI_fit⟩
theorem its_one {w : World} {g : Nat} {y : Tr.Iv} (h : BoxAt w g y) (hb : BodyAt w y) : ItsAt w (some ⟨g, 0, none⟩) [y] := by
  refine ⟨.inr ⟨g, 0, rfl, fun i z hz => ?_⟩, fun z hz => by rw [List.mem_singleton.1 hz]; exact hb⟩
  cases i with
  | zero => simp at hz; subst hz; exact h.it
  | succ i => simp at hz
theorem own_lower11 {W : World} {b b' : Nat} {e : TypeId} {s n : Nat} {v : Value} {xs : List Value} (h : W.ownsRow b e s v n xs) (hb : b' ≤ b) : W.ownsRow b' e s v n xs := by
  refine ⟨h.1, ?_⟩
  rcases h.2 with h0 | ⟨g, cap, cur, h1, h2, h3⟩
  · exact .inl h0
  · exact .inr ⟨g, cap, cur, h1, Nat.le_trans hb h2, h3⟩
theorem Tr.cells_row (l : Tr.B) (c : UInt8) : cellsU (Tr.rowF l) l.length ++ [.int .u8 (c.toNat : Int)] = cellsU (Tr.rowF (l ++ [c])) (l.length + 1) := by
  rw [cellsU_succ]
  congr 1
  · exact List.map_congr_left fun i hi => by rw [Tr.rowF_left (List.mem_range.1 hi)]
  · rw [Tr.rowF_at (c := c) (by rw [List.getElem?_append_right (Nat.le_refl _), Nat.sub_self]; rfl)]
end Go.Proofs.Ytldkhbkgmiicbaa
