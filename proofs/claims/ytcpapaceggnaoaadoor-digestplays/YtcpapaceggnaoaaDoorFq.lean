/- For DigestPlays: copies of the call's own, appends, sums of lengths. -/
import Derived.Test.YtcpapaceggnaoaaDoorFp
namespace Go.Proofs.YtcpapaceggnaoaaDoor
open Go.RowKit Go.Deep
set_option linter.unusedVariables false
set_option linter.unusedSimpArgs false

/-- a copy that is the call's own -/
structure Mine5 (w : World) (base : Nat) (A : Option Addr) (L cap : Nat) (f : Nat → Int) : Prop where
  row : RowAt w A L f
  le : L ≤ cap
  own : 0 < L → ∃ g, A = some ⟨g, 0, none⟩ ∧ base ≤ g ∧ g < w.heap.size ∧ Own w g L f

theorem mine_of5 {w : World} {base L : Nat} {v : Value} {f : Nat → Int} (hf : ∀ i, 0 ≤ f i ∧ f i < 256) (h : w.ownsRow base 5 1 v L (cellsU f L)) : ∃ A cap, v = .slice A L cap ∧ cap ≤ maxLen ∧ Mine5 w base A L cap f := by
  obtain ⟨A, cap, rfl, h1, h2, h3, h4⟩ := row_of_own hf h
  refine ⟨A, cap, rfl, h2, h3, h1, fun h0 => ?_⟩
  obtain ⟨g, c, e, hb, _, _, ho⟩ := Own.of h h0
  cases e
  exact ⟨g, rfl, hb, ho.lt, ho⟩

theorem own_keepx5 {S : Nat → Prop} {w w' : World} {g n : Nat} {f : Nat → Int} (h : Own w g n f) (k : Bx S w w') (hg : ¬ S g) : Own w' g n f := by
  obtain ⟨cur, h1, h2⟩ := h
  exact ⟨cur, (k.block g (Array.getElem?_eq_some_iff.1 h1).1 hg).trans h1, h2⟩

theorem own_nil5 {W : World} {base : Nat} {e : TypeId} {size n c m : Nat} {A : Option Addr} {xs : List Value} (h : W.ownsRow base e size (.slice A n c) m xs) : A = none → c = 0 := by
  rcases h.2 with ⟨e1, _⟩ | ⟨g, cap, cur, e1, _⟩
  · cases e1; intro _; rfl
  · cases e1; intro e2; cases e2
theorem own_apart5 {W : World} {b g : Nat} {e t : TypeId} {s n : Nat} {v : Value} {xs : List Value} {cs : Array Value} {fr : Nat × Nat} (h : W.ownsRow b e s v n xs) (hg : W.heap[g]? = some (.cells cs t fr)) (hne : e ≠ t) : v.ownBlock ≠ some g := by
  rcases h.2 with ⟨rfl, _⟩ | ⟨g', cap, cur, rfl, _, hg', _⟩
  · intro e; cases e
  · intro e'
    simp only [Value.ownBlock, Option.some.injEq] at e'
    subst e'
    rw [hg] at hg'
    cases hg'
    exact hne rfl
theorem own_lt5 {W : World} {b : Nat} {e : TypeId} {s n : Nat} {v : Value} {xs : List Value} (h : W.ownsRow b e s v n xs) : ∀ k, v.ownBlock = some k → k < W.heap.size := by
  intro k hk
  rcases h.2 with ⟨rfl, _⟩ | ⟨g', cap, cur, rfl, _, hg', _⟩
  · cases hk
  · simp only [Value.ownBlock, Option.some.injEq] at hk
    subst hk
    exact (Array.getElem?_eq_some_iff.1 hg').1
theorem owns_keepx5 {S : Nat → Prop} {W W' : World} {base : Nat} {e : TypeId} {size n : Nat} {v : Value} {xs : List Value} (h : W.ownsRow base e size v n xs) (g : Bx S W W') (hS : ∀ k, v.ownBlock = some k → ¬ S k) : W'.ownsRow base e size v n xs := by
  obtain ⟨h1, h2⟩ := h
  refine ⟨h1, ?_⟩
  rcases h2 with h | ⟨b, cap, cur, hv, hb, hg, hr⟩
  · exact Or.inl h
  · refine Or.inr ⟨b, cap, cur, hv, hb, ?_, hr⟩
    rw [g.block b (Array.getElem?_eq_some_iff.1 hg).1 (hS b (by rw [hv]; rfl)), hg]
theorem bx_grown5 {W W' : World} {r : Option Nat} (h : W.grownBy W' r) : Bx (fun b => some b = r) W W' := ⟨h.os, h.tape, h.output, h.size, fun b hb hs => h.block b hb hs⟩

/-- the lengths of the first acts together -/
def sumL (L : Nat → Nat) : Nat → Nat
  | 0 => 0
  | k + 1 => sumL L k + L k
theorem sumL_le {L : Nat → Nat} {n : Nat} (h : ∀ i, i < n → L i ≤ 140737488351232) : ∀ k, k ≤ n → sumL L k ≤ k * 140737488351232
  | 0, _ => Nat.zero_le _
  | k + 1, hk => by have := sumL_le h k (by omega); have := h k (by omega); unfold sumL; omega
theorem sumL_mono (L : Nat → Nat) {j : Nat} : ∀ k, j ≤ k → sumL L j ≤ sumL L k
  | 0, h => by rw [show j = 0 by omega]; exact Nat.le_refl _
  | k + 1, h => by
    rcases Nat.lt_or_ge j (k + 1) with h1 | h1
    · have := sumL_mono L k (by omega : j ≤ k); show sumL L j ≤ sumL L k + L k; omega
    · rw [show j = k + 1 by omega]; exact Nat.le_refl _

theorem run_append_zero5 (w : World) (A B : Option Addr) (n cA c : Nat) (ty : TypeId) (hA : A = none → n = 0 ∧ cA = 0) (hle : n ≤ cA) :
    (Builtin.append_ #[22, 22] ty #[.slice A n cA, .slice B 0 c]).run Tryd.prog w = .ok (.slice A n cA) w := by
  obtain ⟨i0, hi0, hz0, hz1, hz2⟩ := info_parts info_u8
  cases A with
  | none =>
    obtain ⟨rfl, rfl⟩ := hA rfl
    cases B <;> simp [Builtin.append_, run_underlying Tryd.underlying22, sizeOf, typeInfo, hi0, Builtin.lenOf, Builtin.firstCells, loadCells, loadCellsFrom]
  | some a =>
    cases B <;> simp [Builtin.append_, run_underlying Tryd.underlying22, sizeOf, typeInfo, hi0, Builtin.lenOf, Builtin.firstCells, loadCells, loadCellsFrom, storeCells, hle]

/-- a row in memory appended to a row of the call's own: where the new one lies -/
theorem wpList_append_all {w : World} {ops : Array Oper} {rest : List Oper} {o : Oper} {a : Act} {Q : Exit → Act → World → Prop} (hgd : o.guard = none) (s x : Operand)
    (ho : o.op = .call { callee := .builtin .append, args := #[s, x], argTypes := #[22, 22] })
    (base : Nat) (A : Option Addr) (N cA : Nat) (G : Nat → Int) (hs : a.eval s = .slice A N cA) (hown : w.ownsRow base 5 1 (.slice A N cA) N (cellsU G N))
    (B : Option Addr) (n c : Nat) (R : Nat → Int) (hx : a.eval x = .slice B n c) (hr : RowAt w B n R) (hb : N + n ≤ 100000000) (hbase : base ≤ w.heap.size)
    (h : ∀ A' c' w', w'.ownsRow base 5 1 (.slice A' (N + n) c') (N + n) (cellsU (fun i => if i < N then G i else R (i - N)) (N + n)) → w.grownBy w' (Value.slice A N cA).ownBlock → ((Value.slice A' (N + n) c').ownBlock = (Value.slice A N cA).ownBlock ∨ ∀ k, (Value.slice A' (N + n) c').ownBlock = some k → w.heap.size ≤ k) → wpList Tryd.prog ops Q rest (a.put o.dst (.slice A' (N + n) c')) w') : wpList Tryd.prog ops Q (o :: rest) a w := by
  obtain ⟨i0, hi0, hz0, hz1, hz2⟩ := info_parts info_u8
  by_cases h0 : n = 0
  · subst h0
    have hle : N ≤ cA := by
      rcases hown.2 with ⟨e1, e2⟩ | ⟨g, cap, cur, e1, _, _, h1, _⟩
      · omega
      · cases e1; exact h1
    have hA : A = none → N = 0 ∧ cA = 0 := fun e => by
      subst e
      rcases hown.2 with ⟨e1, e2⟩ | ⟨g, cap, cur, e1, _⟩
      · cases e1; exact ⟨rfl, rfl⟩
      · cases e1
    have hrun := run_append_zero5 w A B N cA c o.type hA hle
    refine wpList_plain hgd fun K hK => ?_
    unfold Oper.wp execOp
    simp only [ho, resolve, invoke, builtin, Sem.run_bind, Sem.run_pure, Result.andThen_ok, List.map_toArray, List.map_cons, List.map_nil, hs, hx, hrun]
    refine hK _ _ (h A cA w ?_ (World.grownBy.refl _ _) (Or.inl rfl))
    have e : cellsU (fun i => if i < N then G i else R (i - N)) (N + 0) = cellsU G N := List.map_congr_left fun i hi => by dsimp only; rw [if_pos (show i < N from List.mem_range.1 hi)]
    rw [e]; exact hown
  · obtain ⟨b, off, rfl, hc⟩ := hr.at (k := 0) (by omega)
    refine wpList_append_lies w hgd s x 22 ho base 5 i0 _ 1 1 Tryd.underlying22 hi0 hz0 hz1 hz2 rfl (by omega) _ N _ hs hown ⟨b, off, none⟩ n c (cellsU R n) hx (by rw [cellsU_len, Nat.mul_one]) (rowat_news hr) (cellsU_one _ _) (by omega) (by unfold maxLen; omega) (by omega) hbase w.heap.size rfl ?_
    intro g cap w' h1 h2 h3 h4
    rw [cellsU_append] at h1
    refine h _ _ _ h1 h2 ?_
    rcases h3 with h3 | h3
    · exact Or.inl h3.symm
    · exact Or.inr (fun k hk => by simp only [Value.ownBlock, Option.some.injEq] at hk; omega)
end Go.Proofs.YtcpapaceggnaoaaDoor
