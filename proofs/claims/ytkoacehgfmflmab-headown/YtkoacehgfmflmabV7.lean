/- Appends onto a row without room; three rows in a list. -/
import Derived.Test.YtkoacehgfmflmabV6
import Derived.ArgAppend
namespace Go.Proofs.Ytkoacehgfmflmab
open Go.RowKit Go.Deep
set_option linter.unusedVariables false
set_option linter.unusedSimpArgs false

theorem info_rows7 : (Try.prog.info? 25).map (fun i => (i.zero, i.size, i.bytes)) = some (some (.slice none 0 0), 1, 24) := by kernel_rfl
/-- an append onto a row that has no room: a row of the call's own -/
theorem run_append_full7 {w : World} {A : Option Addr} {n : Nat} {fo : Nat → Int} (h : RowAt w A n fo) (hn : 0 < n) (ty : TypeId) (a : Addr) (m c : Nat) (news : List Value) (hl : news.length = m) (hnews : ∀ j u, news[j]? = some u → w.cell? (a.add j) = some u)
    (h1 : ∀ u ∈ news, u.oneCell' = true) (hm : 0 < m) (hb : n + m ≤ 140737488355328) :
    ∃ v' w', (Builtin.append_ #[25, 25] ty #[.slice A n n, .slice (some a) m c]).run Try.prog w = .ok v' w' ∧ w'.ownsRow w.heap.size 5 1 v' (n + m) (cellsU fo n ++ news) ∧ Bw w w' := by
  obtain ⟨i0, hi0, hz0, hz1, hz2⟩ := info_parts info_u8
  have hmx : n + m ≤ maxLen := by unfold maxLen; omega
  obtain ⟨b', off, rfl, hc⟩ := h.at (k := 0) (by omega)
  obtain ⟨v', w', hr, ho, hg⟩ := run_append_arg_grows (P := Try.prog) w 25 ty 5 i0 _ 1 1 Try.underlying25 hi0 hz0 hz1 hz2 rfl (by decide) ⟨b', off, none⟩ n n (cellsU fo n) (by rw [cellsU_len]; omega) (rowat_news h) a m c news (by omega) hnews (by omega) hmx (by omega)
  exact ⟨v', w', hr, ho, (Below.refl _ _).grown hg (Nat.le_refl _) (fun k hk => by cases hk)⟩
theorem wpList_append_full7 {w : World} {ops : Array Oper} {rest : List Oper} {o : Oper} {a : Act} {Q : Exit → Act → World → Prop} (hgd : o.guard = none) (s x : Operand)
    (ho : o.op = .call { callee := .builtin .append, args := #[s, x], argTypes := #[25, 25] })
    (A : Option Addr) (n : Nat) (fo : Nat → Int) (hs : a.eval s = .slice A n n) (h : RowAt w A n fo) (hn : 0 < n) (ad : Addr) (m c : Nat) (news : List Value) (hx : a.eval x = .slice (some ad) m c) (hl : news.length = m) (hnews : ∀ j u, news[j]? = some u → w.cell? (ad.add j) = some u)
    (h1 : ∀ u ∈ news, u.oneCell' = true) (hm : 0 < m) (hb : n + m ≤ 140737488355328)
    (hh : ∀ v' w', w'.ownsRow w.heap.size 5 1 v' (n + m) (cellsU fo n ++ news) → Bw w w' → wpList Try.prog ops Q rest (a.put o.dst v') w') : wpList Try.prog ops Q (o :: rest) a w := by
  refine wpList_plain hgd fun K hK => ?_
  obtain ⟨v', w', hrun, hown, hbw⟩ := run_append_full7 h hn o.type ad m c news hl hnews h1 hm hb
  unfold Oper.wp
  simp [execOp, ho, resolve, invoke, builtin, hs, hx, hrun, Result.andThen]
  exact hK _ _ (hh v' w' hown hbw)
theorem own_lower {W : World} {b b' : Nat} {e : TypeId} {s n : Nat} {v : Value} {xs : List Value} (h : W.ownsRow b e s v n xs) (hb : b' ≤ b) : W.ownsRow b' e s v n xs := by
  refine ⟨h.1, ?_⟩
  rcases h.2 with h | ⟨g, cap, cur, hv, hg, hr⟩
  · exact Or.inl h
  · exact Or.inr ⟨g, cap, cur, hv, by omega, hr⟩
/-- a row of the call's own does not lie in a block of another type -/
theorem own_apart7 {W : World} {b g : Nat} {e t : TypeId} {s n : Nat} {v : Value} {xs : List Value} {cs : Array Value} {fr : Nat × Nat} (h : W.ownsRow b e s v n xs) (hg : W.heap[g]? = some (.cells cs t fr)) (hne : e ≠ t) : some g ≠ v.ownBlock := by
  rcases h.2 with ⟨rfl, _⟩ | ⟨g', cap, cur, rfl, _, hg', _⟩
  · intro e; cases e
  · intro e'
    simp only [Value.ownBlock, Option.some.injEq] at e'
    subst e'
    rw [hg] at hg'
    cases hg'
    exact hne rfl
/-- a written list of three rows -/
theorem wpList_three7 {ops : Array Oper} {rest : List Oper} {o : Oper} {a : Act} {w : World} {Q : Exit → Act → World → Prop} (hgd : o.guard = none) (p q r : Operand) (ho : o.op = .buildSlice 32 3 #[(0, p), (1, q), (2, r)])
    (A B C : Option Addr) (n : Nat) (hp : a.eval p = .slice A n n) (hq : a.eval q = .slice B n n) (hr : a.eval r = .slice C n n)
    (h : wpList Try.prog ops Q rest (a.put o.dst (.slice (some ⟨w.heap.size, 0, none⟩) 3 3)) (w.alloc (.cells #[.slice A n n, .slice B n n, .slice C n n] 25))) : wpList Try.prog ops Q (o :: rest) a w := by
  obtain ⟨i0, hi0, hz0, hz1, hz2⟩ := info_parts info_rows7
  refine wpList_buildSlice hgd 32 25 3 _ ho #[.slice A n n, .slice B n n, .slice C n n] i0 _ Try.underlying32 hi0 hz0 (by rw [hz1]; omega) (by rw [hz1]; omega) ?_ h
  rw [hz1]
  simp [hp, hq, hr, Instr.fill, Value.cells]
  rw [show Array.range 3 = #[0, 1, 2] by decide]
  simp [Array.setIfInBounds]
end Go.Proofs.Ytkoacehgfmflmab
