/- The document's own Check, of layer 11. -/
import Derived.Test.YtjifdoneejofiabU5
namespace Go.Proofs.Ytjifdoneejofiab
open Go.RowKit Go.Deep
set_option linter.unusedVariables false
set_option linter.unusedSimpArgs false

theorem keep_two11 {w w' : World} {a b : Addr} {u v : Value} (h : w.cell? a = some u ∧ w.cell? b = some v) (g : Bw w w') : w'.cell? a = some u ∧ w'.cell? b = some v :=
  ⟨(g.cell (p := a) (block_lt_of_cell h.1)).trans h.1, (g.cell (p := b) (block_lt_of_cell h.2)).trans h.2⟩
theorem keep_S11 {w1 w w' : World} {a b : Addr} {u v : Value} (h : w.cell? a = some u ∧ w.cell? b = some v ∧ Bw w1 w) (g : Bw w w') : w'.cell? a = some u ∧ w'.cell? b = some v ∧ Bw w1 w' :=
  ⟨(g.cell (p := a) (block_lt_of_cell h.1)).trans h.1, (g.cell (p := b) (block_lt_of_cell h.2.1)).trans h.2.1, h.2.2.trans g⟩
theorem keep_cell11 {w w' : World} {a : Addr} {u : Value} (h : w.cell? a = some u) (g : Bw w w') : w'.cell? a = some u :=
  (g.cell (p := a) (block_lt_of_cell h)).trans h
theorem Tr.step_is (pre : List Tr.It) (x : Tr.It) : Tr.stepE pre x = if Tr.mayE x ≠ 0 then Tr.mayE x else if Tr.behind pre x = false then 111 else if Nm.up x.path ≠ [] ∧ Tr.hasB pre (Nm.up x.path) 2 = false then 112 else if x.kind = 3 ∧ Tr.hasB pre x.to 1 = false then 113 else 0 := rfl
theorem Tr.fit_in {w : World} {A : Option Addr} {L : List Tr.Iv} (h : ItsAt w A L) {i : Nat} {y : Tr.Iv} (hy : L[i]? = some y) : Tr.Fit y.it := (h.body y (List.mem_of_getElem? hy)).fit

end Go.Proofs.Ytjifdoneejofiab
