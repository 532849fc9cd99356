/- The document's own Record (of tabularyref09). -/
import Derived.Test.YtldkhbkgmiicbaaA6
namespace Go.Proofs.Ytldkhbkgmiicbaa
open Go.RowKit Go.Deep
set_option linter.unusedVariables false

theorem keep_pr {w2 u v : World} {g : Nat} {a b : Value} (h : u.cell? ⟨g, 0, none⟩ = some a ∧ u.cell? ⟨g, 1, none⟩ = some b ∧ Bw w2 u) (k : Bw u v) : v.cell? ⟨g, 0, none⟩ = some a ∧ v.cell? ⟨g, 1, none⟩ = some b ∧ Bw w2 v :=
  ⟨(k.cell (p := ⟨g, 0, none⟩) (block_lt_of_cell h.1)).trans h.1, (k.cell (p := ⟨g, 1, none⟩) (block_lt_of_cell h.2.1)).trans h.2.1, h.2.2.trans k⟩
end Go.Proofs.Ytldkhbkgmiicbaa
