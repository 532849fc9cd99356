/- The document's own Same, of layer 11 (written by mku4.py). -/
import Derived.Test.YtldkhbkgmiicbaaU3
import Derived.Deep.CutRange
namespace Go.Proofs.Ytldkhbkgmiicbaa
open Go.RowKit Go.Deep
set_option linter.unusedVariables false
set_option linter.unusedSimpArgs false

theorem Tr.it_ne {x y : Tr.It} (h : x ≠ y) : x.path ≠ y.path ∨ (x.path = y.path ∧ (x.kind ≠ y.kind ∨ (x.kind = y.kind ∧ (x.mode ≠ y.mode ∨ (x.mode = y.mode ∧ (x.time ≠ y.time ∨ (x.time = y.time ∧ (x.to ≠ y.to ∨ (x.to = y.to ∧ x.body ≠ y.body))))))))) := by
  by_cases h1 : x.path = y.path
  · by_cases h2 : x.kind = y.kind
    · by_cases h3 : x.mode = y.mode
      · by_cases h4 : x.time = y.time
        · by_cases h5 : x.to = y.to
          · by_cases h6 : x.body = y.body
            · exact absurd (Tr.it_ext h1 h2 h3 h4 h6 h5) h
            · exact .inr ⟨h1, .inr ⟨h2, .inr ⟨h3, .inr ⟨h4, .inr ⟨h5, h6⟩⟩⟩⟩⟩
          · exact .inr ⟨h1, .inr ⟨h2, .inr ⟨h3, .inr ⟨h4, .inl h5⟩⟩⟩⟩
        · exact .inr ⟨h1, .inr ⟨h2, .inr ⟨h3, .inl h4⟩⟩⟩
      · exact .inr ⟨h1, .inr ⟨h2, .inl h3⟩⟩
    · exact .inr ⟨h1, .inl h2⟩
  · exact .inl h1
theorem Tr.S_yes {a b : Tr.B} (h : a = b) : ((Nm.S a).toList == (Nm.S b).toList) = true := by rw [Tr.S_eql, decide_eq_true h]
theorem Tr.S_no {a b : Tr.B} (h : a ≠ b) : ((Nm.S a).toList == (Nm.S b).toList) = false := by rw [Tr.S_eql, decide_eq_false h]
theorem Tr.i_yes {a b : Int} (h : a = b) : (a != b) = false := by rw [h]; simp
theorem Tr.i_no {a b : Int} (h : a ≠ b) : (a != b) = true := by rw [bne_iff_ne]; exact h
theorem Tr.n_yes {a b : Nat} (h : a = b) : ((a : Int) != (b : Int)) = false := by rw [h]; simp
theorem Tr.n_no {a b : Nat} (h : a ≠ b) : ((a : Int) != (b : Int)) = true := by rw [bne_iff_ne]; omega
end Go.Proofs.Ytldkhbkgmiicbaa
