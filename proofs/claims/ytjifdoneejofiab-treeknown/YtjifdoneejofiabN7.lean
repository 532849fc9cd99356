/- The document's own Split and Joined. -/
import Derived.Test.YtjifdoneejofiabN6
namespace Go.Proofs.Ytjifdoneejofiab
open Go.RowKit Go.Deep
set_option linter.unusedVariables false
set_option linter.unusedSimpArgs false

/-- what Split answers, as a call's end -/
def SplitEnds (l : Nm.B) (e : Ending) : Prop := ∃ a b er, e = .returned (.tuple #[.string (Nm.S a), .string (Nm.S b), .int .i64 er]) ∧ Nm.SplitSays l a b er
theorem str_nil : (⟨#[]⟩ : ByteArray) = Nm.S [] := rfl
/-- a list of texts in memory -/
def StrsAt (w : World) (A : Option Addr) (n : Nat) (T : Nat → ByteArray) : Prop := n = 0 ∨ ∃ b off, A = some ⟨b, off, none⟩ ∧ ∀ i, i < n → w.cell? ⟨b, off + i, none⟩ = some (.string (T i))
theorem StrsAt.keep {w w' : World} {A : Option Addr} {n : Nat} {T : Nat → ByteArray} (h : StrsAt w A n T) (g : Bw w w') : StrsAt w' A n T := by
  rcases h with h0 | ⟨b, off, hA, hc⟩
  · exact Or.inl h0
  · refine Or.inr ⟨b, off, hA, fun i hi => ?_⟩
    have := hc i hi
    rw [g.cell (p := ⟨b, off + i, none⟩) (block_lt_of_cell this)]
    exact this
theorem StrsAt.at {w : World} {A : Option Addr} {n : Nat} {T : Nat → ByteArray} (h : StrsAt w A n T) {k : Nat} (hk : k < n) : ∃ b off, A = some ⟨b, off, none⟩ ∧ ∀ i, i < n → w.cell? ⟨b, off + i, none⟩ = some (.string (T i)) := by
  rcases h with h0 | h
  · omega
  · exact h
/-- the parts, as lists of bytes -/
def partsL (T : Nat → ByteArray) (n : Nat) : List Nm.B := (List.range n).map fun i => (T i).toList
theorem partsL_succ (T : Nat → ByteArray) (n : Nat) : partsL T (n + 1) = partsL T n ++ [(T n).toList] := by unfold partsL; rw [List.range_succ, List.map_append]; rfl
theorem partsL_len (T : Nat → ByteArray) (n : Nat) : (partsL T n).length = n := by unfold partsL; simp
theorem joined_next (T : Nat → ByteArray) (k : Nat) : Nm.joined (partsL T (k + 1)) = if k = 0 then (T 0).toList else Nm.joined (partsL T k) ++ (47 :: (T k).toList) := by
  rw [partsL_succ]
  by_cases h : k = 0
  · subst h; rw [if_pos rfl]; rfl
  · rw [if_neg h, Nm.joined_append _ _ (fun e => h (by have := partsL_len T k; rw [e] at this; exact this.symm))]
end Go.Proofs.Ytjifdoneejofiab
