/- The document's own nul, Sum, text, number and Seal, of layer 10. -/
import Derived.Test.YtkoacehgfmflmabH4
import Derived.Lib.AppendStr
namespace Go.Proofs.Ytkoacehgfmflmab
open Go.RowKit Go.Deep
set_option linter.unusedVariables false
set_option linter.unusedSimpArgs false

theorem Hd.nul_at {s : Hd.B} {k : Nat} (h : s[k]? = some 0) : Hd.nul s = true := List.any_eq_true.2 ⟨0, List.mem_of_getElem? h, by decide⟩
theorem Hd.nul_none {s : Hd.B} (h : ∀ (k : Nat) (c : UInt8), s[k]? = some c → c ≠ 0) : Hd.nul s = false := by
  cases hx : Hd.nul s with
  | false => rfl
  | true =>
    obtain ⟨c, hc, he⟩ := List.any_eq_true.1 hx
    obtain ⟨k, hk⟩ := List.getElem?_of_mem hc
    exact absurd (eq_of_beq he) (h k c hk)
theorem Hd.at_text (s : ByteArray) (k : Nat) (h : k < s.size) : s.toList[k]? = some s[k] := by
  rw [ByteArray.toList_eq, Array.getElem?_toList]
  exact Array.getElem?_eq_getElem h
/-- a list of bytes of the call's own, made since the block base -/
def GB (w : World) (base : Nat) (v : Value) (L : Hd.B) : Prop := w.ownsRow base 5 1 v L.length (Lib.byteCells L)
theorem GB.keep {w w' : World} {base : Nat} {v : Value} {L : Hd.B} (h : GB w base v L) (b : Bw w w') : GB w' base v L := own_keep h b
theorem GB.lower {w : World} {base b' : Nat} {v : Value} {L : Hd.B} (h : GB w base v L) (hb : b' ≤ base) : GB w b' v L := by
  refine ⟨h.1, ?_⟩
  rcases h.2 with h | ⟨g, cap, cur, hv, hg, hr⟩
  · exact Or.inl h
  · exact Or.inr ⟨g, cap, cur, hv, by omega, hr⟩
theorem GB.row {w : World} {base : Nat} {v : Value} {L : Hd.B} (h : GB w base v L) : ∃ A cap, v = .slice A L.length cap ∧ L.length ≤ cap ∧ cap ≤ maxLen ∧ RowAt w A L.length (Hd.rowF L) ∧ (∀ a, A = some a → base ≤ a.block ∧ a.block < w.heap.size) ∧ (A = none → cap = 0) := by
  have h' := h
  unfold GB at h
  rw [← Hd.cells_row] at h
  obtain ⟨A, cap, hv, h1, h2, h3, h4⟩ := row_of_own (Hd.rowF_bd L) h
  refine ⟨A, cap, hv, h1, h2, h3, h4, fun e => ?_⟩
  subst e
  rcases h'.2 with ⟨e, _⟩ | ⟨g, c, cur, e, _⟩
  · rw [hv] at e; injection e
  · rw [hv] at e; injection e with e1; cases e1
theorem GB.nil (w : World) (base : Nat) : GB w base (.slice none 0 0) [] := World.ownsRow_nil _ _ _ _
theorem str_cells (s : ByteArray) : Lib.strCells s = Lib.byteCells s.toList := by unfold Lib.strCells Lib.byteCells; rw [ByteArray.toList_eq]
theorem byteCells_append (a b : Hd.B) : Lib.byteCells (a ++ b) = Lib.byteCells a ++ Lib.byteCells b := List.map_append
end Go.Proofs.Ytkoacehgfmflmab
