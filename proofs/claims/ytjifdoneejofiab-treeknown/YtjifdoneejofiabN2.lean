/- Texts as lists of bytes; the contract of the document's own Pieces. -/
import Derived.Test.YtjifdoneejofiabN1
namespace Go.Proofs.Ytjifdoneejofiab
open Go.RowKit Go.Deep
set_option linter.unusedVariables false
set_option linter.unusedSimpArgs false

namespace Nm
/-- a text of these bytes -/
def S (l : B) : ByteArray := ⟨l.toArray⟩
theorem toList_S (l : B) : (S l).toList = l := ByteArray.toList_mk l
theorem S_toList (s : ByteArray) : S s.toList = s := by
  rw [ByteArray.toList_eq]; unfold S; rw [Array.toArray_toList]
theorem size_S (l : B) : (S l).size = l.length := by unfold S; rfl
theorem size_toList (s : ByteArray) : s.toList.length = s.size := by rw [ByteArray.toList_eq, Array.length_toList]; rfl
theorem extract_S (s : ByteArray) (a b : Nat) : s.extract a b = S ((s.toList.drop a).take (b - a)) := by
  have h := ByteArray.extract_mk s.toList a b
  rw [show ByteArray.mk s.toList.toArray = s from S_toList s] at h
  exact h
theorem extract_from (s : ByteArray) (a : Nat) : s.extract a s.size = S (s.toList.drop a) := by
  rw [extract_S, List.take_of_length_le]
  rw [List.length_drop, size_toList]; exact Nat.le_refl _
theorem extract_cut (s : ByteArray) (a b : Nat) : s.extract a b = S ((s.toList.take b).drop a) := by
  rw [extract_S, List.drop_take]
theorem extract_to (s : ByteArray) (b : Nat) : s.extract 0 b = S (s.toList.take b) := by rw [extract_cut]; rfl
theorem get_toList (s : ByteArray) (i : Nat) (h : i < s.size) (h' : i < s.toList.length) : s[i] = s.toList[i] := by
  have e : s.toList = s.data.toList := ByteArray.toList_eq s
  have e2 : s.toList[i]? = s.data.toList[i]? := by rw [e]
  rw [List.getElem?_eq_getElem h', Array.getElem?_toList, Array.getElem?_eq_getElem h] at e2
  exact (Option.some.inj e2).symm
theorem append_S (a b : B) : S a ++ S b = S (a ++ b) := ByteArray.mk_append_mk a b
theorem S_inj {a b : B} (h : S a = S b) : a = b := by rw [← toList_S a, h, toList_S]
theorem byte_eq (x y : UInt8) : ((x.toNat : Int) = (y.toNat : Int)) ↔ x = y := by
  constructor
  · intro h; exact UInt8.toNat_inj.1 (by omega)
  · intro h; rw [h]
/-- the cells of a list of pieces -/
def cellsP : List (Nat × B) → List Value
  | [] => []
  | x :: xs => .int .i64 (x.1 : Int) :: .string (S x.2) :: cellsP xs
theorem cellsP_append : ∀ a b, cellsP (a ++ b) = cellsP a ++ cellsP b
  | [], b => rfl
  | x :: a, b => by simp only [List.cons_append, cellsP, cellsP_append a b]
theorem cellsP_len : ∀ a, (cellsP a).length = a.length * 2
  | [] => rfl
  | x :: a => by simp only [cellsP, List.length_cons, cellsP_len a]; omega
theorem cellsP_get : ∀ (a : List (Nat × B)) (j : Nat) (x : Nat × B), a[j]? = some x → (cellsP a)[j * 2]? = some (.int .i64 (x.1 : Int)) ∧ (cellsP a)[j * 2 + 1]? = some (.string (S x.2))
  | [], j, x, h => by simp at h
  | y :: a, 0, x, h => by simp at h; subst h; exact ⟨rfl, rfl⟩
  | y :: a, j + 1, x, h => by
    have := cellsP_get a j x (by simpa using h)
    rw [show (j + 1) * 2 = j * 2 + 1 + 1 by omega]
    exact this
end Nm

/-- a list of pieces in memory -/
def PcsAt (w : World) (v : Value) (ps : List Nm.B) : Prop := ∃ g cap, v = .slice (some ⟨g, 0, none⟩) ps.length cap ∧ ps.length ≤ cap ∧ g < w.heap.size ∧ ∀ j (h : j < ps.length), w.cell? ⟨g, j * 2, none⟩ = some (.int .i64 ((Nm.tot (ps.take j) : Nat) : Int)) ∧ w.cell? ⟨g, j * 2 + 1, none⟩ = some (.string (Nm.S ps[j]))
theorem PcsAt.keep {w w' : World} {v : Value} {ps : List Nm.B} (h : PcsAt w v ps) (b : Bw w w') : PcsAt w' v ps := by
  obtain ⟨g, cap, hv, h1, h2, h3⟩ := h
  refine ⟨g, cap, hv, h1, Nat.lt_of_lt_of_le h2 b.size, fun j hj => ?_⟩
  rw [b.cell (p := ⟨g, j * 2, none⟩) h2, b.cell (p := ⟨g, j * 2 + 1, none⟩) h2]
  exact h3 j hj
end Go.Proofs.Ytjifdoneejofiab
