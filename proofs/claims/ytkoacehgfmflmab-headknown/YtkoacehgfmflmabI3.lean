/- The document's own Seal, lay and Put, of layer 10 (written by mkrlay10.py). -/
import Derived.Test.YtkoacehgfmflmabI2
namespace Go.Proofs.Ytkoacehgfmflmab
open Go.RowKit Go.Deep
set_option linter.unusedVariables false
set_option linter.unusedSimpArgs false

theorem row_to {w : World} {b o n : Nat} {l : Hd.B} (h : RowAt w (some ⟨b, o, none⟩) n (Hd.rowF l)) (hl : l.length = n) (m : Nat) (hm : m ≤ n) : RowAt w (some ⟨b, o, none⟩) m (Hd.rowF (l.take m)) := by
  refine ⟨?_, Hd.rowF_bd _⟩
  by_cases h0 : m = 0
  · exact Or.inl h0
  obtain ⟨b', o', e, hc⟩ := h.at (k := 0) (by omega)
  cases e
  refine Or.inr ⟨b, o, rfl, fun i hi => ?_⟩
  rw [hc i (by omega), Hd.rowF_at (List.getElem?_eq_getElem (show i < l.length by omega)), Hd.rowF_at (show (l.take m)[i]? = some l[i] by rw [List.getElem?_take, if_pos hi, List.getElem?_eq_getElem])]
theorem row_from {w : World} {b o n : Nat} {l : Hd.B} (h : RowAt w (some ⟨b, o, none⟩) n (Hd.rowF l)) (hl : l.length = n) (m k : Nat) (hm : m + k = n) : RowAt w (some ⟨b, o + m, none⟩) k (Hd.rowF (l.drop m)) := by
  refine ⟨?_, Hd.rowF_bd _⟩
  by_cases h0 : k = 0
  · exact Or.inl h0
  obtain ⟨b', o', e, hc⟩ := h.at (k := 0) (by omega)
  cases e
  refine Or.inr ⟨b, o + m, rfl, fun i hi => ?_⟩
  rw [Nat.add_assoc, hc (m + i) (by omega), Hd.rowF_at (List.getElem?_eq_getElem (show m + i < l.length by omega)), Hd.rowF_at (show (l.drop m)[i]? = some l[m + i] by rw [List.getElem?_drop, List.getElem?_eq_getElem])]
/-- a world within lay: the struct and the list -/
structure Ly (w W : World) (n p : ByteArray) (m s t : Int) (c : Nat) (k : ByteArray) (v : Value) (L : Hd.B) : Prop where
  cell : ∀ i, W.cell? ⟨w.heap.size, i, none⟩ = (#[.string n, .string p, .int .i64 m, .int .i64 s, .int .i64 t, .int .u8 (c : Int), .string k] : Array Value)[i]?
  list : GB W (w.heap.size + 1) v L
  bw : Below (w.heap.size + 1) (w.alloc (.cells #[.string n, .string p, .int .i64 m, .int .i64 s, .int .i64 t, .int .u8 (c : Int), .string k] 23)) W
theorem Ly.mk' {w W : World} {n p : ByteArray} {m s t : Int} {c : Nat} {k : ByteArray} {v : Value} {L : Hd.B} (l : GB W (w.heap.size + 1) v L) (b : Below (w.heap.size + 1) (w.alloc (.cells #[.string n, .string p, .int .i64 m, .int .i64 s, .int .i64 t, .int .u8 (c : Int), .string k] 23)) W) : Ly w W n p m s t c k v L :=
  ⟨fun i => cell_of_row W w.heap.size i _ _ _ ((b.block w.heap.size (by omega)).trans (heap_alloc_new _ _)), l, b⟩
theorem Ly.next {w W W' : World} {n p : ByteArray} {m s t : Int} {c : Nat} {k : ByteArray} {v v' : Value} {L L' : Hd.B} (h : Ly w W n p m s t c k v L) (l : GB W' (w.heap.size + 1) v' L') (b : Below (w.heap.size + 1) W W') : Ly w W' n p m s t c k v' L' := Ly.mk' l (Below.trans h.bw b)
theorem Ly.size {w W : World} {n p : ByteArray} {m s t : Int} {c : Nat} {k : ByteArray} {v : Value} {L : Hd.B} (h : Ly w W n p m s t c k v L) : w.heap.size + 1 ≤ W.heap.size := by have := h.bw.size; rw [size_alloc] at this; exact this
end Go.Proofs.Ytkoacehgfmflmab
