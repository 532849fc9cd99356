/- Layer 16: lists of runs in memory; copy, clear and append of them. -/
import Derived.Test.YtfdfkhmaeeonpaaRa
import Derived.Test.YtfdfkhmaeeonpaaK4
import Derived.Laws.AppendOwnNone
import Derived.Laws.OwnMore
import Derived.Lib.AppendZerosOnto
import Derived.Lib.Overlaps
import Derived.Laws.Externs
namespace Go.Proofs.Ytfdfkhmaeeonpaa
open Go.RowKit Go.Deep
set_option linter.unusedVariables false
set_option linter.unusedSimpArgs false

namespace Sp
def cellsR : List Rn → List Value
  | [] => []
  | r :: L => .int .i64 (r.1 : Int) :: .int .i64 (r.2 : Int) :: cellsR L
theorem cellsR_append : ∀ a b, cellsR (a ++ b) = cellsR a ++ cellsR b
  | [], b => rfl
  | p :: a, b => by simp only [List.cons_append, cellsR, cellsR_append a b]
theorem cellsR_len : ∀ a, (cellsR a).length = a.length * 2
  | [] => rfl
  | p :: a => by simp only [cellsR, List.length_cons, cellsR_len a]; omega
theorem cellsR_get : ∀ (a : List Rn) (j : Nat) (p : Rn), a[j]? = some p → (cellsR a)[j * 2]? = some (.int .i64 (p.1 : Int)) ∧ (cellsR a)[j * 2 + 1]? = some (.int .i64 (p.2 : Int))
  | [], j, p, h => by simp at h
  | q :: a, 0, p, h => by simp at h; subst h; exact ⟨rfl, rfl⟩
  | q :: a, j + 1, p, h => by
    have := cellsR_get a j p (by simpa using h)
    rw [show (j + 1) * 2 = j * 2 + 1 + 1 by omega]
    simpa [cellsR] using this
theorem cellsR_one : ∀ (L : List Rn), ∀ u ∈ cellsR L, u.oneCell' = true
  | [], u, h => absurd h (by simp [cellsR])
  | r :: L, u, h => by
    simp only [cellsR, List.mem_cons] at h
    rcases h with rfl | rfl | h
    · rfl
    · rfl
    · exact cellsR_one L u h
theorem cellsR_take : ∀ (L : List Rn) (k : Nat), cellsR (L.take k) = (cellsR L).take (k * 2)
  | [], k => by simp [cellsR]
  | r :: L, 0 => by simp [cellsR]
  | r :: L, k + 1 => by rw [show (k + 1) * 2 = k * 2 + 1 + 1 by omega]; simp only [List.take_succ_cons, cellsR, cellsR_take L k]
theorem cellsR_drop : ∀ (L : List Rn) (k : Nat), cellsR (L.drop k) = (cellsR L).drop (k * 2)
  | [], k => by simp [cellsR]
  | r :: L, 0 => by simp [cellsR]
  | r :: L, k + 1 => by rw [show (k + 1) * 2 = k * 2 + 1 + 1 by omega]; simp only [List.drop_succ_cons, cellsR, cellsR_drop L k]
end Sp

/-- runs at the head of a block of room for c of them, of type t -/
def RB (w : World) (t b c : Nat) (L : List Sp.Rn) : Prop := ∃ cur, w.heap[b]? = some (.cells cur t (0, 0)) ∧ cur.size = c * 2 ∧ L.length ≤ c ∧ c ≤ maxLen ∧ cur.toList.take (L.length * 2) = Sp.cellsR L
/-- runs somewhere in memory -/
def RsAt (w : World) (A : Option Addr) (L : List Sp.Rn) : Prop := L = [] ∨ ∃ b o, A = some ⟨b, o, none⟩ ∧ ∀ j u, (Sp.cellsR L)[j]? = some u → w.cell? ⟨b, o + j, none⟩ = some u
namespace RB
variable {w w' : World} {t b c : Nat} {L : List Sp.Rn}
theorem lt (h : RB w t b c L) : b < w.heap.size := by obtain ⟨cur, h1, _⟩ := h; exact (Array.getElem?_eq_some_iff.1 h1).1
theorem le (h : RB w t b c L) : L.length ≤ c := by obtain ⟨cur, _, _, h1, _⟩ := h; exact h1
theorem cap (h : RB w t b c L) : c ≤ maxLen := by obtain ⟨cur, _, _, _, h1, _⟩ := h; exact h1
theorem kept (h : RB w t b c L) (e : w'.heap[b]? = w.heap[b]?) : RB w' t b c L := by obtain ⟨cur, h1, h2⟩ := h; exact ⟨cur, e.trans h1, h2⟩
theorem keep (h : RB w t b c L) (k : Bw w w') : RB w' t b c L := h.kept (k.block b h.lt)
theorem keepx {S : Nat → Prop} (h : RB w t b c L) (k : Bx S w w') (hS : ¬ S b) : RB w' t b c L := h.kept (k.block b h.lt hS)
theorem take (h : RB w t b c L) (k : Nat) : RB w t b c (L.take k) := by
  obtain ⟨cur, h1, h2, h3, h4, h5⟩ := h
  refine ⟨cur, h1, h2, by rw [List.length_take]; omega, h4, ?_⟩
  rw [Sp.cellsR_take, ← h5, List.take_take, List.length_take]
  congr 1
  omega
theorem cells (h : RB w t b c L) {i : Nat} {r : Sp.Rn} (hr : L[i]? = some r) : w.cell? ⟨b, i * 2, none⟩ = some (.int .i64 (r.1 : Int)) ∧ w.cell? ⟨b, i * 2 + 1, none⟩ = some (.int .i64 (r.2 : Int)) := by
  obtain ⟨cur, h1, h2, h3, h4, h5⟩ := h
  have hi := (List.getElem?_eq_some_iff.1 hr).1
  obtain ⟨g1, g2⟩ := Sp.cellsR_get L i r hr
  rw [← h5] at g1 g2
  rw [List.getElem?_take, if_pos (by omega), Array.getElem?_toList] at g1 g2
  exact ⟨(cell_of_row w b _ cur _ _ h1).trans g1, (cell_of_row w b _ cur _ _ h1).trans g2⟩
theorem free (h : RB w t b c L) (j : Nat) : w.frozen? ⟨b, j, none⟩ = false := by obtain ⟨cur, h1, _⟩ := h; exact frozen_of_row w b j cur _ h1
theorem own (h : RB w t b c L) {base : Nat} (hb : base ≤ b) : w.ownsRow base t 2 (.slice (some ⟨b, 0, none⟩) L.length c) L.length (Sp.cellsR L) := by
  obtain ⟨cur, h1, h2, h3, h4, h5⟩ := h
  exact ⟨Sp.cellsR_len L, .inr ⟨b, c, cur, rfl, hb, h1, h3, h4, h2, h5⟩⟩
theorem of_own {base : Nat} (h : w.ownsRow base t 2 (.slice (some ⟨b, 0, none⟩) L.length c) L.length (Sp.cellsR L)) : RB w t b c L ∧ base ≤ b := by
  rcases h.2 with ⟨e, _⟩ | ⟨g, cap, cur, e, h0, h1, h2, h3, h4, h5⟩
  · cases e
  · cases e
    exact ⟨⟨cur, h1, h4, h2, h3, h5⟩, h0⟩
theorem src (h : RB w t b c L) (k : Nat) : RsAt w (some ⟨b, k * 2, none⟩) (L.drop k) := by
  refine .inr ⟨b, k * 2, rfl, fun j u hu => ?_⟩
  obtain ⟨cur, h1, h2, h3, h4, h5⟩ := h
  rw [Sp.cellsR_drop, List.getElem?_drop, ← h5, List.getElem?_take] at hu
  split at hu
  · rw [Array.getElem?_toList] at hu
    exact (cell_of_row w b _ cur _ _ h1).trans hu
  · cases hu
theorem src0 (h : RB w t b c L) : RsAt w (some ⟨b, 0, none⟩) L := by have := h.src 0; simpa using this
theorem shape (h : RB w t b c L) : w.shape? b = some (t, c * 2) := by
  obtain ⟨cur, h1, h2, _⟩ := h
  unfold World.shape?
  rw [h1, ← h2]
end RB
theorem RsAt.keep {w w' : World} {A : Option Addr} {L : List Sp.Rn} (h : RsAt w A L) (k : Bw w w') : RsAt w' A L := by
  rcases h with h | ⟨b, o, e, h⟩
  · exact .inl h
  · exact .inr ⟨b, o, e, fun j u hu => by have h1 := h j u hu; rw [k.cell (p := ⟨b, o + j, none⟩) (block_lt_of_cell h1)]; exact h1⟩
theorem RsAt.keepx {S : Nat → Prop} {w w' : World} {A : Option Addr} {L : List Sp.Rn} (h : RsAt w A L) (k : Bx S w w') (hA : ∀ b o, A = some ⟨b, o, none⟩ → ¬ S b) : RsAt w' A L := by
  rcases h with h | ⟨b, o, e, h⟩
  · exact .inl h
  · exact .inr ⟨b, o, e, fun j u hu => by
      have h1 := h j u hu
      rw [World.cell?_of_block (w := w) (k.block b (block_lt_of_cell h1) (hA b o e))]
      exact h1⟩
theorem RsAt.take {w : World} {A : Option Addr} {L : List Sp.Rn} (h : RsAt w A L) (k : Nat) : RsAt w A (L.take k) := by
  rcases h with h | ⟨b, o, e, h⟩
  · exact .inl (by rw [h]; simp)
  · exact .inr ⟨b, o, e, fun j u hu => h j u (by rw [Sp.cellsR_take, List.getElem?_take] at hu; split at hu; exact hu; cases hu)⟩
theorem RsAt.at {w : World} {b o : Nat} {L : List Sp.Rn} (h : RsAt w (some ⟨b, o, none⟩) L) {i : Nat} {r : Sp.Rn} (hr : L[i]? = some r) : w.cell? ⟨b, o + i * 2, none⟩ = some (.int .i64 (r.1 : Int)) ∧ w.cell? ⟨b, o + i * 2 + 1, none⟩ = some (.int .i64 (r.2 : Int)) := by
  rcases h with h | ⟨b', o', e, h⟩
  · rw [h] at hr; simp at hr
  · cases e
    obtain ⟨g1, g2⟩ := Sp.cellsR_get L i r hr
    exact ⟨h _ _ g1, by have := h _ _ g2; rwa [← Nat.add_assoc] at this⟩
theorem infoR : (Try.prog.info? 48).map (fun i => (i.zero, i.size, i.bytes)) = some (some (.agg #[.int .i64 0, .int .i64 0]), 2, 16) := by kernel_rfl
theorem infoA : (Try.prog.info? 32).map (fun i => (i.zero, i.size, i.bytes)) = some (some (.agg #[.int .i64 0, .int .i64 0]), 2, 16) := by kernel_rfl
theorem run_copy2 (w : World) (dT sT ty elem : TypeId) (g o dLen dCap : Nat) (a : Addr) (sLen sCap : Nat) (cur : Array Value) (t : TypeId) (cs : List Value) (n : Nat)
    (hu : Try.prog.underlying dT = some (.slice elem)) (hs : (Try.prog.info? elem).map (·.size) = some 2)
    (hg : w.heap[g]? = some (.cells cur t (0, 0))) (hn : n = Nat.min sLen dLen) (hl : cs.length = n * 2)
    (hsrc : ∀ j v, cs[j]? = some v → w.cell? (a.add j) = some v) (hfit : o + cs.length ≤ cur.size) (h1 : ∀ v ∈ cs, v.oneCell' = true) :
    (Builtin.copy_ #[dT, sT] ty #[.slice (some ⟨g, o, none⟩) dLen dCap, .slice (some a) sLen sCap]).run Try.prog w =
      .ok (goInt n) (w.setRow g (cur.toList.take o ++ cs ++ cur.toList.drop (o + cs.length)).toArray) := by
  have hl' := run_loadCells_list (P := Try.prog) w a cs hsrc
  have hst := run_storeCells_at Try.prog g o t cs 0 cur w hg (by simpa using hfit) h1
  rw [hl] at hl'
  cases hq : Try.prog.info? elem with
  | none => simp [hq] at hs
  | some i =>
    have hi : i.size = 2 := by simpa [hq] using hs
    simp [Builtin.copy_, run_underlying hu, Builtin.lenOf, Builtin.firstCells, sizeOf, typeInfo, hq, hi, ← hn, hl', hst]
/-- what stands in a row when some of it was laid over -/
theorem lay_row {w : World} {t b c : Nat} {L V : List Sp.Rn} (h : RB w t b c L) {o : Nat} (ho : o ≤ L.length) (hc : o + V.length ≤ c) {cur : Array Value} (hcur : w.heap[b]? = some (.cells cur t (0, 0))) :
    o * 2 + (Sp.cellsR V).length ≤ cur.size ∧ RB (w.setRow b (cur.toList.take (o * 2) ++ Sp.cellsR V ++ cur.toList.drop (o * 2 + (Sp.cellsR V).length)).toArray) t b c (L.take o ++ V ++ L.drop (o + V.length)) ∧ Bx (· = b) w (w.setRow b (cur.toList.take (o * 2) ++ Sp.cellsR V ++ cur.toList.drop (o * 2 + (Sp.cellsR V).length)).toArray) := by
  obtain ⟨cur', h1, h2, h3, h4, h5⟩ := h
  rw [hcur] at h1
  simp only [Option.some.injEq, Obj.cells.injEq, and_true] at h1
  subst h1
  have hv := Sp.cellsR_len V
  refine ⟨by rw [hv]; omega, ⟨_, setRow_heap w b cur _ _ _ hcur, ?_, ?_, h4, ?_⟩, ⟨rfl, rfl, rfl, by simp [World.setRow], fun k _ hk => setRow_other w b k _ (by omega)⟩⟩
  · simp [hv]; omega
  · simp only [List.length_append, List.length_take, List.length_drop]; omega
  · rw [Sp.cellsR_append, Sp.cellsR_append, Sp.cellsR_take, Sp.cellsR_drop, ← h5]
    have hlen : (List.take o L ++ V ++ List.drop (o + V.length) L).length * 2 = o * 2 + V.length * 2 + (L.length * 2 - (o * 2 + V.length * 2)) := by
      simp only [List.length_append, List.length_take, List.length_drop]; omega
    rw [hlen, hv]
    apply List.ext_getElem?
    intro j
    have hcl : cur.toList.length = c * 2 := by simpa using h2
    rw [List.getElem?_take]
    simp only [List.getElem?_append, List.length_append, List.length_take, hcl, hv, List.getElem?_take, List.getElem?_drop]
    have e1 : min (o * 2) (c * 2) = o * 2 := by omega
    have e2 : min (o * 2) (min (L.length * 2) (c * 2)) = o * 2 := by omega
    rw [e1, e2, show (o + V.length) * 2 = o * 2 + V.length * 2 by omega]
    by_cases c1 : j < o * 2
    · rw [if_pos (by omega), if_pos (by omega), if_pos c1, if_pos c1, if_pos (by omega), if_pos c1, if_pos c1, if_pos (by omega)]
    · by_cases c2 : j < o * 2 + V.length * 2
      · rw [if_pos (by omega), if_pos c2, if_neg c1, if_pos c2, if_neg c1]
      · rw [if_neg c2, if_neg c2]
        by_cases c3 : j < o * 2 + V.length * 2 + (L.length * 2 - (o * 2 + V.length * 2))
        · rw [if_pos c3, if_pos (by omega)]
        · rw [if_neg c3, if_neg (by omega)]
/-- copy of runs into a row -/
theorem copyR {w : World} {t b c : Nat} {L V : List Sp.Rn} (h : RB w t b c L) {o : Nat} (ho : o ≤ L.length) (hc : o + V.length ≤ c) {A : Addr} (hA : RsAt w (some A) V) (dLen dCap sLen sCap : Nat) (hn : V.length = Nat.min sLen dLen) :
    ∃ w', (∀ ty, (Builtin.copy_ #[46, 46] ty #[.slice (some ⟨b, o * 2, none⟩) dLen dCap, .slice (some A) sLen sCap]).run Try.prog w = .ok (goInt V.length) w') ∧ RB w' t b c (L.take o ++ V ++ L.drop (o + V.length)) ∧ Bx (· = b) w w' := by
  obtain ⟨cur, hcur, _⟩ := id h
  obtain ⟨h1, h2, h3⟩ := lay_row h ho hc hcur (V := V)
  refine ⟨_, fun ty => run_copy2 w _ _ ty 48 b (o * 2) dLen dCap A sLen sCap cur t (Sp.cellsR V) V.length Try.underlying46 (by obtain ⟨i, hi, _, hs, _⟩ := info_parts infoR; rw [hi]; simp [hs]) hcur hn (Sp.cellsR_len V) (fun j u hu => ?_) h1 (Sp.cellsR_one V), h2, h3⟩
  rcases hA with h0 | ⟨b', o', e, hA⟩
  · rw [h0] at hu; simp [Sp.cellsR] at hu
  · cases e
    rw [Addr.add_lit]
    exact hA j u hu
theorem zcells (n : Nat) : (Builtin.zeroCells (Value.agg #[.int .i64 0, .int .i64 0]).cells n).toList = Sp.cellsR (List.replicate n (0, 0)) := by
  apply List.ext_getElem?
  intro j
  have hsz : (Value.agg #[.int .i64 0, .int .i64 0]).cells.size = 2 := rfl
  by_cases hj : j < n * 2
  · have h1 : (Builtin.zeroCells (Value.agg #[.int .i64 0, .int .i64 0]).cells n).toList[j]? = some ((Value.agg #[.int .i64 0, .int .i64 0]).cells[j % 2]!) := by
      unfold Builtin.zeroCells
      rw [hsz]
      simp [hj]
    have hr : (List.replicate n ((0, 0) : Sp.Rn))[j / 2]? = some (0, 0) := by rw [List.getElem?_replicate, if_pos (by omega)]
    obtain ⟨g1, g2⟩ := Sp.cellsR_get _ _ _ hr
    rw [h1]
    rcases Nat.mod_two_eq_zero_or_one j with hm | hm
    · rw [show j / 2 * 2 = j by omega] at g1
      rw [g1, hm]; rfl
    · rw [show j / 2 * 2 + 1 = j by omega] at g2
      rw [g2, hm]; rfl
  · rw [List.getElem?_eq_none, List.getElem?_eq_none]
    · rw [Sp.cellsR_len, List.length_replicate]; omega
    · unfold Builtin.zeroCells
      rw [hsz]
      simp; omega
/-- clear of runs of a row -/
theorem clearR {w : World} {t b c : Nat} {L : List Sp.Rn} (h : RB w t b c L) {o n : Nat} (ho : o ≤ L.length) (hc : o + n ≤ c) (hn : 0 < n) (C : Nat) :
    ∃ w', (∀ ty, (Builtin.clear_ #[46] ty #[.slice (some ⟨b, o * 2, none⟩) n C]).run Try.prog w = .ok (.tuple #[]) w') ∧ RB w' t b c (L.take o ++ List.replicate n (0, 0) ++ L.drop (o + n)) ∧ Bx (· = b) w w' := by
  obtain ⟨cur, hcur, _⟩ := id h
  obtain ⟨h1, h2, h3⟩ := lay_row h ho (V := List.replicate n (0, 0)) (by rw [List.length_replicate]; exact hc) hcur
  rw [List.length_replicate] at h2
  refine ⟨_, fun ty => ?_, h2, h3⟩
  obtain ⟨i, hi, hz, hs, hb⟩ := info_parts infoR
  have hst := run_storeCells_at Try.prog b (o * 2) t (Sp.cellsR (List.replicate n (0, 0))) 0 cur w hcur (by simpa using h1) (Sp.cellsR_one _)
  obtain ⟨m, rfl⟩ : ∃ m, n = m + 1 := ⟨n - 1, by omega⟩
  simp only [Nat.add_zero] at hst
  simp [Builtin.clear_, run_underlying Try.underlying46, zeroValue, typeInfo, hi, hz, zcells, hst]
theorem clear_none (w : World) (ty : TypeId) (A : Option Addr) (C : Nat) : (Builtin.clear_ #[46] ty #[.slice A 0 C]).run Try.prog w = .ok (.tuple #[]) w := by
  cases A <;> simp [Builtin.clear_, run_underlying Try.underlying46]
end Go.Proofs.Ytfdfkhmaeeonpaa
