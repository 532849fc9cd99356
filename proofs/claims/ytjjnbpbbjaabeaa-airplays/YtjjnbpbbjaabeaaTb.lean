/- Layer 19: datagrams at the head of a block; copy and append of them. -/
import Derived.Test.YtjjnbpbbjaabeaaTa
namespace Go.Proofs.Ytjjnbpbbjaabeaa
open Go.RowKit Go.Deep
set_option linter.unusedVariables false
set_option linter.unusedSimpArgs false

/-- datagrams at the head of a block of room for c of them -/
def DB (w : World) (b c : Nat) (L : List Raw) : Prop := ∃ cur, w.heap[b]? = some (.cells cur 35 (0, 0)) ∧ cur.size = c * 3 ∧ L.length ≤ c ∧ c ≤ maxLen ∧ cur.toList.take (L.length * 3) = flat L
/-- datagrams somewhere in memory -/
def DsAt (w : World) (A : Option Addr) (L : List Raw) : Prop := L = [] ∨ ∃ b o, A = some ⟨b, o, none⟩ ∧ ∀ j u, (flat L)[j]? = some u → w.cell? ⟨b, o + j, none⟩ = some u
namespace DB
variable {w w' : World} {b c : Nat} {L : List Raw}
theorem lt (h : DB w b c L) : b < w.heap.size := by obtain ⟨cur, h1, _⟩ := h; exact (Array.getElem?_eq_some_iff.1 h1).1
theorem le (h : DB w b c L) : L.length ≤ c := by obtain ⟨cur, _, _, h1, _⟩ := h; exact h1
theorem cap (h : DB w b c L) : c ≤ maxLen := by obtain ⟨cur, _, _, _, h1, _⟩ := h; exact h1
theorem kept (h : DB w b c L) (e : w'.heap[b]? = w.heap[b]?) : DB w' b c L := by obtain ⟨cur, h1, h2⟩ := h; exact ⟨cur, e.trans h1, h2⟩
theorem keep (h : DB w b c L) (k : Bw w w') : DB w' b c L := h.kept (k.block b h.lt)
theorem keepx {S : Nat → Prop} (h : DB w b c L) (k : Bx S w w') (hS : ¬ S b) : DB w' b c L := h.kept (k.block b h.lt hS)
theorem take (h : DB w b c L) (k : Nat) : DB w b c (L.take k) := by
  obtain ⟨cur, h1, h2, h3, h4, h5⟩ := h
  refine ⟨cur, h1, h2, by rw [List.length_take]; omega, h4, ?_⟩
  rw [flat_take, ← h5, List.take_take, List.length_take]
  congr 1
  omega
theorem cells (h : DB w b c L) {i : Nat} {r : Raw} (hr : L[i]? = some r) : w.cell? ⟨b, i * 3, none⟩ = some (.int .i64 r.src) ∧ w.cell? ⟨b, i * 3 + 1, none⟩ = some (.int .i64 r.dst) ∧ w.cell? ⟨b, i * 3 + 2, none⟩ = some r.v := by
  obtain ⟨cur, h1, h2, h3, h4, h5⟩ := h
  have hi := (List.getElem?_eq_some_iff.1 hr).1
  obtain ⟨g1, g2, g3⟩ := flat_get L i r hr
  rw [← h5] at g1 g2 g3
  rw [List.getElem?_take, if_pos (by omega), Array.getElem?_toList] at g1 g2 g3
  exact ⟨(cell_of_row w b _ cur _ _ h1).trans g1, (cell_of_row w b _ cur _ _ h1).trans g2, (cell_of_row w b _ cur _ _ h1).trans g3⟩
theorem free (h : DB w b c L) (j : Nat) : w.frozen? ⟨b, j, none⟩ = false := by obtain ⟨cur, h1, _⟩ := h; exact frozen_of_row w b j cur _ h1
theorem own (h : DB w b c L) {base : Nat} (hb : base ≤ b) : w.ownsRow base 35 3 (.slice (some ⟨b, 0, none⟩) L.length c) L.length (flat L) := by
  obtain ⟨cur, h1, h2, h3, h4, h5⟩ := h
  exact ⟨flat_len L, .inr ⟨b, c, cur, rfl, hb, h1, h3, h4, h2, h5⟩⟩
theorem of_own {base : Nat} (h : w.ownsRow base 35 3 (.slice (some ⟨b, 0, none⟩) L.length c) L.length (flat L)) : DB w b c L ∧ base ≤ b := by
  rcases h.2 with ⟨e, _⟩ | ⟨g, cap, cur, e, h0, h1, h2, h3, h4, h5⟩
  · cases e
  · cases e
    exact ⟨⟨cur, h1, h4, h2, h3, h5⟩, h0⟩
theorem src (h : DB w b c L) (k : Nat) : DsAt w (some ⟨b, k * 3, none⟩) (L.drop k) := by
  refine .inr ⟨b, k * 3, rfl, fun j u hu => ?_⟩
  obtain ⟨cur, h1, h2, h3, h4, h5⟩ := h
  rw [flat_drop, List.getElem?_drop, ← h5, List.getElem?_take] at hu
  split at hu
  · rw [Array.getElem?_toList] at hu
    exact (cell_of_row w b _ cur _ _ h1).trans hu
  · cases hu
theorem src0 (h : DB w b c L) : DsAt w (some ⟨b, 0, none⟩) L := by have := h.src 0; simpa using this
end DB
theorem infoD : (Try.prog.info? 35).map (fun i => (i.zero, i.size, i.bytes)) = some (some (.agg #[.int .i64 0, .int .i64 0, .slice none 0 0]), 3, 40) := by kernel_rfl
theorem run_copy3 (w : World) (dT sT ty elem : TypeId) (g o dLen dCap : Nat) (a : Addr) (sLen sCap : Nat) (cur : Array Value) (t : TypeId) (cs : List Value) (n : Nat)
    (hu : Try.prog.underlying dT = some (.slice elem)) (hs : (Try.prog.info? elem).map (·.size) = some 3)
    (hg : w.heap[g]? = some (.cells cur t (0, 0))) (hn : n = Nat.min sLen dLen) (hl : cs.length = n * 3)
    (hsrc : ∀ j v, cs[j]? = some v → w.cell? (a.add j) = some v) (hfit : o + cs.length ≤ cur.size) (h1 : ∀ v ∈ cs, v.oneCell' = true) :
    (Builtin.copy_ #[dT, sT] ty #[.slice (some ⟨g, o, none⟩) dLen dCap, .slice (some a) sLen sCap]).run Try.prog w =
      .ok (goInt n) (w.setRow g (cur.toList.take o ++ cs ++ cur.toList.drop (o + cs.length)).toArray) := by
  have hl' := run_loadCells_list (P := Try.prog) w a cs hsrc
  have hst := run_storeCells_at Try.prog g o t cs 0 cur w hg (by simpa using hfit) h1
  rw [hl] at hl'
  cases hq : Try.prog.info? elem with
  | none => simp [hq] at hs
  | some i =>
    have hi : i.size = 3 := by simpa [hq] using hs
    simp [Builtin.copy_, run_underlying hu, Builtin.lenOf, Builtin.firstCells, sizeOf, typeInfo, hq, hi, ← hn, hl', hst]
/-- what stands in a row when some of it was laid over -/
theorem lay_row {w : World} {b c : Nat} {L V : List Raw} (h : DB w b c L) {o : Nat} (ho : o ≤ L.length) (hc : o + V.length ≤ c) {cur : Array Value} (hcur : w.heap[b]? = some (.cells cur 35 (0, 0))) :
    o * 3 + (flat V).length ≤ cur.size ∧ DB (w.setRow b (cur.toList.take (o * 3) ++ flat V ++ cur.toList.drop (o * 3 + (flat V).length)).toArray) b c (L.take o ++ V ++ L.drop (o + V.length)) ∧ Bx (· = b) w (w.setRow b (cur.toList.take (o * 3) ++ flat V ++ cur.toList.drop (o * 3 + (flat V).length)).toArray) := by
  obtain ⟨cur', h1, h2, h3, h4, h5⟩ := h
  rw [hcur] at h1
  simp only [Option.some.injEq, Obj.cells.injEq, and_true] at h1
  subst h1
  have hv := flat_len V
  refine ⟨by rw [hv]; omega, ⟨_, setRow_heap w b cur _ _ _ hcur, ?_, ?_, h4, ?_⟩, ⟨rfl, rfl, rfl, by simp [World.setRow], fun k _ hk => setRow_other w b k _ (by omega)⟩⟩
  · simp [hv]; omega
  · simp only [List.length_append, List.length_take, List.length_drop]; omega
  · rw [flat_append, flat_append, flat_take, flat_drop, ← h5]
    have hlen : (List.take o L ++ V ++ List.drop (o + V.length) L).length * 3 = o * 3 + V.length * 3 + (L.length * 3 - (o * 3 + V.length * 3)) := by
      simp only [List.length_append, List.length_take, List.length_drop]; omega
    rw [hlen, hv]
    apply List.ext_getElem?
    intro j
    have hcl : cur.toList.length = c * 3 := by simpa using h2
    rw [List.getElem?_take]
    simp only [List.getElem?_append, List.length_append, List.length_take, hcl, hv, List.getElem?_take, List.getElem?_drop]
    have e1 : min (o * 3) (c * 3) = o * 3 := by omega
    have e2 : min (o * 3) (min (L.length * 3) (c * 3)) = o * 3 := by omega
    rw [e1, e2, show (o + V.length) * 3 = o * 3 + V.length * 3 by omega]
    by_cases c1 : j < o * 3
    · rw [if_pos (by omega), if_pos (by omega), if_pos c1, if_pos c1, if_pos (by omega), if_pos c1, if_pos c1, if_pos (by omega)]
    · by_cases c2 : j < o * 3 + V.length * 3
      · rw [if_pos (by omega), if_pos c2, if_neg c1, if_pos c2, if_neg c1]
      · rw [if_neg c2, if_neg c2]
        by_cases c3 : j < o * 3 + V.length * 3 + (L.length * 3 - (o * 3 + V.length * 3))
        · rw [if_pos c3, if_pos (by omega)]
        · rw [if_neg c3, if_neg (by omega)]
/-- copy of datagrams into a row -/
theorem copyD {w : World} {b c : Nat} {L V : List Raw} (h : DB w b c L) {o : Nat} (ho : o ≤ L.length) (hc : o + V.length ≤ c) {A : Addr} (hA : DsAt w (some A) V) (h1 : ∀ r ∈ V, r.v.oneCell' = true) (dLen dCap sLen sCap : Nat) (hn : V.length = Nat.min sLen dLen) :
    ∃ w', (∀ ty, (Builtin.copy_ #[50, 50] ty #[.slice (some ⟨b, o * 3, none⟩) dLen dCap, .slice (some A) sLen sCap]).run Try.prog w = .ok (goInt V.length) w') ∧ DB w' b c (L.take o ++ V ++ L.drop (o + V.length)) ∧ Bx (· = b) w w' := by
  obtain ⟨cur, hcur, _⟩ := id h
  obtain ⟨k1, k2, k3⟩ := lay_row h ho hc hcur (V := V)
  refine ⟨_, fun ty => run_copy3 w _ _ ty 35 b (o * 3) dLen dCap A sLen sCap cur 35 (flat V) V.length Try.underlying50 (by obtain ⟨i, hi, _, hs, _⟩ := info_parts infoD; rw [hi]; simp [hs]) hcur hn (flat_len V) (fun j u hu => ?_) k1 (flat_one h1), k2, k3⟩
  rcases hA with h0 | ⟨b', o', e, hA⟩
  · rw [h0] at hu; simp [flat] at hu
  · cases e
    rw [Addr.add_lit]
    exact hA j u hu
/-- a slice of one's own datagrams -/
def UndAt (w : World) (v : Value) (E : List Raw) : Prop := (v = .slice none 0 0 ∧ E = []) ∨ ∃ b c, v = .slice (some ⟨b, 0, none⟩) E.length c ∧ DB w b c E
namespace UndAt
variable {w w' : World} {v : Value} {E : List Raw}
theorem keep (h : UndAt w v E) (k : Bw w w') : UndAt w' v E := by
  rcases h with h | ⟨b, c, e, h⟩
  · exact .inl h
  · exact .inr ⟨b, c, e, h.keep k⟩
theorem keepx {P : Nat → Prop} (h : UndAt w v E) (k : Bx P w w') (hP : ∀ b, v.ownBlock = some b → ¬ P b) : UndAt w' v E := by
  rcases h with h | ⟨b, c, rfl, h⟩
  · exact .inl h
  · exact .inr ⟨b, c, rfl, h.keepx k (hP b rfl)⟩
theorem own (h : UndAt w v E) {base : Nat} (hb : ∀ b, v.ownBlock = some b → base ≤ b) : w.ownsRow base 35 3 v E.length (flat E) := by
  rcases h with ⟨rfl, rfl⟩ | ⟨b, c, rfl, h⟩
  · exact ⟨rfl, .inl ⟨rfl, rfl⟩⟩
  · exact h.own (hb b rfl)
theorem of_own {base : Nat} (h : w.ownsRow base 35 3 v E.length (flat E)) : UndAt w v E ∧ ∀ b, v.ownBlock = some b → base ≤ b := by
  have h' := h
  rcases h.2 with ⟨e, h0⟩ | ⟨g, cap, cur, e, h0, h1, h2, h3, h4, h5⟩
  · exact ⟨.inl ⟨e, List.eq_nil_of_length_eq_zero h0⟩, fun b hb => by rw [e] at hb; cases hb⟩
  · subst e
    obtain ⟨k1, k2⟩ := DB.of_own h'
    exact ⟨.inr ⟨g, cap, rfl, k1⟩, fun b hb => by cases hb; exact k2⟩
theorem lt (h : UndAt w v E) : ∀ b, v.ownBlock = some b → b < w.heap.size := fun b hb => by
  rcases h with ⟨rfl, _⟩ | ⟨b', c, rfl, h⟩
  · cases hb
  · cases hb; exact h.lt
theorem form (h : UndAt w v E) : ∃ A c, v = .slice A E.length c := by
  rcases h with ⟨rfl, rfl⟩ | ⟨b', c, rfl, h⟩
  · exact ⟨_, _, rfl⟩
  · exact ⟨_, _, rfl⟩
theorem pos (h : UndAt w v E) (h0 : 0 < E.length) : ∃ b c, v = .slice (some ⟨b, 0, none⟩) E.length c ∧ DB w b c E := by
  rcases h with ⟨rfl, rfl⟩ | h
  · exact absurd h0 (by decide)
  · exact h
end UndAt
theorem bx_grown {w w' : World} {r : Option Nat} (h : w.grownBy w' r) : Bx (fun b => r = some b) w w' := ⟨h.os, h.tape, h.output, h.size, fun b hb hne => h.block b hb (fun e => hne e.symm)⟩
theorem bw_allocx {w W : World} (h : Bw w W) {o : Obj} : Bw w (W.alloc o) := h.trans (Below.alloc (Bw.refl _) (Nat.le_refl _) _)
end Go.Proofs.Ytjjnbpbbjaabeaa
