/- Layer 19: the ways that are cut, a map of structs. -/
import Derived.Test.YtjjnbpbbjaabeaaTb
import Derived.Maps.OwnSet
import Derived.DeepKeys4
namespace Go.Proofs.Ytjjnbpbbjaabeaa
open Go.RowKit Go.Deep
set_option linter.unusedVariables false
set_option linter.unusedSimpArgs false

theorem row19 : (61 : TypeId) < Try.prog.types.size := of_decide_eq_true (by kernel_rfl)
theorem wide19 : (match Try.prog.underlying 61 with | some (.array _ _) | some (.struct _) => true | _ => false) = true := by rw [Try.underlying61]
theorem law19 : WideMaps.KeyLaw Try.prog 61 := deep_law_laid laidOut (m := 3) (by omega) row19 (by kernel_rfl) wide19
theorem keyed19 : Maps.Keyed Try.prog 61 := Maps.Keyed.of_law law19
def wayV (p q : Int) : Value := .agg #[.int .i64 p, .int .i64 q]
/-- a number of 64 bits -/
def In64 (p : Int) : Prop := -9223372036854775808 ≤ p ∧ p < 9223372036854775808
theorem key_is {p q : Int} (hp : In64 p) (hq : In64 q) : keyOf Try.prog 61 (wayV p q) = some (.string (keyBytes [.int .i64 p, .int .i64 q])) := by
  have w1 : (Lit.int .i64 p).wf = true := WalkArith.wf_i64 ⟨hp.1, by have := hp.2; omega⟩
  have w2 : (Lit.int .i64 q).wf = true := WalkArith.wf_i64 ⟨hq.1, by have := hq.2; omega⟩
  have hk : Try.prog.keyType 61 = true := by kernel_rfl
  have hc : Try.prog.cellsOf 61 = 2 := by kernel_rfl
  have hi : Try.prog.cellsOf 3 = 1 := by kernel_rfl
  have hf : (wayV p q).formed Try.prog 61 = true := by simp [wayV, Value.formed, Try.underlying61, hc]
  obtain ⟨n, hn⟩ : ∃ n, Try.prog.types.size + 1 = n + 1 + 1 := ⟨Try.prog.types.size - 1, by have h : (61 : Nat) < Try.prog.types.size := row19; omega⟩
  unfold keyOf
  rw [Try.underlying61]
  simp only [hk, hf, Bool.and_self, if_true]
  rw [hn]
  have h1 : ∀ {x : Int}, (Lit.int .i64 x).wf = true → Try.prog.keyLits (n + 1) 3 [.int .i64 x] = some [.int .i64 x] := fun hx => by simp [Program.keyLits, Try.underlying3, hx]
  have h2 : Try.prog.keyLits (n + 1 + 1) 61 (wayV p q).cells.toList = some [.int .i64 p, .int .i64 q] := by
    simp [Program.keyLits, Try.underlying61, Try.underlying3, wayV, Value.cells, hc, hi, w1, w2]
  rw [h2]
  rfl
def kb (p q : Int) : List UInt8 := keyBytes [.int .i64 p, .int .i64 q]
theorem key_kb {p q : Int} (hp : In64 p) (hq : In64 q) : keyOf Try.prog 61 (wayV p q) = some (.string (kb p q)) := key_is hp hq
theorem kb_inj {p q x y : Int} (hp : In64 p) (hq : In64 q) (hx : In64 x) (hy : In64 y) (h : kb p q = kb x y) : p = x ∧ q = y := by
  have h1 := key_is hp hq
  have h2 := key_is hx hy
  have e : wayV p q = wayV x y := law19.inj h1 (by rw [h2]; show some (Lit.string (kb x y)) = _; rw [← h]; rfl)
  simpa [wayV] using e
theorem kb_ne {p q x y : Int} (hp : In64 p) (hq : In64 q) (hx : In64 x) (hy : In64 y) (h : ¬ (x = p ∧ y = q)) : (Lit.string (kb x y)) ≠ .string (kb p q) := fun e => h (by
  have e2 : kb x y = kb p q := by simpa using e
  exact kb_inj hx hy hp hq e2)
/-- the cut ways, in block gm -/
def CutAt (w : World) (gm m : Nat) (f : Int → Int → Bool) : Prop := ∃ n D, n ≤ m ∧ w.ownsMap Try.prog 61 unitElem gm n D ∧ Maps.IsMap D ∧ ∀ p q, In64 p → In64 q → Maps.has (H := Unit) D (.string (kb p q)) = f p q
namespace CutAt
variable {w w' : World} {gm m : Nat} {f : Int → Int → Bool}
theorem lt (h : CutAt w gm m f) : gm < w.heap.size := by obtain ⟨n, D, _, h, _⟩ := h; exact World.ownsMap.lt h
theorem block (h : CutAt w gm m f) : ∃ es c, w.heap[gm]? = some (.map es c) := by obtain ⟨n, D, _, ⟨es, c, hb, _⟩, _⟩ := h; exact ⟨es, c, hb⟩
theorem kept (h : CutAt w gm m f) (e : w'.heap[gm]? = w.heap[gm]?) : CutAt w' gm m f := by
  obtain ⟨n, D, hn, ⟨es, clock, hb, F, hs, hD⟩, h2⟩ := h
  exact ⟨n, D, hn, ⟨es, clock, e.trans hb, F, hs, hD⟩, h2⟩
theorem keep (h : CutAt w gm m f) (k : Bw w w') : CutAt w' gm m f := h.kept (k.block gm h.lt)
theorem keepx {S : Nat → Prop} (h : CutAt w gm m f) (k : Bx S w w') (hS : ¬ S gm) : CutAt w' gm m f := h.kept (k.block gm h.lt hS)
theorem new (w : World) : CutAt (w.alloc (.map #[] 0)) w.heap.size 0 (fun _ _ => false) := ⟨0, .map [], Nat.le_refl _, World.ownsMap_made w Try.prog 61 unitElem, Maps.isMap_empty, fun _ _ _ _ => rfl⟩
theorem more {m' : Nat} (h : CutAt w gm m f) (k : m ≤ m') : CutAt w gm m' f := by
  obtain ⟨n, D, hn, h⟩ := h
  exact ⟨n, D, Nat.le_trans hn k, h⟩
theorem look (h : CutAt w gm m f) {p q : Int} (hp : In64 p) (hq : In64 q) : ∃ n D, w.ownsMap Try.prog 61 unitElem gm n D ∧ Maps.has (H := Unit) D (.string (kb p q)) = f p q := by
  obtain ⟨n, D, hn, h1, h2, h3⟩ := h
  exact ⟨n, D, h1, h3 p q hp hq⟩
theorem put (h : CutAt w gm m f) (hm : m ≤ 1000000) {p q : Int} (hp : In64 p) (hq : In64 q) :
    ∃ w', (Instr.mapUpdate 52 (.map (some gm)) (wayV p q) (.agg #[])).run Try.prog w = .ok () w' ∧ CutAt w' gm (m + 1) (fun x y => if x = p ∧ y = q then true else f x y) ∧ Bx (· = gm) w w' := by
  obtain ⟨n, D, hn, h1, h2, h3⟩ := h
  obtain ⟨w', hrun, r1, r2⟩ := h1.update (t := 52) keyed19 Try.underlying52 (by unfold maxLen; omega) (key_kb hp hq) unitElem_mk
  refine ⟨w', hrun, ⟨n + 1, _, by omega, r1, h2.put _ _, fun x y hx hy => ?_⟩, ⟨r2.os, r2.tape, r2.output, r2.size, fun b hb hne => r2.block b hb (fun e => hne (by cases e; rfl))⟩⟩
  show Maps.has _ _ = if x = p ∧ y = q then _ else f x y
  by_cases e : x = p ∧ y = q
  · rw [if_pos e, e.1, e.2]
    exact Maps.has_put_same h2 (k := .string (kb p q)) trivial _
  · rw [if_neg e, ← h3 x y hx hy]
    exact Maps.has_put_other (kb_ne hp hq hx hy e) _
theorem del (h : CutAt w gm m f) {p q : Int} (hp : In64 p) (hq : In64 q) (ty : TypeId) :
    ∃ w', (Builtin.delete_ #[52, 61] ty #[.map (some gm), wayV p q]).run Try.prog w = .ok (.tuple #[]) w' ∧ CutAt w' gm (m + 1) (fun x y => if x = p ∧ y = q then false else f x y) ∧ Bx (· = gm) w w' := by
  obtain ⟨n, D, hn, h1, h2, h3⟩ := h
  obtain ⟨w', hrun, r1, r2⟩ := h1.drop keyed19 Try.underlying52 (key_kb hp hq) ty
  have g := r2.grown
  refine ⟨w', hrun, ⟨n, _, by omega, r1, r1.isMap, fun x y hx hy => ?_⟩, ⟨g.os, g.tape, g.output, g.size, fun b hb hne => g.block b hb (fun e => hne (by cases e; rfl))⟩⟩
  show Maps.has _ _ = if x = p ∧ y = q then _ else f x y
  by_cases e : x = p ∧ y = q
  · rw [if_pos e, e.1, e.2]
    exact Maps.has_del_same
  · rw [if_neg e, ← h3 x y hx hy]
    exact Maps.has_del_other (kb_ne hp hq hx hy e)
end CutAt
end Go.Proofs.Ytjjnbpbbjaabeaa
