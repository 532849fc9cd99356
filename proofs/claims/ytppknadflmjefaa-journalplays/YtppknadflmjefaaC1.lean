/- Layer 14: the sectors that wait, as a map in memory. -/
import Derived.Test.YtppknadflmjefaaK4
import Derived.Maps.OwnSet
import Derived.Maps.RangeWalk
import Derived.Maps.Views
namespace Go.Proofs.Ytppknadflmjefaa
open Go.RowKit Go.Deep Go.Maps Go.ChangeMaps Go.MapKept
set_option linter.unusedVariables false
set_option linter.unusedSimpArgs false

/-- how many of the first n -/
def Dsk.cnt (is : Nat → Bool) : Nat → Nat
  | 0 => 0
  | k + 1 => Dsk.cnt is k + (if is k then 1 else 0)
namespace Dsk
theorem cnt_congr {is is' : Nat → Bool} : ∀ {n : Nat}, (∀ x, x < n → is' x = is x) → cnt is' n = cnt is n
  | 0, _ => rfl
  | n + 1, h => by rw [cnt, cnt, cnt_congr (n := n) (fun x hx => h x (by omega)), h n (by omega)]
theorem cnt_le (is : Nat → Bool) : ∀ n, cnt is n ≤ n
  | 0 => Nat.le_refl _
  | n + 1 => by rw [cnt]; have := cnt_le is n; split <;> omega
theorem cnt_set {is is' : Nat → Bool} {s : Nat} (h1 : is' s = true) (ho : ∀ x, x ≠ s → is' x = is x) : ∀ {n : Nat}, s < n → cnt is' n = if is s then cnt is n else cnt is n + 1
  | 0, h => by omega
  | n + 1, h => by
    by_cases e : s = n
    · subst e
      rw [cnt, cnt, cnt_congr (n := s) (fun x hx => ho x (by omega)), h1]
      cases is s <;> simp
    · rw [cnt, cnt, cnt_set h1 ho (n := n) (by omega), ho n (fun x => e x.symm)]
      cases is s <;> simp; omega
theorem cnt_del {is is' : Nat → Bool} {s : Nat} (h1 : is' s = false) (ho : ∀ x, x ≠ s → is' x = is x) : ∀ {n : Nat}, s < n → cnt is' n + (if is s then 1 else 0) = cnt is n
  | 0, h => by omega
  | n + 1, h => by
    by_cases e : s = n
    · subst e
      rw [cnt, cnt, cnt_congr (n := s) (fun x hx => ho x (by omega)), h1]
      cases is s <;> simp
    · rw [cnt, cnt, ← cnt_del h1 ho (n := n) (by omega), ho n (fun x => e x.symm)]
      omega
theorem cnt_none : ∀ n, cnt (fun _ => false) n = 0
  | 0 => rfl
  | n + 1 => by rw [cnt, cnt_none n]; rfl
end Dsk

/-- bytes out of cells -/
def bytesOf? : List Value → Option (List UInt8)
  | [] => some []
  | .int .u8 a :: r => if 0 ≤ a ∧ a < 256 then (bytesOf? r).map (UInt8.ofNat a.toNat :: ·) else none
  | _ => none
theorem bytesOf_map (f : Nat → Int) (hf : ∀ i, 0 ≤ f i ∧ f i < 256) : ∀ l : List Nat, bytesOf? (l.map fun i => .int .u8 (f i)) = some (l.map fun i => UInt8.ofNat (f i).toNat)
  | [] => rfl
  | i :: r => by simp only [List.map_cons, bytesOf?]; rw [if_pos (hf i), bytesOf_map f hf r]; rfl
theorem bytesOf_inv : ∀ {l : List Value} {bs : List UInt8}, bytesOf? l = some bs → l = bs.map fun x => .int .u8 (x.toNat : Int)
  | [], bs, h => by simp only [bytesOf?, Option.some.injEq] at h; subst h; rfl
  | v :: r, bs, h => by
    unfold bytesOf? at h
    split at h
    · cases h; contradiction
    · rename_i a r' e
      cases e
      split at h
      · rename_i hb
        rw [Option.map_eq_some_iff] at h
        obtain ⟨bs', h1, rfl⟩ := h
        rw [bytesOf_inv h1, List.map_cons]
        congr 2
        have : (UInt8.ofNat a.toNat).toNat = a.toNat := by rw [UInt8.toNat_ofNat']; omega
        rw [this]; omega
      · cases h
    · cases h
/-- how a sector reads as a map's element -/
def secElem (v : Value) : Option (DataW Unit × List MemPlace) := match v with
  | .agg cs => (bytesOf? cs.toList).map fun l => (.lit (.string l), [])
  | _ => none
/-- the cells, the bytes of a sector -/
def secV (f : Nat → Int) (s : Nat) : Array Value := (cellsU (fun c => f (64 * s + c)) 64).toArray
def secL (f : Nat → Int) (s : Nat) : List UInt8 := (List.range 64).map fun c => UInt8.ofNat (f (64 * s + c)).toNat
theorem secV_size (f : Nat → Int) (s : Nat) : (secV f s).size = 64 := by unfold secV; rw [List.size_toArray, cellsU_len]
theorem secV_at (f : Nat → Int) (s : Nat) {c : Nat} (hc : c < 64) : (secV f s)[c]? = some (.int .u8 (f (64 * s + c))) := by
  unfold secV cellsU
  rw [List.getElem?_toArray, List.getElem?_map, List.getElem?_range hc]; rfl
theorem secV_congr {f g : Nat → Int} {s t : Nat} (h : ∀ c, c < 64 → f (64 * s + c) = g (64 * t + c)) : secV f s = secV g t := by
  unfold secV cellsU
  rw [List.map_congr_left (g := fun i => .int .u8 (g (64 * t + i))) (fun i hi => by show Value.int .u8 (f (64 * s + i)) = _; rw [h i (List.mem_range.1 hi)])]
theorem secL_congr {f g : Nat → Int} {s : Nat} (h : ∀ c, c < 64 → f (64 * s + c) = g (64 * s + c)) : secL f s = secL g s := by
  unfold secL
  exact List.map_congr_left (fun i hi => by rw [h i (List.mem_range.1 hi)])
theorem secElem_mk {f : Nat → Int} (hf : ∀ i, 0 ≤ f i ∧ f i < 256) (s : Nat) : secElem (.agg (secV f s)) = some (.lit (.string (secL f s)), []) := by
  unfold secElem secV cellsU secL
  simp only [bytesOf_map (fun c => f (64 * s + c)) (fun i => hf _), Option.map_some]
theorem secElem_inv {f : Nat → Int} (hf : ∀ i, 0 ≤ f i ∧ f i < 256) {s : Nat} {v : Value} {ps : List MemPlace} (h : secElem v = some (.lit (.string (secL f s)), ps)) : v = .agg (secV f s) := by
  unfold secElem at h
  split at h
  · rename_i cs
    rw [Option.map_eq_some_iff] at h
    obtain ⟨bs, h1, h2⟩ := h
    simp only [Prod.mk.injEq, DataW.lit.injEq, Lit.string.injEq] at h2
    obtain ⟨rfl, _⟩ := h2
    have h3 := bytesOf_inv h1
    have h4 : cs = (cs.toList).toArray := by simp
    rw [h4, h3]
    unfold secL secV cellsU
    rw [List.map_map]
    congr 2
    refine List.map_congr_left (fun i hi => ?_)
    have hb := hf (64 * s + i)
    simp only [Function.comp]
    have : (UInt8.ofNat (f (64 * s + i)).toNat).toNat = (f (64 * s + i)).toNat := by rw [UInt8.toNat_ofNat']; omega
    rw [this]
    congr 1
    omega
  · cases h
/-- no bytes -/
theorem zeroSec (w : World) : (zeroValue 77).run Try.prog w = .ok (.agg (secV (fun _ => 0) 0)) w := by kernel_rfl
theorem key14 : Keyed Try.prog 3 := int_keyed Try.underlying3
theorem keyOf14 (s : Nat) (hs : s < 65536) : keyOf Try.prog 3 (.int .i64 (s : Int)) = some (.int .i64 (s : Int)) := keyOf_int_mk Try.underlying3 (WalkArith.wf_i64 (by omega))
theorem ownsMap_tight {w : World} {gm n : Nat} {D : DataW Unit} (h : w.ownsMap Try.prog 3 secElem gm n D) : w.ownsMap Try.prog 3 secElem gm (Maps.size D) D := by
  obtain ⟨es, clock, hb, F, hs, rfl⟩ := h
  refine ⟨es, clock, hb, F, ?_, rfl⟩
  simp [Maps.size, length_sorted]

/-- the sectors that wait: those s of the first n with is s; their bytes are f's -/
structure MapIs (D : DataW Unit) (n : Nat) (is : Nat → Bool) (f : Nat → Int) : Prop where
  has : ∀ k, Maps.has D k = true ↔ ∃ s, s < n ∧ is s = true ∧ k = .int .i64 (s : Int)
  at_ : ∀ s, s < n → is s = true → ∀ z, D.atKey (.int .i64 (s : Int)) z = .lit (.string (secL f s))
  size : Maps.size D = Dsk.cnt is n
theorem MapIs.hasb {D : DataW Unit} {n : Nat} {is : Nat → Bool} {f : Nat → Int} (h : MapIs D n is f) {s : Nat} (hs : s < n) : Maps.has D (.int .i64 (s : Int)) = is s := by
  rw [Bool.eq_iff_iff, h.has]
  constructor
  · rintro ⟨t, _, ht, e⟩
    simp only [Lit.int.injEq, true_and, Int.natCast_inj] at e
    rw [e]; exact ht
  · intro hi
    exact ⟨s, hs, hi, rfl⟩
def MapAt (w : World) (gm n : Nat) (is : Nat → Bool) (f : Nat → Int) : Prop := ∃ D : DataW Unit, w.ownsMap Try.prog 3 secElem gm (Maps.size D) D ∧ MapIs D n is f
theorem MapAt.lt {w : World} {gm n : Nat} {is : Nat → Bool} {f : Nat → Int} (h : MapAt w gm n is f) : gm < w.heap.size := by obtain ⟨D, h, _⟩ := h; exact h.lt
theorem MapAt.block {w : World} {gm n : Nat} {is : Nat → Bool} {f : Nat → Int} (h : MapAt w gm n is f) : ∃ es c, w.heap[gm]? = some (.map es c) := by obtain ⟨D, ⟨es, c, hb, _⟩, _⟩ := h; exact ⟨es, c, hb⟩
theorem MapAt.kept {w w' : World} {gm n : Nat} {is : Nat → Bool} {f : Nat → Int} (h : MapAt w gm n is f) (e : w'.heap[gm]? = w.heap[gm]?) : MapAt w' gm n is f := by
  obtain ⟨D, ⟨es, clock, hb, F, hs, hD⟩, hi⟩ := h
  exact ⟨D, ⟨es, clock, e.trans hb, F, hs, hD⟩, hi⟩
theorem MapAt.keep {w w' : World} {gm n : Nat} {is : Nat → Bool} {f : Nat → Int} (h : MapAt w gm n is f) (k : Bw w w') : MapAt w' gm n is f := h.kept (k.block gm h.lt)
theorem MapAt.keepx {S : Nat → Prop} {w w' : World} {gm n : Nat} {is : Nat → Bool} {f : Nat → Int} (h : MapAt w gm n is f) (k : Bx S w w') (hS : ¬ S gm) : MapAt w' gm n is f := h.kept (k.block gm h.lt hS)
theorem MapAt.congr {w : World} {gm n : Nat} {is is' : Nat → Bool} {f f' : Nat → Int} (h : MapAt w gm n is f) (hi : ∀ s, s < n → is' s = is s) (hf : ∀ s c, s < n → is s = true → c < 64 → f' (64 * s + c) = f (64 * s + c)) : MapAt w gm n is' f' := by
  obtain ⟨D, ho, hD⟩ := h
  refine ⟨D, ho, ⟨fun k => ?_, fun s hs his z => ?_, ?_⟩⟩
  · rw [hD.has]
    constructor
    · rintro ⟨s, h1, h2, h3⟩; exact ⟨s, h1, (hi s h1).trans h2, h3⟩
    · rintro ⟨s, h1, h2, h3⟩; exact ⟨s, h1, (hi s h1).symm.trans h2, h3⟩
  · have his' := (hi s hs).symm.trans his
    rw [hD.at_ s hs his' z, secL_congr (fun c hc => hf s c hs his' hc)]
  · rw [hD.size, Dsk.cnt_congr hi]
theorem map_new14 (w : World) (n : Nat) (f : Nat → Int) : MapAt (w.alloc (.map #[] 0)) w.heap.size n (fun _ => false) f :=
  ⟨.map [], World.ownsMap_made w Try.prog 3 secElem, ⟨fun k => ⟨fun h => (by cases h), fun ⟨_, _, h, _⟩ => (by cases h)⟩, fun s _ h => (by cases h), (by rw [Dsk.cnt_none]; rfl)⟩⟩
theorem MapAt.len {w : World} {gm n : Nat} {is : Nat → Bool} {f : Nat → Int} (h : MapAt w gm n is f) (ty : TypeId) : (Builtin.len_ #[61] ty #[.map (some gm)]).run Try.prog w = .ok (.int .i64 ((Dsk.cnt is n : Nat) : Int)) w := by
  obtain ⟨D, ho, hD⟩ := h
  rw [← hD.size]
  exact ho.len Try.underlying61 ty
theorem MapAt.look {w : World} {gm n : Nat} {is : Nat → Bool} {f : Nat → Int} (h : MapAt w gm n is f) (hf : ∀ i, 0 ≤ f i ∧ f i < 256) (hn : n ≤ 65536) {s : Nat} (hs : s < n) (hi : is s = true) :
    (Instr.lookup 61 (.map (some gm)) (.int .i64 (s : Int)) false).run Try.prog w = .ok (.agg (secV f s)) w := by
  obtain ⟨D, ho, hD⟩ := h
  obtain ⟨v, ps, hrun, hv⟩ := ho.lookup key14 Try.underlying61 (zeroSec w) (secElem_mk (fun _ => ⟨Int.le_refl 0, show (0 : Int) < 256 by decide⟩) 0) (keyOf14 s (by omega))
  rw [hD.at_ s hs hi] at hv
  rw [hrun, secElem_inv hf hv]
theorem MapAt.look_ok {w : World} {gm n : Nat} {is : Nat → Bool} {f : Nat → Int} (h : MapAt w gm n is f) (hf : ∀ i, 0 ≤ f i ∧ f i < 256) (hn : n ≤ 65536) {s : Nat} (hs : s < n) :
    (Instr.lookup 61 (.map (some gm)) (.int .i64 (s : Int)) true).run Try.prog w = .ok (.tuple #[.agg (secV (if is s then f else fun _ => 0) s), .bool (is s)]) w := by
  obtain ⟨D, ho, hD⟩ := h
  have h0 : ∀ i : Nat, (0 : Int) ≤ (fun _ : Nat => (0 : Int)) i ∧ (fun _ : Nat => (0 : Int)) i < 256 := fun _ => ⟨Int.le_refl 0, show (0 : Int) < 256 by decide⟩
  obtain ⟨v, ps, hrun, hv⟩ := ho.look_ok key14 Try.underlying61 (zeroSec w) (secElem_mk h0 0) (keyOf14 s (by omega))
  rw [hD.hasb hs] at hrun
  rw [hrun]
  cases hi : is s
  · rw [atKey_of_not_has (by rw [hD.hasb hs, hi])] at hv
    rw [secElem_inv h0 hv, if_neg (by decide)]
    rw [secV_congr (g := fun _ => 0) (t := s) (fun _ _ => rfl)]
  · rw [hD.at_ s hs hi] at hv
    rw [secElem_inv hf hv, if_pos rfl]
theorem turned_bx {w w' : World} {gm : Nat} (h : w.mapTurned w' gm) : Bx (· = gm) w w' := by
  have g := h.grown
  exact ⟨g.os, g.tape, g.output, g.size, fun b hb hne => g.block b hb (fun e => hne (by cases e; rfl))⟩
theorem MapAt.put {w : World} {gm n : Nat} {is is' : Nat → Bool} {f f' : Nat → Int} (h : MapAt w gm n is f) (hf : ∀ i, 0 ≤ f' i ∧ f' i < 256) (hn : n ≤ 65536) {s : Nat} (hs : s < n)
    (h1 : is' s = true) (ho : ∀ x, x ≠ s → is' x = is x) (hfo : ∀ x c, x ≠ s → c < 64 → f' (64 * x + c) = f (64 * x + c)) :
    ∃ w', (Instr.mapUpdate 61 (.map (some gm)) (.int .i64 (s : Int)) (.agg (secV f' s))).run Try.prog w = .ok () w' ∧ MapAt w' gm n is' f' ∧ Bx (· = gm) w w' := by
  obtain ⟨D, hw, hD⟩ := h
  have hc := Dsk.cnt_le is n
  obtain ⟨w', hrun, h2, h3⟩ := hw.store key14 Try.underlying61 (by rw [hD.size]; unfold maxLen; omega) (keyOf14 s (by omega)) (secElem_mk hf s)
  have hk : WideAt.IsKeyLit (.int .i64 (s : Int)) := trivial
  have hne : ∀ {x : Nat}, x ≠ s → (Lit.int .i64 (x : Int)) ≠ .int .i64 (s : Int) := fun hx e => hx (by simp only [Lit.int.injEq, true_and] at e; omega)
  have hM := hw.isMap
  refine ⟨w', hrun, ⟨_, ownsMap_tight h2, ⟨fun k => ?_, fun x hx hix z => ?_, ?_⟩⟩, turned_bx h3⟩
  · by_cases e : k = .int .i64 (s : Int)
    · subst e
      rw [has_put_same hM hk]
      exact ⟨fun _ => ⟨s, hs, h1, rfl⟩, fun _ => rfl⟩
    · rw [has_put_other e, hD.has]
      constructor
      · rintro ⟨x, hx, hi, rfl⟩
        exact ⟨x, hx, by rw [ho x (fun e' => e (by rw [e']))]; exact hi, rfl⟩
      · rintro ⟨x, hx, hi, rfl⟩
        exact ⟨x, hx, by rw [← ho x (fun e' => e (by rw [e']))]; exact hi, rfl⟩
  · by_cases e : x = s
    · subst e
      rw [atKey_put_same hM hk]
    · rw [atKey_put_other (hne e), hD.at_ x hx (by rw [← ho x e]; exact hix), secL_congr (fun c hc => hfo x c e hc)]
  · rw [size_put (hw.tidy key14), hD.hasb hs, hD.size, Dsk.cnt_set h1 ho hs]
theorem MapAt.del {w : World} {gm n : Nat} {is is' : Nat → Bool} {f : Nat → Int} (h : MapAt w gm n is f) (hn : n ≤ 65536) {s : Nat} (hs : s < n) (h1 : is' s = false) (ho : ∀ x, x ≠ s → is' x = is x) (ty : TypeId) :
    ∃ w', (Builtin.delete_ #[61, 3] ty #[.map (some gm), .int .i64 (s : Int)]).run Try.prog w = .ok (.tuple #[]) w' ∧ MapAt w' gm n is' f ∧ Bx (· = gm) w w' := by
  obtain ⟨D, hw, hD⟩ := h
  obtain ⟨w', hrun, h2, h3⟩ := hw.drop key14 Try.underlying61 (keyOf14 s (by omega)) ty
  have hne : ∀ {x : Nat}, x ≠ s → (Lit.int .i64 (x : Int)) ≠ .int .i64 (s : Int) := fun hx e => hx (by simp only [Lit.int.injEq, true_and] at e; omega)
  refine ⟨w', hrun, ⟨_, ownsMap_tight h2, ⟨fun k => ?_, fun x hx hix z => ?_, ?_⟩⟩, turned_bx h3⟩
  · by_cases e : k = .int .i64 (s : Int)
    · subst e
      rw [has_del_same]
      constructor
      · intro h; cases h
      · rintro ⟨x, hx, hi, e⟩
        have : x = s := by simp only [Lit.int.injEq, true_and] at e; omega
        subst this
        rw [h1] at hi; cases hi
    · rw [has_del_other e, hD.has]
      constructor
      · rintro ⟨x, hx, hi, rfl⟩
        exact ⟨x, hx, by rw [ho x (fun e' => e (by rw [e']))]; exact hi, rfl⟩
      · rintro ⟨x, hx, hi, rfl⟩
        exact ⟨x, hx, by rw [← ho x (fun e' => e (by rw [e']))]; exact hi, rfl⟩
  · have e : x ≠ s := fun e => by rw [e, h1] at hix; cases hix
    rw [atKey_del_other (hne e), hD.at_ x hx (by rw [← ho x e]; exact hix)]
  · have h4 := size_del (k := .int .i64 (s : Int)) (hw.tidy key14)
    rw [hD.hasb hs, hD.size] at h4
    have h5 := Dsk.cnt_del h1 ho hs
    omega
theorem MapAt.clear {w : World} {gm n : Nat} {is : Nat → Bool} {f : Nat → Int} (h : MapAt w gm n is f) (ty : TypeId) (f' : Nat → Int) :
    ∃ w', (Builtin.clear_ #[61] ty #[.map (some gm)]).run Try.prog w = .ok (.tuple #[]) w' ∧ MapAt w' gm n (fun _ => false) f' ∧ Bx (· = gm) w w' := by
  obtain ⟨D, ⟨es, clock, hb, F, hs, hD0⟩, hD⟩ := h
  refine ⟨setBlock w gm (.map #[] clock), ?_, ⟨.map [], ⟨#[], clock, heap_setBlock_same hb _, ⟨by simp, ?_, by simp⟩, Nat.le_refl _, rfl⟩, ⟨fun k => ⟨fun h => (by cases h), fun ⟨_, _, h, _⟩ => (by cases h)⟩, fun s _ h => (by cases h), (by rw [Dsk.cnt_none]; rfl)⟩⟩, ?_⟩
  · simp [Builtin.clear_, run_underlying Try.underlying61, MapKept.run_getObj_map hb, MapKept.run_setObj_map _ hb, setBlock, Result.andThen]
  · exact stamped_empty clock
  · exact ⟨rfl, rfl, rfl, by simp [setBlock], fun b _ hne => heap_setBlock_other hb _ (fun e => hne e)⟩

end Go.Proofs.Ytppknadflmjefaa
