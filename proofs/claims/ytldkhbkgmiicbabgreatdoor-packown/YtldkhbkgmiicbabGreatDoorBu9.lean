/- Texts of mine, put together. -/
import Derived.Test.YtldkhbkgmiicbabGreatDoorBu8
import Derived.Laws.AppendOwnNone
import Derived.Deep.CutRange

/- Items in memory. -/
namespace Go.Proofs.YtldkhbkgmiicbabGreatDoor
open Go.RowKit Go.Deep
set_option linter.unusedVariables false
set_option linter.unusedSimpArgs false

namespace Tr
/-- a list of bytes as a row -/
def rowF (l : B) (i : Nat) : Int := ((l.getD i 0).toNat : Int)
theorem rowF_bd (l : B) (i : Nat) : 0 ≤ rowF l i ∧ rowF l i < 256 := by
  unfold rowF
  have := (l.getD i 0).toNat_lt
  omega
theorem rowF_at {l : B} {i : Nat} {c : UInt8} (h : l[i]? = some c) : rowF l i = (c.toNat : Int) := by
  unfold rowF; rw [List.getD_eq_getElem?_getD, h]; rfl
/-- the bytes of a row -/
def ofF (f : Nat → Int) (n : Nat) : B := (List.range n).map fun i => UInt8.ofNat (f i).toNat
theorem ofF_len (f : Nat → Int) (n : Nat) : (ofF f n).length = n := by unfold ofF; rw [List.length_map, List.length_range]
theorem rowF_ofF {f : Nat → Int} {n i : Nat} (hf : ∀ i, 0 ≤ f i ∧ f i < 256) (hi : i < n) : rowF (ofF f n) i = f i := by
  have h : (ofF f n)[i]? = some (UInt8.ofNat (f i).toNat) := by unfold ofF; rw [List.getElem?_map, List.getElem?_range hi]; rfl
  rw [rowF_at h, UInt8.toNat_ofNat']
  have := hf i
  omega
/-- an item, and where its Body lies -/
structure Iv where
  it : It
  ad : Option Addr
  cp : Nat
/-- what a machine's items are -/
structure Fit (x : It) : Prop where
  kind : x.kind < 256
  mode : -9223372036854775808 ≤ x.mode ∧ x.mode ≤ 9223372036854775807
  time : -9223372036854775808 ≤ x.time ∧ x.time ≤ 9223372036854775807
  path : x.path.length ≤ 140737488351232
  body : x.body.length ≤ 140737488351232
  «to» : x.to.length ≤ 140737488351232
/-- an item's six values -/
def Iv.vals (y : Iv) : List Value := [.string (Nm.S y.it.path), .int .u8 (y.it.kind : Int), .int .i64 y.it.mode, .int .i64 y.it.time, .slice y.ad y.it.body.length y.cp, .string (Nm.S y.it.to)]
def cellsI : List Iv → List Value
  | [] => []
  | y :: l => y.vals ++ cellsI l
theorem cellsI_append : ∀ a b, cellsI (a ++ b) = cellsI a ++ cellsI b
  | [], b => rfl
  | p :: a, b => by simp only [List.cons_append, cellsI, cellsI_append a b, List.append_assoc]
theorem vals_len (y : Iv) : y.vals.length = 6 := rfl
theorem cellsI_len : ∀ a, (cellsI a).length = a.length * 6
  | [] => rfl
  | p :: a => by simp only [cellsI, List.length_append, vals_len, List.length_cons, cellsI_len a]; omega
theorem cellsI_get : ∀ (a : List Iv) (j : Nat) (y : Iv) (k : Nat), a[j]? = some y → k < 6 → (cellsI a)[j * 6 + k]? = y.vals[k]?
  | [], j, y, k, h, _ => by simp at h
  | q :: a, 0, y, k, h, hk => by
    simp at h; subst h
    unfold cellsI
    rw [Nat.zero_mul, Nat.zero_add, List.getElem?_append_left (by rw [vals_len]; exact hk)]
  | q :: a, j + 1, y, k, h, hk => by
    unfold cellsI
    rw [List.getElem?_append_right (by rw [vals_len]; omega), vals_len, show (j + 1) * 6 + k - 6 = j * 6 + k by omega]
    exact cellsI_get a j y k (by simpa using h) hk
theorem cellsI_at : ∀ (L : List Iv) (j : Nat) (u : Value), (cellsI L)[j]? = some u → ∃ y, L[j / 6]? = some y ∧ y.vals[j % 6]? = some u := by
  intro L j u hu
  have hj := (List.getElem?_eq_some_iff.1 hu).1
  rw [cellsI_len] at hj
  obtain ⟨y, hy⟩ : ∃ y, L[j / 6]? = some y := ⟨_, List.getElem?_eq_getElem (by omega)⟩
  refine ⟨y, hy, ?_⟩
  rw [← cellsI_get L (j / 6) y (j % 6) hy (by omega), show j / 6 * 6 + j % 6 = j by omega]
  exact hu
theorem vals_one (y : Iv) : ∀ u ∈ y.vals, u.oneCell' = true := by
  intro u hu
  simp only [Iv.vals, List.mem_cons, List.not_mem_nil, or_false] at hu
  rcases hu with rfl | rfl | rfl | rfl | rfl | rfl <;> rfl
theorem cellsI_one (L : List Iv) : ∀ u ∈ cellsI L, u.oneCell' = true := by
  intro u hu
  obtain ⟨j, hj⟩ := List.getElem?_of_mem hu
  obtain ⟨y, _, h⟩ := cellsI_at L j u hj
  exact vals_one y u (List.mem_of_getElem? h)
def its (L : List Iv) : List It := L.map (·.it)
theorem its_len (L : List Iv) : (its L).length = L.length := by unfold its; rw [List.length_map]
theorem its_at {L : List Iv} {i : Nat} {y : Iv} (h : L[i]? = some y) : (its L)[i]? = some y.it := by unfold its; rw [List.getElem?_map, h]; rfl
theorem its_of {L : List Iv} {i : Nat} {x : It} (h : (its L)[i]? = some x) : ∃ y, L[i]? = some y ∧ y.it = x := by
  unfold its at h; rw [List.getElem?_map] at h
  rcases hy : L[i]? with _ | y
  · rw [hy] at h; cases h
  · rw [hy] at h; exact ⟨y, rfl, Option.some.inj h⟩
theorem its_take (L : List Iv) (n : Nat) : its (L.take n) = (its L).take n := by unfold its; rw [List.map_take]
theorem its_append (a b : List Iv) : its (a ++ b) = its a ++ its b := by unfold its; rw [List.map_append]
end Tr
/-- a Body in memory -/
structure BodyAt (w : World) (y : Tr.Iv) : Prop where
  row : RowAt w y.ad y.it.body.length (Tr.rowF y.it.body)
  le : y.it.body.length ≤ y.cp
  nil : y.ad = none → y.cp = 0
  fit : Tr.Fit y.it
theorem BodyAt.keep {w w' : World} {y : Tr.Iv} (h : BodyAt w y) (g : Bw w w') : BodyAt w' y := ⟨h.row.keep g, h.le, h.nil, h.fit⟩
/-- an item's cells -/
structure ItAt (w : World) (b o : Nat) (y : Tr.Iv) : Prop where
  c0 : w.cell? ⟨b, o, none⟩ = some (.string (Nm.S y.it.path))
  c1 : w.cell? ⟨b, o + 1, none⟩ = some (.int .u8 (y.it.kind : Int))
  c2 : w.cell? ⟨b, o + 2, none⟩ = some (.int .i64 y.it.mode)
  c3 : w.cell? ⟨b, o + 3, none⟩ = some (.int .i64 y.it.time)
  c4 : w.cell? ⟨b, o + 4, none⟩ = some (.slice y.ad y.it.body.length y.cp)
  c5 : w.cell? ⟨b, o + 5, none⟩ = some (.string (Nm.S y.it.to))
theorem ItAt.lt {w : World} {b o : Nat} {y : Tr.Iv} (h : ItAt w b o y) : b < w.heap.size := block_lt_of_cell h.c0
theorem ItAt.keep {w w' : World} {b o : Nat} {y : Tr.Iv} (h : ItAt w b o y) (g : Bw w w') : ItAt w' b o y := by
  have hb := h.lt
  have e : ∀ k, w'.cell? ⟨b, k, none⟩ = w.cell? ⟨b, k, none⟩ := fun k => g.cell (p := ⟨b, k, none⟩) hb
  exact ⟨(e _).trans h.c0, (e _).trans h.c1, (e _).trans h.c2, (e _).trans h.c3, (e _).trans h.c4, (e _).trans h.c5⟩
theorem ItAt.vals {w : World} {b o : Nat} {y : Tr.Iv} (h : ItAt w b o y) : ∀ k v, y.vals[k]? = some v → w.cell? ⟨b, o + k, none⟩ = some v
  | 0, v, e => by cases e; exact h.c0
  | 1, v, e => by cases e; exact h.c1
  | 2, v, e => by cases e; exact h.c2
  | 3, v, e => by cases e; exact h.c3
  | 4, v, e => by cases e; exact h.c4
  | 5, v, e => by cases e; exact h.c5
  | k + 6, v, e => by simp [Tr.Iv.vals] at e
theorem ItAt.of {w : World} {b o : Nat} {y : Tr.Iv} (h : ∀ k v, y.vals[k]? = some v → w.cell? ⟨b, o + k, none⟩ = some v) : ItAt w b o y :=
  ⟨h 0 _ rfl, h 1 _ rfl, h 2 _ rfl, h 3 _ rfl, h 4 _ rfl, h 5 _ rfl⟩
/-- a list of items in memory -/
structure ItsAt (w : World) (A : Option Addr) (L : List Tr.Iv) : Prop where
  at_ : L = [] ∨ ∃ b off, A = some ⟨b, off, none⟩ ∧ ∀ (i : Nat) (y : Tr.Iv), L[i]? = some y → ItAt w b (off + i * 6) y
  body : ∀ y ∈ L, BodyAt w y
theorem ItsAt.keep {w w' : World} {A : Option Addr} {L : List Tr.Iv} (h : ItsAt w A L) (g : Bw w w') : ItsAt w' A L := by
  refine ⟨?_, fun y hy => (h.body y hy).keep g⟩
  rcases h.at_ with h | ⟨b, off, h1, h2⟩
  · exact .inl h
  · exact .inr ⟨b, off, h1, fun i y hy => (h2 i y hy).keep g⟩
theorem ItsAt.at {w : World} {A : Option Addr} {L : List Tr.Iv} (h : ItsAt w A L) {i : Nat} {y : Tr.Iv} (hy : L[i]? = some y) : ∃ b off, A = some ⟨b, off, none⟩ ∧ ItAt w b (off + i * 6) y ∧ BodyAt w y := by
  rcases h.at_ with h0 | ⟨b, off, h1, h2⟩
  · rw [h0] at hy; simp at hy
  · exact ⟨b, off, h1, h2 i y hy, h.body y (List.mem_of_getElem? hy)⟩
theorem ItsAt.ats {w : World} {A : Option Addr} {L : List Tr.Iv} (h : ItsAt w A L) (hne : 0 < L.length) : ∃ b off, A = some ⟨b, off, none⟩ ∧ ∀ (i : Nat) (y : Tr.Iv), L[i]? = some y → ItAt w b (off + i * 6) y := by
  rcases h.at_ with h0 | h
  · rw [h0] at hne; simp at hne
  · exact h
theorem ItsAt.nil (w : World) (A : Option Addr) : ItsAt w A [] := ⟨.inl rfl, fun y hy => by simp at hy⟩
theorem ItsAt.take {w : World} {A : Option Addr} {L : List Tr.Iv} (h : ItsAt w A L) (n : Nat) : ItsAt w A (L.take n) := by
  refine ⟨?_, fun y hy => h.body y (List.mem_of_mem_take hy)⟩
  rcases h.at_ with h0 | ⟨b, off, h1, h2⟩
  · left; rw [h0, List.take_nil]
  · refine .inr ⟨b, off, h1, fun i y hy => h2 i y ?_⟩
    rw [List.getElem?_take] at hy
    split at hy
    · exact hy
    · cases hy
theorem ItsAt.drop {w : World} {b off : Nat} {L : List Tr.Iv} (h : ItsAt w (some ⟨b, off, none⟩) L) (n : Nat) : ItsAt w (some ⟨b, off + n * 6, none⟩) (L.drop n) := by
  refine ⟨?_, fun y hy => h.body y (List.mem_of_mem_drop hy)⟩
  rcases h.at_ with h0 | ⟨b', off', h1, h2⟩
  · left; rw [h0, List.drop_nil]
  · cases h1
    refine .inr ⟨b, off + n * 6, rfl, fun i y hy => ?_⟩
    rw [List.getElem?_drop] at hy
    have := h2 (n + i) y hy
    rwa [show off + n * 6 + i * 6 = off + (n + i) * 6 by omega]
theorem ItsAt.front {w : World} {A : Option Addr} {L M : List Tr.Iv} (h : ItsAt w A (L ++ M)) : ItsAt w A L := by
  have := h.take L.length
  rwa [List.take_left'] at this
  rfl
theorem its_news {w : World} {b o : Nat} {L : List Tr.Iv} (h : ItsAt w (some ⟨b, o, none⟩) L) : ∀ j u, (Tr.cellsI L)[j]? = some u → w.cell? ((⟨b, o, none⟩ : Addr).add j) = some u := by
  intro j u hu
  obtain ⟨y, hy, hv⟩ := Tr.cellsI_at L j u hu
  obtain ⟨b', o', e, hc, _⟩ := h.at hy
  cases e
  rw [Addr.add_lit, show o + j = o + j / 6 * 6 + j % 6 by omega]
  exact hc.vals _ _ hv
/-- the type's own facts -/
def Tr.zeros : Value := .agg #[.string ⟨#[]⟩, .int .u8 0, .int .i64 0, .int .i64 0, .slice none 0 0, .string ⟨#[]⟩]
theorem info_item : (Tryz.prog.info? 26).map (fun i => (i.zero, i.size, i.bytes)) = some (some Tr.zeros, 6, 80) := by kernel_rfl
/-- a list of items of the call's own lies in memory -/
theorem its_of_own {w : World} {base : Nat} {v : Value} {L : List Tr.Iv} (h : w.ownsRow base 26 6 v L.length (Tr.cellsI L)) (hB : ∀ y ∈ L, BodyAt w y) : ∃ A cap, v = .slice A L.length cap ∧ L.length ≤ cap ∧ ItsAt w A L ∧ (A = none → cap = 0 ∧ L = []) ∧ (∀ a, A = some a → a = ⟨a.block, 0, none⟩ ∧ base ≤ a.block) := by
  rcases h.2 with ⟨h0, h1⟩ | ⟨g, cap, cur, hv, hb, hg, h1, h2, h3, h4⟩
  · have : L = [] := List.eq_nil_of_length_eq_zero h1
    subst this
    exact ⟨none, 0, h0, Nat.le_refl _, ItsAt.nil _ _, fun _ => ⟨rfl, rfl⟩, fun a e => by cases e⟩
  · refine ⟨some ⟨g, 0, none⟩, cap, hv, h1, ⟨.inr ⟨g, 0, rfl, fun i p hp => ?_⟩, hB⟩, (fun e => by cases e), fun a e => by cases e; exact ⟨rfl, hb⟩⟩
    have hi := (List.getElem?_eq_some_iff.1 hp).1
    have e : ∀ j, j < L.length * 6 → cur[j]? = (Tr.cellsI L)[j]? := fun j hj => by
      rw [← h4, List.getElem?_take, if_pos hj, Array.getElem?_toList]
    refine ItAt.of fun k v hv => ?_
    have hk : k < 6 := (List.getElem?_eq_some_iff.1 hv).1
    rw [Nat.zero_add, cell_of_row w g _ cur _ _ hg, e _ (by omega), Tr.cellsI_get L i p k hp hk]
    exact hv
/-- a list of items in memory appended to one of the call's own -/
theorem wpList_append_its {P : Program} (w : World) {ops : Array Oper} {rest : List Oper} {o : Oper} {a : Act} {Q : Exit → Act → World → Prop} (hgd : o.guard = none) (s x : Operand) (t : TypeId)
    (ho : o.op = .call { callee := .builtin .append, args := #[s, x], argTypes := #[t, t] })
    (base : Nat) (e : TypeId) (i : TypeInfo) (z : Value) (bytes : Nat) (ht : P.underlying t = some (.slice e)) (hi : P.info? e = some i) (hz : i.zero = some z)
    (hsize : i.size = 6) (hby : i.bytes = bytes) (hzs : z.cells.size = 6)
    (v : Value) (n : Nat) (xs : List Value) (hs : a.eval s = v) (hown : w.ownsRow base e 6 v n xs)
    (A : Option Addr) (C : Nat) (L : List Tr.Iv) (m : Nat) (hm : L.length = m) (hx : a.eval x = .slice A m C) (hr : ItsAt w A L) (hC : A = none → m = 0 ∧ C = 0)
    (h63 : n + m ≤ maxLen) (hbytes : (n + m) * bytes ≤ 140737488355328) (hbase : base ≤ w.heap.size)
    (h : ∀ v' w', w'.ownsRow base e 6 v' (n + m) (xs ++ Tr.cellsI L) → w.grownBy w' v.ownBlock → wpList P ops Q rest (a.put o.dst v') w') : wpList P ops Q (o :: rest) a w := by
  cases A with
  | some ad =>
    have hnews : ∀ j u, (Tr.cellsI L)[j]? = some u → w.cell? (ad.add j) = some u := by
      rcases hr.at_ with h0 | ⟨b, off, e1, h2⟩
      · intro j u hu; rw [h0] at hu; simp [Tr.cellsI] at hu
      · cases e1; exact its_news hr
    exact wpList_append_own w hgd s x t ho base e i z 6 bytes ht hi hz hsize hby hzs (by decide) v n xs hs hown ad m C (Tr.cellsI L) hx (by rw [Tr.cellsI_len, hm]) hnews (Tr.cellsI_one L) h63 hbytes hbase (fun v' w' h1 h2 _ => h v' w' h1 h2)
  | none =>
    obtain ⟨rfl, rfl⟩ := hC rfl
    have hL : L = [] := List.eq_nil_of_length_eq_zero hm
    subst hL
    refine wpList_plain hgd fun K hK' => ?_
    have hrun := run_append_owned_none (P := P) w base t o.type e i 6 ht hi v n xs hown
    unfold Oper.wp
    simp [execOp, ho, resolve, invoke, builtin, hs, hx, hrun, Result.andThen]
    exact hK' _ _ (h v w (by simpa [Tr.cellsI] using hown) (World.grownBy.refl _ _))
end Go.Proofs.YtldkhbkgmiicbabGreatDoor

/- The document's own has, Find and Same, of layer 11. -/
namespace Go.Proofs.YtldkhbkgmiicbabGreatDoor
open Go.RowKit Go.Deep
set_option linter.unusedVariables false
set_option linter.unusedSimpArgs false

namespace Tr
/-- an item's value -/
def Iv.arr (y : Iv) : Array Value := #[.string (Nm.S y.it.path), .int .u8 (y.it.kind : Int), .int .i64 y.it.mode, .int .i64 y.it.time, .slice y.ad y.it.body.length y.cp, .string (Nm.S y.it.to)]
theorem arr_vals (y : Iv) : y.arr = y.vals.toArray := rfl
theorem arr_one (y : Iv) : y.arr.all (·.oneCell') = true := by
  rw [Array.all_eq_true_iff_forall_mem]
  intro x hx
  rw [arr_vals, List.mem_toArray] at hx
  exact vals_one y x hx
theorem str_S (l : B) : str (rowF l) l.length = Nm.S l := by
  have e : (str (rowF l) l.length).toList = l := by
    rw [ByteArray.toList_eq]
    show (strOfNums _).data.toList = _
    rw [strOfNums_data, List.map_map]
    apply List.ext_getElem
    · simp
    · intro i h1 h2
      simp only [List.getElem_map, List.getElem_range, Function.comp]
      rw [rowF_at (List.getElem?_eq_getElem h2)]
      simp
  rw [← Nm.S_toList (str _ _), e]
theorem S_eql (a b : B) : ((Nm.S a).toList == (Nm.S b).toList) = decide (a = b) := by
  rw [Nm.toList_S, Nm.toList_S]
  by_cases h : a = b
  · subst h; simp
  · rw [decide_eq_false h, beq_eq_false_iff_ne]; exact h
end Tr
theorem info_it (y : Tr.Iv) : (Tryz.prog.info? 26).map (·.size) = some y.arr.size := by
  have := info_item
  rcases h : Tryz.prog.info? 26 with _ | i
  · rw [h] at this; cases this
  · rw [h] at this
    simp only [Option.map_some, Option.some.injEq, Prod.mk.injEq] at this ⊢
    exact this.2.1
theorem run_loadIt {w : World} {b o : Nat} {y : Tr.Iv} (h : ItAt w b o y) : (loadVar 26 ⟨b, o, none⟩).run Tryz.prog w = .ok (.agg y.arr) w := by
  have hl : (loadCells ⟨b, o, none⟩ y.vals.length).run Tryz.prog w = .ok y.vals.toArray w :=
    run_loadCells_list (P := Tryz.prog) w ⟨b, o, none⟩ y.vals (fun j v hv => by rw [Addr.add_lit]; exact h.vals j v hv)
  have hu := Tryz.underlying26
  have hi := info_it y
  rcases hq : Tryz.prog.info? 26 with _ | i
  · rw [hq] at hi; cases hi
  · rw [hq] at hi
    have hs : i.size = y.vals.length := Option.some.inj hi
    have hagg : (isAgg 26).run Tryz.prog w = .ok true w := by
      unfold isAgg
      rw [Sem.run_bind, run_underlying hu w]
      rfl
    simp [loadVar, Sem.run_bind, hagg, sizeOf, typeInfo, hq, hs, hl, Tr.arr_vals]
theorem wpList_load_it {ops : Array Oper} {rest : List Oper} {o : Oper} {a : Act} {w : World} {Q : Exit → Act → World → Prop} (hgd : Region.wanted o (yielded ops a.tmps) = true) (x : Operand) (ho : o.op = .load 26 x)
    (b f : Nat) (hx : a.eval x = .pointer (some ⟨b, f, none⟩)) (y : Tr.Iv) (hy : ItAt w b f y)
    (h : wpList Tryz.prog ops Q rest (a.put o.dst (.agg y.arr)) w) : wpList Tryz.prog ops Q (o :: rest) a w :=
  wpList_step fun _ hK => by
    rw [if_pos hgd]
    unfold Oper.wp execOp
    simp only [ho, hx, Instr.loadAt, Instr.sureAddr, Sem.run_bind, Sem.run_pure, Result.andThen_ok, run_loadIt hy]
    exact hK _ _ h
/-- an item alone in a block -/
def BoxAt (w : World) (g : Nat) (y : Tr.Iv) : Prop := w.heap[g]? = some (.cells y.arr 26 (0, 0))
theorem BoxAt.keep {w w' : World} {g : Nat} {y : Tr.Iv} (a : BoxAt w g y) (b : Bw w w') : BoxAt w' g y := (b.block g (Array.getElem?_eq_some_iff.1 a).1).trans a
theorem BoxAt.new (w : World) (y : Tr.Iv) : BoxAt (w.alloc (.cells y.arr 26)) w.heap.size y := heap_alloc_new _ _
theorem BoxAt.it {w : World} {g : Nat} {y : Tr.Iv} (a : BoxAt w g y) : ItAt w g 0 y :=
  ItAt.of fun k v hv => by rw [Nat.zero_add, cell_of_row w g k _ _ _ a, Tr.arr_vals]; simpa using hv
theorem BoxAt.cells {w : World} {g : Nat} {y : Tr.Iv} (a : BoxAt w g y) : w.cell? ⟨g, 0, none⟩ = some (.string (Nm.S y.it.path)) ∧ w.cell? ⟨g, 1, none⟩ = some (.int .u8 (y.it.kind : Int)) ∧ w.cell? ⟨g, 2, none⟩ = some (.int .i64 y.it.mode) ∧ w.cell? ⟨g, 3, none⟩ = some (.int .i64 y.it.time) ∧ w.cell? ⟨g, 4, none⟩ = some (.slice y.ad y.it.body.length y.cp) ∧ w.cell? ⟨g, 5, none⟩ = some (.string (Nm.S y.it.to)) :=
  ⟨a.it.c0, by simpa using a.it.c1, by simpa using a.it.c2, by simpa using a.it.c3, by simpa using a.it.c4, by simpa using a.it.c5⟩
theorem put_none11 (a : Act) (v : Value) : a.put none v = a := rfl
theorem bw_alloc11 {w w' : World} (h : Bw w w') (o : Obj) : Bw w (w'.alloc o) := Below.alloc h h.size o
theorem conv_body {w : World} {y : Tr.Iv} (h : BodyAt w y) : (convert 24 9 (.slice y.ad y.it.body.length y.cp)).run Tryz.prog w = .ok (.string (Nm.S y.it.body)) w := by
  rw [← Tr.str_S]; exact conv_row h.row

end Go.Proofs.YtldkhbkgmiicbabGreatDoor

/- The document's own Same, of layer 11 (written by mku4.py). -/
namespace Go.Proofs.YtldkhbkgmiicbabGreatDoor
open Go.RowKit Go.Deep
set_option linter.unusedVariables false
set_option linter.unusedSimpArgs false

theorem Tr.it_ne {x y : Tr.It} (h : x ≠ y) : x.path ≠ y.path ∨ (x.path = y.path ∧ (x.kind ≠ y.kind ∨ (x.kind = y.kind ∧ (x.mode ≠ y.mode ∨ (x.mode = y.mode ∧ (x.time ≠ y.time ∨ (x.time = y.time ∧ (x.to ≠ y.to ∨ (x.to = y.to ∧ x.body ≠ y.body))))))))) := by
  by_cases h1 : x.path = y.path
  · by_cases h2 : x.kind = y.kind
    · by_cases h3 : x.mode = y.mode
      · by_cases h4 : x.time = y.time
        · by_cases h5 : x.to = y.to
          · by_cases h6 : x.body = y.body
            · exact absurd (Tr.it_ext h1 h2 h3 h4 h6 h5) h
            · exact .inr ⟨h1, .inr ⟨h2, .inr ⟨h3, .inr ⟨h4, .inr ⟨h5, h6⟩⟩⟩⟩⟩
          · exact .inr ⟨h1, .inr ⟨h2, .inr ⟨h3, .inr ⟨h4, .inl h5⟩⟩⟩⟩
        · exact .inr ⟨h1, .inr ⟨h2, .inr ⟨h3, .inl h4⟩⟩⟩
      · exact .inr ⟨h1, .inr ⟨h2, .inl h3⟩⟩
    · exact .inr ⟨h1, .inl h2⟩
  · exact .inl h1
theorem Tr.S_yes {a b : Tr.B} (h : a = b) : ((Nm.S a).toList == (Nm.S b).toList) = true := by rw [Tr.S_eql, decide_eq_true h]
theorem Tr.S_no {a b : Tr.B} (h : a ≠ b) : ((Nm.S a).toList == (Nm.S b).toList) = false := by rw [Tr.S_eql, decide_eq_false h]
theorem Tr.i_yes {a b : Int} (h : a = b) : (a != b) = false := by rw [h]; simp
theorem Tr.i_no {a b : Int} (h : a ≠ b) : (a != b) = true := by rw [bne_iff_ne]; exact h
theorem Tr.n_yes {a b : Nat} (h : a = b) : ((a : Int) != (b : Int)) = false := by rw [h]; simp
theorem Tr.n_no {a b : Nat} (h : a ≠ b) : ((a : Int) != (b : Int)) = true := by rw [bne_iff_ne]; omega
set_option maxRecDepth 100000 in
set_option maxHeartbeats 8000000 in
theorem rsame11_any (A B : Option Addr) (ca cb : Nat) (L M : List Tr.Iv) (hn : L.length ≤ 4611686018427387904) (hm : M.length ≤ 4611686018427387904) (w : World) (ha : ItsAt w A L) (hb : ItsAt w B M) :
    Calls Tryz.prog 27 #[.slice A L.length ca, .slice B M.length cb] w fun e w' => TellsN e (Tr.its L = Tr.its M) ∧ Bw w w' := by
  by_cases hl : L.length = M.length
  · obtain ⟨n, hnn⟩ : ∃ n, Hid (L.length = n) := ⟨_, rfl⟩
    have hmm : Hid (M.length = n) := by show _ = _; rw [← hl]; exact hnn.out
    rw [hnn.out] at hn ⊢
    rw [hmm.out]
    have HA : Hid (ItsAt w A L) := ha
    have HB : Hid (ItsAt w B M) := hb
    clear ha hb hl hm
    go_enter Tryz.func27, Tryz.ntmps27
    go_wp2
    go_loopw [5] (fun i wr => ∃ k' : Nat, k' ≤ n ∧ i = .int .i64 (k' : Int) ∧ Hid (∀ (j : Nat), j < k' → (Tr.its L)[j]? = (Tr.its M)[j]?) ∧ Bw w wr) (fun i _ => n - (intOf i).toNat)
    case atStart => exact ⟨0, Nat.zero_le _, rfl, fun j hj => absurd hj (Nat.not_lt_zero _), Bw.refl _⟩
    case round =>
      obtain ⟨i, hi, rfl, hno, hbw⟩ := hrel
      have i0 : (0 : Int) ≤ (i : Int) := Int.natCast_nonneg _
      by_cases hlt : i < n
      · have i1 : (i : Int) < (n : Int) := by omega
        obtain ⟨y, hy⟩ : ∃ y, Hid (L[i]? = some y) := ⟨_, List.getElem?_eq_getElem (by rw [hnn.out]; exact hlt)⟩
        obtain ⟨z, hz⟩ : ∃ z, Hid (M[i]? = some z) := ⟨_, List.getElem?_eq_getElem (by rw [hmm.out]; exact hlt)⟩
        obtain ⟨b, off, rfl, hY, hbY⟩ := (HA.out.keep hbw).at hy.out
        obtain ⟨b2, off2, rfl, hZ, hbZ⟩ := (HB.out.keep hbw).at hz.out
        have hBy : Hid (BodyAt wr y) := hbY
        have hBz : Hid (BodyAt wr z) := hbZ
        clear hbY hbZ
        go_upto_region 8 with (first
          | refine wpList_load_it (by rfl) (.tmp 21) rfl b (off + i * 6) rfl y hY ?_
          | (refine wpList_store_row rfl 26 _ _ rfl wr.heap.size y.arr rfl rfl 26 _ (heap_alloc_new _ _) (info_it y) rfl (Tr.arr_one y) ?_; rw [setRow_alloc_new]; obtain ⟨W1, hW1⟩ : ∃ V, V = wr.alloc (.cells y.arr 26) := ⟨_, rfl⟩; have hX1 : BoxAt W1 wr.heap.size y := (by rw [hW1]; exact BoxAt.new _ _); have hb1 : Bw wr W1 := (by rw [hW1]; exact bw_alloc11 (Bw.refl _) _); rw [← hW1]; clear hW1; have hZ1 := hZ.keep hb1)
          | refine wpList_load_it (by rfl) (.tmp 25) rfl b2 (off2 + i * 6) rfl z hZ1 ?_
          | (refine wpList_store_row rfl 26 _ _ rfl W1.heap.size z.arr rfl rfl 26 _ (heap_alloc_new _ _) (info_it z) rfl (Tr.arr_one z) ?_; rw [setRow_alloc_new]; obtain ⟨W2, hW2⟩ : ∃ V, V = W1.alloc (.cells z.arr 26) := ⟨_, rfl⟩; have hX2 : BoxAt W2 W1.heap.size z := (by rw [hW2]; exact BoxAt.new _ _); have hb2 : Bw W1 W2 := (by rw [hW2]; exact bw_alloc11 (Bw.refl _) _); rw [← hW2]; clear hW2; obtain ⟨x0, x1, x2, x3, x4, x5⟩ := (hX1.keep hb2).cells; obtain ⟨z0, z1, z2, z3, z4, z5⟩ := hX2.cells; have cvx := conv_body (hBy.out.keep (hb1.trans hb2)); have cvz := conv_body (hBz.out.keep (hb1.trans hb2)); have hb12 := (hbw.trans hb1).trans hb2; clear hX1 hX2 hZ1 hb1 hb2))
        rw [put_none11]
        go_cut [68] from 27 to 68 (fun v wc => ∃ D : Bool, v = .bool D ∧ (D = false ↔ y.it = z.it) ∧ wc = W2)
        case first =>
          by_cases heq : y.it = z.it
          · have HEQ : Hid (y.it = z.it) := heq
            have e0 := Tr.S_yes (show y.it.path = z.it.path from by rw [heq])
            have e1 := Tr.n_yes (show y.it.kind = z.it.kind from by rw [heq])
            have e2 := Tr.i_yes (show y.it.mode = z.it.mode from by rw [heq])
            have e3 := Tr.i_yes (show y.it.time = z.it.time from by rw [heq])
            have e4 := Tr.S_yes (show y.it.to = z.it.to from by rw [heq])
            have e5 := Tr.S_yes (show y.it.body = z.it.body from by rw [heq])
            clear heq
            go_wp2_with fail
            go_meet
            case rel => exact ⟨false, rfl, ⟨fun _ => HEQ.out, fun _ => rfl⟩, rfl⟩
          · have HNE : Hid (y.it ≠ z.it) := heq
            have h := Tr.it_ne heq
            clear heq
            rcases h with h | ⟨g0, h⟩
            · have e0 := Tr.S_no (show y.it.path ≠ z.it.path from h)
              clear h
              go_wp2_with fail
              go_meet
              case rel => exact ⟨true, rfl, ⟨fun e => (by cases e), fun e => absurd e HNE.out⟩, rfl⟩
            have e0 := Tr.S_yes (show y.it.path = z.it.path from g0)
            clear g0
            rcases h with h | ⟨g1, h⟩
            · have e1 := Tr.n_no (show y.it.kind ≠ z.it.kind from h)
              clear h
              go_wp2_with fail
              go_meet
              case rel => exact ⟨true, rfl, ⟨fun e => (by cases e), fun e => absurd e HNE.out⟩, rfl⟩
            have e1 := Tr.n_yes (show y.it.kind = z.it.kind from g1)
            clear g1
            rcases h with h | ⟨g2, h⟩
            · have e2 := Tr.i_no (show y.it.mode ≠ z.it.mode from h)
              clear h
              go_wp2_with fail
              go_meet
              case rel => exact ⟨true, rfl, ⟨fun e => (by cases e), fun e => absurd e HNE.out⟩, rfl⟩
            have e2 := Tr.i_yes (show y.it.mode = z.it.mode from g2)
            clear g2
            rcases h with h | ⟨g3, h⟩
            · have e3 := Tr.i_no (show y.it.time ≠ z.it.time from h)
              clear h
              go_wp2_with fail
              go_meet
              case rel => exact ⟨true, rfl, ⟨fun e => (by cases e), fun e => absurd e HNE.out⟩, rfl⟩
            have e3 := Tr.i_yes (show y.it.time = z.it.time from g3)
            clear g3
            rcases h with h | ⟨g4, h⟩
            · have e4 := Tr.S_no (show y.it.to ≠ z.it.to from h)
              clear h
              go_wp2_with fail
              go_meet
              case rel => exact ⟨true, rfl, ⟨fun e => (by cases e), fun e => absurd e HNE.out⟩, rfl⟩
            have e4 := Tr.S_yes (show y.it.to = z.it.to from g4)
            clear g4
            have e5 := Tr.S_no (show y.it.body ≠ z.it.body from h)
            clear h
            go_wp2_with fail
            go_meet
            case rel => exact ⟨true, rfl, ⟨fun e => (by cases e), fun e => absurd e HNE.out⟩, rfl⟩
        case rest =>
          obtain ⟨D, rfl, hD, rfl⟩ := hcut
          cases D with
          | false =>
            have heq := hD.1 rfl
            have nx : Hid (∀ (j : Nat), j < i + 1 → (Tr.its L)[j]? = (Tr.its M)[j]?) := fun j hj => by
              rcases Nat.lt_or_ge j i with h | h
              · exact hno.out j h
              · rw [show j = i by omega, Tr.its_at hy.out, Tr.its_at hz.out, heq]
            clear heq hD
            go_wp2
            go_roundw
            case rel => exact ⟨i + 1, by omega, by go_num, nx, hb12⟩
            case measure => simp [intOf]; omega
          | true =>
            have HNE : Hid (Tr.its L ≠ Tr.its M) := fun e => by
              have h1 := Tr.its_at hy.out
              rw [e, Tr.its_at hz.out, Option.some.injEq] at h1
              exact absurd (hD.2 h1.symm) (by decide)
            clear hD
            go_wp2
            go_ret
            exact ⟨TellsN.no HNE.out, hb12⟩
      · have ei : i = n := by omega
        subst ei
        have HEQ : Hid (Tr.its L = Tr.its M) := by
          apply List.ext_getElem?
          intro j
          rcases Nat.lt_or_ge j i with h | h
          · exact hno.out j h
          · rw [List.getElem?_eq_none (by rw [Tr.its_len, hnn.out]; exact h), List.getElem?_eq_none (by rw [Tr.its_len, hmm.out]; exact h)]
        go_wp2
        go_ret
        exact ⟨TellsN.yes HEQ.out, hbw⟩
  · have HNE : Hid (Tr.its L ≠ Tr.its M) := fun e => by
      have := congrArg List.length e
      rw [Tr.its_len, Tr.its_len] at this
      exact hl this
    have e1 : ((L.length : Int) != (M.length : Int)) = true := by rw [bne_iff_ne]; omega
    clear hl ha hb
    generalize L.length = n at *
    generalize M.length = m at *
    go_enter Tryz.func27, Tryz.ntmps27
    go_wp2
    go_ret
    exact ⟨TellsN.no HNE.out, Bw.refl _⟩
end Go.Proofs.YtldkhbkgmiicbabGreatDoor

/- The document's own link and May, of layer 11 (written by mku5.py). -/
namespace Go.Proofs.YtldkhbkgmiicbabGreatDoor
open Go.RowKit Go.Deep
set_option linter.unusedVariables false
set_option linter.unusedSimpArgs false

/-- a link's kind -/
def Tr.lnk (k : Nat) : Bool := decide (k = 3 ∨ k = 4)
namespace Tr
/-- the four tests -/
def tK (x : It) : Bool := decide (x.kind < 1 ∨ 4 < x.kind)
def tT (x : It) : Bool := decide (x.time < 0 ∨ 1099511627776 < x.time ∨ (x.kind = 3 ∧ x.time ≠ 0))
def tM (x : It) : Bool := decide (x.mode < 0 ∨ 4095 < x.mode ∨ ((x.kind = 3 ∨ x.kind = 4) ∧ x.mode ≠ 0))
def tI (x : It) : Bool := decide ((0 < x.body.length ∧ x.kind ≠ 1) ∨ (x.to ≠ [] ∧ ¬ (x.kind = 3 ∨ x.kind = 4)))
end Tr
end Go.Proofs.YtldkhbkgmiicbabGreatDoor
