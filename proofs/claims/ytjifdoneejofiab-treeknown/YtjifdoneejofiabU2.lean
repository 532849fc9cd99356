/- Items in memory. -/
import Derived.Test.YtjifdoneejofiabU1
import Derived.Laws.AppendOwnNone
namespace Go.Proofs.Ytjifdoneejofiab
open Go.RowKit Go.Deep
set_option linter.unusedVariables false
set_option linter.unusedSimpArgs false

namespace Tr
/-- a list of bytes as a row -/
def rowF (l : B) (i : Nat) : Int := ((l.getD i 0).toNat : Int)
theorem rowF_bd (l : B) (i : Nat) : 0 ≤ rowF l i ∧ rowF l i < 256 := by
  unfold rowF
  have := (l.getD i 0).toNat_lt
  omega
theorem rowF_at {l : B} {i : Nat} {c : UInt8} (h : l[i]? = some c) : rowF l i = (c.toNat : Int) := by
  unfold rowF; rw [List.getD_eq_getElem?_getD, h]; rfl
/-- the bytes of a row -/
def ofF (f : Nat → Int) (n : Nat) : B := (List.range n).map fun i => UInt8.ofNat (f i).toNat
theorem ofF_len (f : Nat → Int) (n : Nat) : (ofF f n).length = n := by unfold ofF; rw [List.length_map, List.length_range]
theorem rowF_ofF {f : Nat → Int} {n i : Nat} (hf : ∀ i, 0 ≤ f i ∧ f i < 256) (hi : i < n) : rowF (ofF f n) i = f i := by
  have h : (ofF f n)[i]? = some (UInt8.ofNat (f i).toNat) := by unfold ofF; rw [List.getElem?_map, List.getElem?_range hi]; rfl
  rw [rowF_at h, UInt8.toNat_ofNat']
  have := hf i
  omega
theorem rowF_ext {a b : B} (hl : a.length = b.length) (h : ∀ i, i < a.length → rowF a i = rowF b i) : a = b := by
  apply List.ext_getElem hl
  intro i h1 h2
  have e := h i h1
  rw [rowF_at (List.getElem?_eq_getElem h1), rowF_at (List.getElem?_eq_getElem h2)] at e
  exact UInt8.toNat_inj.1 (by omega)
/-- an item, and where its Body lies -/
structure Iv where
  it : It
  ad : Option Addr
  cp : Nat
/-- what a machine's items are -/
structure Fit (x : It) : Prop where
  kind : x.kind < 256
  mode : -9223372036854775808 ≤ x.mode ∧ x.mode ≤ 9223372036854775807
  time : -9223372036854775808 ≤ x.time ∧ x.time ≤ 9223372036854775807
  path : x.path.length ≤ 140737488351232
  body : x.body.length ≤ 140737488351232
  to : x.to.length ≤ 140737488351232
/-- an item's six values -/
def Iv.vals (y : Iv) : List Value := [.string (Nm.S y.it.path), .int .u8 (y.it.kind : Int), .int .i64 y.it.mode, .int .i64 y.it.time, .slice y.ad y.it.body.length y.cp, .string (Nm.S y.it.to)]
def cellsI : List Iv → List Value
  | [] => []
  | y :: l => y.vals ++ cellsI l
theorem cellsI_append : ∀ a b, cellsI (a ++ b) = cellsI a ++ cellsI b
  | [], b => rfl
  | p :: a, b => by simp only [List.cons_append, cellsI, cellsI_append a b, List.append_assoc]
theorem vals_len (y : Iv) : y.vals.length = 6 := rfl
theorem cellsI_len : ∀ a, (cellsI a).length = a.length * 6
  | [] => rfl
  | p :: a => by simp only [cellsI, List.length_append, vals_len, List.length_cons, cellsI_len a]; omega
theorem cellsI_get : ∀ (a : List Iv) (j : Nat) (y : Iv) (k : Nat), a[j]? = some y → k < 6 → (cellsI a)[j * 6 + k]? = y.vals[k]?
  | [], j, y, k, h, _ => by simp at h
  | q :: a, 0, y, k, h, hk => by
    simp at h; subst h
    unfold cellsI
    rw [Nat.zero_mul, Nat.zero_add, List.getElem?_append_left (by rw [vals_len]; exact hk)]
  | q :: a, j + 1, y, k, h, hk => by
    unfold cellsI
    rw [List.getElem?_append_right (by rw [vals_len]; omega), vals_len, show (j + 1) * 6 + k - 6 = j * 6 + k by omega]
    exact cellsI_get a j y k (by simpa using h) hk
theorem cellsI_at : ∀ (L : List Iv) (j : Nat) (u : Value), (cellsI L)[j]? = some u → ∃ y, L[j / 6]? = some y ∧ y.vals[j % 6]? = some u := by
  intro L j u hu
  have hj := (List.getElem?_eq_some_iff.1 hu).1
  rw [cellsI_len] at hj
  obtain ⟨y, hy⟩ : ∃ y, L[j / 6]? = some y := ⟨_, List.getElem?_eq_getElem (by omega)⟩
  refine ⟨y, hy, ?_⟩
  rw [← cellsI_get L (j / 6) y (j % 6) hy (by omega), show j / 6 * 6 + j % 6 = j by omega]
  exact hu
theorem vals_one (y : Iv) : ∀ u ∈ y.vals, u.oneCell' = true := by
  intro u hu
  simp only [Iv.vals, List.mem_cons, List.not_mem_nil, or_false] at hu
  rcases hu with rfl | rfl | rfl | rfl | rfl | rfl <;> rfl
theorem cellsI_one (L : List Iv) : ∀ u ∈ cellsI L, u.oneCell' = true := by
  intro u hu
  obtain ⟨j, hj⟩ := List.getElem?_of_mem hu
  obtain ⟨y, _, h⟩ := cellsI_at L j u hj
  exact vals_one y u (List.mem_of_getElem? h)
def its (L : List Iv) : List It := L.map (·.it)
theorem its_len (L : List Iv) : (its L).length = L.length := by unfold its; rw [List.length_map]
theorem its_at {L : List Iv} {i : Nat} {y : Iv} (h : L[i]? = some y) : (its L)[i]? = some y.it := by unfold its; rw [List.getElem?_map, h]; rfl
theorem its_of {L : List Iv} {i : Nat} {x : It} (h : (its L)[i]? = some x) : ∃ y, L[i]? = some y ∧ y.it = x := by
  unfold its at h; rw [List.getElem?_map] at h
  rcases hy : L[i]? with _ | y
  · rw [hy] at h; cases h
  · rw [hy] at h; exact ⟨y, rfl, Option.some.inj h⟩
theorem its_take (L : List Iv) (n : Nat) : its (L.take n) = (its L).take n := by unfold its; rw [List.map_take]
theorem its_drop (L : List Iv) (n : Nat) : its (L.drop n) = (its L).drop n := by unfold its; rw [List.map_drop]
theorem its_append (a b : List Iv) : its (a ++ b) = its a ++ its b := by unfold its; rw [List.map_append]
end Tr
/-- a Body in memory -/
structure BodyAt (w : World) (y : Tr.Iv) : Prop where
  row : RowAt w y.ad y.it.body.length (Tr.rowF y.it.body)
  le : y.it.body.length ≤ y.cp
  nil : y.ad = none → y.cp = 0
  fit : Tr.Fit y.it
theorem BodyAt.keep {w w' : World} {y : Tr.Iv} (h : BodyAt w y) (g : Bw w w') : BodyAt w' y := ⟨h.row.keep g, h.le, h.nil, h.fit⟩
/-- an item's cells -/
structure ItAt (w : World) (b o : Nat) (y : Tr.Iv) : Prop where
  c0 : w.cell? ⟨b, o, none⟩ = some (.string (Nm.S y.it.path))
  c1 : w.cell? ⟨b, o + 1, none⟩ = some (.int .u8 (y.it.kind : Int))
  c2 : w.cell? ⟨b, o + 2, none⟩ = some (.int .i64 y.it.mode)
  c3 : w.cell? ⟨b, o + 3, none⟩ = some (.int .i64 y.it.time)
  c4 : w.cell? ⟨b, o + 4, none⟩ = some (.slice y.ad y.it.body.length y.cp)
  c5 : w.cell? ⟨b, o + 5, none⟩ = some (.string (Nm.S y.it.to))
theorem ItAt.lt {w : World} {b o : Nat} {y : Tr.Iv} (h : ItAt w b o y) : b < w.heap.size := block_lt_of_cell h.c0
theorem ItAt.keep {w w' : World} {b o : Nat} {y : Tr.Iv} (h : ItAt w b o y) (g : Bw w w') : ItAt w' b o y := by
  have hb := h.lt
  have e : ∀ k, w'.cell? ⟨b, k, none⟩ = w.cell? ⟨b, k, none⟩ := fun k => g.cell (p := ⟨b, k, none⟩) hb
  exact ⟨(e _).trans h.c0, (e _).trans h.c1, (e _).trans h.c2, (e _).trans h.c3, (e _).trans h.c4, (e _).trans h.c5⟩
theorem ItAt.vals {w : World} {b o : Nat} {y : Tr.Iv} (h : ItAt w b o y) : ∀ k v, y.vals[k]? = some v → w.cell? ⟨b, o + k, none⟩ = some v
  | 0, v, e => by cases e; exact h.c0
  | 1, v, e => by cases e; exact h.c1
  | 2, v, e => by cases e; exact h.c2
  | 3, v, e => by cases e; exact h.c3
  | 4, v, e => by cases e; exact h.c4
  | 5, v, e => by cases e; exact h.c5
  | k + 6, v, e => by simp [Tr.Iv.vals] at e
theorem ItAt.of {w : World} {b o : Nat} {y : Tr.Iv} (h : ∀ k v, y.vals[k]? = some v → w.cell? ⟨b, o + k, none⟩ = some v) : ItAt w b o y :=
  ⟨h 0 _ rfl, h 1 _ rfl, h 2 _ rfl, h 3 _ rfl, h 4 _ rfl, h 5 _ rfl⟩
/-- a list of items in memory -/
structure ItsAt (w : World) (A : Option Addr) (L : List Tr.Iv) : Prop where
  at_ : L = [] ∨ ∃ b off, A = some ⟨b, off, none⟩ ∧ ∀ (i : Nat) (y : Tr.Iv), L[i]? = some y → ItAt w b (off + i * 6) y
  body : ∀ y ∈ L, BodyAt w y
theorem ItsAt.keep {w w' : World} {A : Option Addr} {L : List Tr.Iv} (h : ItsAt w A L) (g : Bw w w') : ItsAt w' A L := by
  refine ⟨?_, fun y hy => (h.body y hy).keep g⟩
  rcases h.at_ with h | ⟨b, off, h1, h2⟩
  · exact .inl h
  · exact .inr ⟨b, off, h1, fun i y hy => (h2 i y hy).keep g⟩
theorem ItsAt.at {w : World} {A : Option Addr} {L : List Tr.Iv} (h : ItsAt w A L) {i : Nat} {y : Tr.Iv} (hy : L[i]? = some y) : ∃ b off, A = some ⟨b, off, none⟩ ∧ ItAt w b (off + i * 6) y ∧ BodyAt w y := by
  rcases h.at_ with h0 | ⟨b, off, h1, h2⟩
  · rw [h0] at hy; simp at hy
  · exact ⟨b, off, h1, h2 i y hy, h.body y (List.mem_of_getElem? hy)⟩
theorem ItsAt.ats {w : World} {A : Option Addr} {L : List Tr.Iv} (h : ItsAt w A L) (hne : 0 < L.length) : ∃ b off, A = some ⟨b, off, none⟩ ∧ ∀ (i : Nat) (y : Tr.Iv), L[i]? = some y → ItAt w b (off + i * 6) y := by
  rcases h.at_ with h0 | h
  · rw [h0] at hne; simp at hne
  · exact h
theorem ItsAt.nil (w : World) (A : Option Addr) : ItsAt w A [] := ⟨.inl rfl, fun y hy => by simp at hy⟩
theorem ItsAt.take {w : World} {A : Option Addr} {L : List Tr.Iv} (h : ItsAt w A L) (n : Nat) : ItsAt w A (L.take n) := by
  refine ⟨?_, fun y hy => h.body y (List.mem_of_mem_take hy)⟩
  rcases h.at_ with h0 | ⟨b, off, h1, h2⟩
  · left; rw [h0, List.take_nil]
  · refine .inr ⟨b, off, h1, fun i y hy => h2 i y ?_⟩
    rw [List.getElem?_take] at hy
    split at hy
    · exact hy
    · cases hy
theorem ItsAt.drop {w : World} {b off : Nat} {L : List Tr.Iv} (h : ItsAt w (some ⟨b, off, none⟩) L) (n : Nat) : ItsAt w (some ⟨b, off + n * 6, none⟩) (L.drop n) := by
  refine ⟨?_, fun y hy => h.body y (List.mem_of_mem_drop hy)⟩
  rcases h.at_ with h0 | ⟨b', off', h1, h2⟩
  · left; rw [h0, List.drop_nil]
  · cases h1
    refine .inr ⟨b, off + n * 6, rfl, fun i y hy => ?_⟩
    rw [List.getElem?_drop] at hy
    have := h2 (n + i) y hy
    rwa [show off + n * 6 + i * 6 = off + (n + i) * 6 by omega]
theorem ItsAt.front {w : World} {A : Option Addr} {L M : List Tr.Iv} (h : ItsAt w A (L ++ M)) : ItsAt w A L := by
  have := h.take L.length
  rwa [List.take_left'] at this
  rfl
theorem its_news {w : World} {b o : Nat} {L : List Tr.Iv} (h : ItsAt w (some ⟨b, o, none⟩) L) : ∀ j u, (Tr.cellsI L)[j]? = some u → w.cell? ((⟨b, o, none⟩ : Addr).add j) = some u := by
  intro j u hu
  obtain ⟨y, hy, hv⟩ := Tr.cellsI_at L j u hu
  obtain ⟨b', o', e, hc, _⟩ := h.at hy
  cases e
  rw [Addr.add_lit, show o + j = o + j / 6 * 6 + j % 6 by omega]
  exact hc.vals _ _ hv
/-- the type's own facts -/
def Tr.zeros : Value := .agg #[.string ⟨#[]⟩, .int .u8 0, .int .i64 0, .int .i64 0, .slice none 0 0, .string ⟨#[]⟩]
theorem info_item : (Try.prog.info? 26).map (fun i => (i.zero, i.size, i.bytes)) = some (some Tr.zeros, 6, 80) := by kernel_rfl
/-- a list of items of the call's own lies in memory -/
theorem its_of_own {w : World} {base : Nat} {v : Value} {L : List Tr.Iv} (h : w.ownsRow base 26 6 v L.length (Tr.cellsI L)) (hB : ∀ y ∈ L, BodyAt w y) : ∃ A cap, v = .slice A L.length cap ∧ L.length ≤ cap ∧ ItsAt w A L ∧ (A = none → cap = 0 ∧ L = []) ∧ (∀ a, A = some a → a = ⟨a.block, 0, none⟩ ∧ base ≤ a.block) := by
  rcases h.2 with ⟨h0, h1⟩ | ⟨g, cap, cur, hv, hb, hg, h1, h2, h3, h4⟩
  · have : L = [] := List.eq_nil_of_length_eq_zero h1
    subst this
    exact ⟨none, 0, h0, Nat.le_refl _, ItsAt.nil _ _, fun _ => ⟨rfl, rfl⟩, fun a e => by cases e⟩
  · refine ⟨some ⟨g, 0, none⟩, cap, hv, h1, ⟨.inr ⟨g, 0, rfl, fun i p hp => ?_⟩, hB⟩, (fun e => by cases e), fun a e => by cases e; exact ⟨rfl, hb⟩⟩
    have hi := (List.getElem?_eq_some_iff.1 hp).1
    have e : ∀ j, j < L.length * 6 → cur[j]? = (Tr.cellsI L)[j]? := fun j hj => by
      rw [← h4, List.getElem?_take, if_pos hj, Array.getElem?_toList]
    refine ItAt.of fun k v hv => ?_
    have hk : k < 6 := (List.getElem?_eq_some_iff.1 hv).1
    rw [Nat.zero_add, cell_of_row w g _ cur _ _ hg, e _ (by omega), Tr.cellsI_get L i p k hp hk]
    exact hv
/-- a list of items in memory appended to one of the call's own -/
theorem wpList_append_its {P : Program} (w : World) {ops : Array Oper} {rest : List Oper} {o : Oper} {a : Act} {Q : Exit → Act → World → Prop} (hgd : o.guard = none) (s x : Operand) (t : TypeId)
    (ho : o.op = .call { callee := .builtin .append, args := #[s, x], argTypes := #[t, t] })
    (base : Nat) (e : TypeId) (i : TypeInfo) (z : Value) (bytes : Nat) (ht : P.underlying t = some (.slice e)) (hi : P.info? e = some i) (hz : i.zero = some z)
    (hsize : i.size = 6) (hby : i.bytes = bytes) (hzs : z.cells.size = 6)
    (v : Value) (n : Nat) (xs : List Value) (hs : a.eval s = v) (hown : w.ownsRow base e 6 v n xs)
    (A : Option Addr) (C : Nat) (L : List Tr.Iv) (m : Nat) (hm : L.length = m) (hx : a.eval x = .slice A m C) (hr : ItsAt w A L) (hC : A = none → m = 0 ∧ C = 0)
    (h63 : n + m ≤ maxLen) (hbytes : (n + m) * bytes ≤ 140737488355328) (hbase : base ≤ w.heap.size)
    (h : ∀ v' w', w'.ownsRow base e 6 v' (n + m) (xs ++ Tr.cellsI L) → w.grownBy w' v.ownBlock → wpList P ops Q rest (a.put o.dst v') w') : wpList P ops Q (o :: rest) a w := by
  cases A with
  | some ad =>
    have hnews : ∀ j u, (Tr.cellsI L)[j]? = some u → w.cell? (ad.add j) = some u := by
      rcases hr.at_ with h0 | ⟨b, off, e1, h2⟩
      · intro j u hu; rw [h0] at hu; simp [Tr.cellsI] at hu
      · cases e1; exact its_news hr
    exact wpList_append_own w hgd s x t ho base e i z 6 bytes ht hi hz hsize hby hzs (by decide) v n xs hs hown ad m C (Tr.cellsI L) hx (by rw [Tr.cellsI_len, hm]) hnews (Tr.cellsI_one L) h63 hbytes hbase (fun v' w' h1 h2 _ => h v' w' h1 h2)
  | none =>
    obtain ⟨rfl, rfl⟩ := hC rfl
    have hL : L = [] := List.eq_nil_of_length_eq_zero hm
    subst hL
    refine wpList_plain hgd fun K hK' => ?_
    have hrun := run_append_owned_none (P := P) w base t o.type e i 6 ht hi v n xs hown
    unfold Oper.wp
    simp [execOp, ho, resolve, invoke, builtin, hs, hx, hrun, Result.andThen]
    exact hK' _ _ (h v w (by simpa [Tr.cellsI] using hown) (World.grownBy.refl _ _))
end Go.Proofs.Ytjifdoneejofiab
