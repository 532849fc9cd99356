/- Texts of mine, put together. -/
import Derived.Test.YtldkhbkgmiicbaaGreatDoorBu47

/- The frame for what is done to a writer: a list of acts, each a number and an item. -/
namespace Go.Proofs.YtldkhbkgmiicbaaGreatDoor
open Go.ChangeShapes Go.WideShapes Go.RowKit Go.Deep Go.Joins
set_option linter.unusedVariables false
set_option linter.unusedSimpArgs false

/-- an act's values -/
def vals12 (x : Int × Tr.Iv) : List Value := .int .i64 x.1 :: x.2.vals
/-- a list of acts that came in -/
structure InActs12 (w : World) (A : Option Addr) (n cap : Nat) (X : Nat → Int × Tr.Iv) : Prop where
  at_ : n = 0 ∨ ∃ b off, A = some ⟨b, off, none⟩ ∧ ∀ i, i < n → ∀ k v, (vals12 (X i))[k]? = some v → w.cell? ⟨b, off + i * 7 + k, none⟩ = some v
  acts : ∀ i, i < n → BodyAt w (X i).2 ∧ (-9223372036854775808 ≤ (X i).1 ∧ (X i).1 ≤ 9223372036854775807)
  le : n ≤ cap
  room : cap ≤ 140737488351232
theorem InActs12.keep {w w' : World} {A : Option Addr} {n cap : Nat} {X : Nat → Int × Tr.Iv} (h : InActs12 w A n cap X) (k : Bw w w') : InActs12 w' A n cap X := by
  refine ⟨?_, fun i hi => ⟨(h.acts i hi).1.keep k, (h.acts i hi).2⟩, h.le, h.room⟩
  rcases h.at_ with h0 | ⟨b, off, e, hc⟩
  · exact .inl h0
  · exact .inr ⟨b, off, e, fun i hi j v hv => by
      have := hc i hi j v hv
      rw [k.cell (p := ⟨b, off + i * 7 + j, none⟩) (World.block_lt_of_cell? w _ this)]
      exact this⟩
def no12 : Int × Tr.Iv := (0, ⟨⟨[], 0, 0, 0, [], []⟩, none, 0⟩)
set_option maxRecDepth 100000 in
/-- seven values that are read as an act are one -/
theorem act12_of {H : Type} {enc : TypeId × Value → H} {W : World} {m : Nat} {v0 v1 v2 v3 v4 v5 v6 : Value} {y0 y1 : DataW H × List MemPlace}
    (g0 : DataW.trod enc Tryz.prog W 0 (fun _ => true) true m 3 [v0] = some y0) (g1 : DataW.trod enc Tryz.prog W 0 (fun _ => true) true m 47 [v1, v2, v3, v4, v5, v6] = some y1)
    (hw : ∀ u, u ∈ (DataW.agg [y0.1, y1.1]).weights Tryz.prog 49 → u ≤ reachBytes) : ∃ x : Int × Tr.Iv, [v0, v1, v2, v3, v4, v5, v6] = vals12 x ∧ BodyAt W x.2 ∧ (-9223372036854775808 ≤ x.1 ∧ x.1 ≤ 9223372036854775807) := by
  have hwe : ∀ u, u ∈ DataW.weightsEach Tryz.prog [3, 47] [y0.1, y1.1] → u ≤ reachBytes := fun u hu => hw u (by
    simp only [DataW.weights, Tryz.underlying49]
    exact hu)
  obtain ⟨z0, e0, x0, k0⟩ := DataW.trod_int Tryz.underlying3 g0
  simp only [List.cons.injEq, and_true] at e0
  subst e0
  obtain ⟨d1, p1⟩ := y1
  obtain ⟨xs, n', _, hdp, hl', hlen', hx⟩ := DataW.trod_struct Tryz.underlying47 g1
  rw [Prod.mk.injEq] at hdp
  obtain ⟨rfl, rfl⟩ := hdp
  have b0 := bounds_i64 k0
  match xs, hlen' with
  | [x0, x1, x2, x3, x4, x5], _ =>
    have cS : Tryz.prog.cellsOf 9 = 1 := by kernel_rfl
    have cK : Tryz.prog.cellsOf 45 = 1 := by kernel_rfl
    have cI : Tryz.prog.cellsOf 3 = 1 := by kernel_rfl
    have cU : Tryz.prog.cellsOf 24 = 1 := by kernel_rfl
    have h0 := hx 0 _ rfl
    have h1 := hx 1 _ rfl
    have h2 := hx 2 _ rfl
    have h3 := hx 3 _ rfl
    have h4 := hx 4 _ rfl
    have h5 := hx 5 _ rfl
    simp [cS, cI, cU, cK] at h0 h1 h2 h3 h4 h5
    obtain ⟨y, hy, hb⟩ := item_of h0 h1 h2 h3 h4 h5 (fun u hu => hwe u (DataW.weights_mem_each (j := 1) (t := 47) rfl rfl u hu))
    exact ⟨(z0, y), by unfold vals12; rw [hy], hb, b0.1, by have := b0.2; dsimp only; omega⟩
set_option maxRecDepth 100000 in
theorem open_acts12 {H : Type} {enc : TypeId × Value → H} {W : World} {A : Option Addr} {n cap : Nat} {d : DataW H} {p : List MemPlace}
    (h : DataW.Trod enc Tryz.prog W 0 (fun _ => true) true 39 (.slice A n cap) d p) (hw : ∀ x ∈ d.weights Tryz.prog 39, x ≤ reachBytes) : ∃ X, InActs12 W A n cap X := by
  obtain ⟨fuel, hf⟩ := h
  rcases open_slice Tryz.underlying39 hf with ⟨hcs, _⟩ | ⟨a, l, c, m, q, D, Pl, hcs, _, hl, hm, hmm, hd, hcell⟩
  · simp [Value.cells] at hcs
    obtain ⟨rfl, rfl, rfl⟩ := hcs
    exact ⟨fun _ => no12, .inl rfl, fun i hi => by omega, Nat.le_refl _, by decide⟩
  · simp [Value.cells] at hcs
    obtain ⟨rfl, rfl, rfl⟩ := hcs
    simp only [if_true] at hmm
    obtain rfl := hmm.symm
    simp only [Prod.mk.injEq] at hd
    obtain ⟨rfl, _⟩ := hd
    have hb2 : Tryz.prog.bytesOf 49 = 88 := by kernel_rfl
    have hcap : cap * 88 ≤ 140737488351232 := by
      have := hw ((n + (cap - n)) * 88) (by
        simp only [DataW.weights, Tryz.underlying39, hb2, List.length_map, List.length_range]
        exact List.mem_cons_self)
      simp only [reachBytes] at this
      omega
    have hel : ∀ i, i < n → ∃ y : Int × Tr.Iv, (∀ k v, (vals12 y)[k]? = some v → W.cell? ((a.add (i * 7)).add k) = some v) ∧ BodyAt W y.2 ∧ (-9223372036854775808 ≤ y.1 ∧ y.1 ≤ 9223372036854775807) := fun i hi => by
      obtain ⟨cs', h1, h2⟩ := hcell i (by omega)
      rw [show Tryz.prog.cellsOf 49 = 7 by kernel_rfl] at h1
      obtain ⟨_, hlen, hc⟩ := World.cells?_some h1
      obtain ⟨xs, n', _, hdp, hl', hlen', hx⟩ := DataW.trod_struct Tryz.underlying49 h2
      rw [Prod.mk.injEq] at hdp
      have hwi : ∀ u, u ∈ (D i).weights Tryz.prog 49 → u ≤ reachBytes := fun u hu => hw u (by
        simp only [DataW.weights, Tryz.underlying39]
        refine List.mem_cons.2 (Or.inr (List.mem_append.2 (Or.inl ?_)))
        exact weights_in11 _ _ (D i) (List.mem_map.2 ⟨i, List.mem_range.2 hi, rfl⟩) _ hu)
      match xs, hlen', cs', hlen with
      | [x0, x1], _, [v0, v1, v2, v3, v4, v5, v6], _ =>
        have cI : Tryz.prog.cellsOf 3 = 1 := by kernel_rfl
        have cT : Tryz.prog.cellsOf 47 = 6 := by kernel_rfl
        have h0 := hx 0 _ rfl
        have h1 := hx 1 _ rfl
        simp [cI, cT] at h0 h1
        obtain ⟨y, hy, hb⟩ := act12_of h0 h1 (fun u hu => hwi u (by rw [hdp.1]; exact hu))
        refine ⟨y, fun k v hv => ?_, hb⟩
        rw [← hy] at hv
        have hk := (List.getElem?_eq_some_iff.1 hv).1
        have := hc k (by simpa using hk)
        rw [this]; simpa using hv
    refine ⟨fun i => if h : i < n then (hel i h).choose else no12, ?_, fun i hi => ?_, hl, by omega⟩
    · rcases Nat.eq_zero_or_pos n with h0 | h0
      · exact .inl h0
      · obtain ⟨b, off, spot⟩ := a
        have hspot : spot = none := by
          obtain ⟨y, hc, -⟩ := hel 0 h0
          have := hc 0 _ rfl
          simpa [Addr.add] using World.cell?_spot this
        subst hspot
        refine Or.inr ⟨b, off, rfl, fun i hi k v hv => ?_⟩
        simp only [dif_pos hi] at hv
        have := (hel i hi).choose_spec.1 k v hv
        rwa [Addr.add_lit, Addr.add_lit] at this
    · simp only [dif_pos hi]
      exact (hel i hi).choose_spec.2
end Go.Proofs.YtldkhbkgmiicbaaGreatDoor

/- Layer 12: what is done to a writer and to the document's own, act by act. -/
namespace Go.Proofs.YtldkhbkgmiicbaaGreatDoor
open Go.RowKit Go.Deep
set_option linter.unusedVariables false
set_option linter.unusedSimpArgs false

theorem wpList_build_itw {ops : Array Oper} {rest : List Oper} {o : Oper} {a : Act} {w : World} {Q : Exit → Act → World → Prop} (hgd : Region.wanted o (yielded ops a.tmps) = true) (x : Operand) (ho : o.op = .buildSlice 22 1 #[(0, x)])
    (y : Tr.Iv) (hx : a.eval x = .agg y.arr)
    (h : wpList Tryz.prog ops Q rest (a.put o.dst (.slice (some ⟨w.heap.size, 0, none⟩) 1 1)) (w.alloc (.cells y.arr 47))) : wpList Tryz.prog ops Q (o :: rest) a w :=
  wpList_step fun K hK => by
    rw [if_pos hgd]
    obtain ⟨i0, hi0, hz0, hz1, hz2⟩ := info_parts info_item
    refine wp_buildSlice 22 47 1 _ ho y.arr i0 _ Tryz.underlying22 hi0 hz0 (by rw [hz1]; omega) (by rw [hz1]; omega) ?_ (hK _ _ h)
    rw [hz1]
    simp only [Array.toList_map, List.map_cons, List.map_nil, hx]
    kernel_rfl
theorem built_rw12 : Tryz.prog.built 44 [] = some #[.slice none 0 0, .bool false] := by kernel_rfl
theorem own_bx7 {S : Nat → Prop} {w w' : World} {g n : Nat} {f : Nat → Int} (h : Own w g n f) (k : Bx S w w') (hg : ¬ S g) : Own w' g n f := by
  obtain ⟨cur, h1, h2⟩ := h
  exact ⟨cur, (k.block g (Array.getElem?_eq_some_iff.1 h1).1 hg).trans h1, h2⟩
theorem MarkAt.keepx {S : Nat → Prop} {w w' : World} {y : Tr.Iv} (h : MarkAt w y) (k : Bx S w w') (hM : ∀ b o, y.ad = some ⟨b, o, none⟩ → ¬ S b) : MarkAt w' y := by
  obtain ⟨gb, h1, h2, h3⟩ := h
  exact ⟨gb, h1, own_bx7 h2 k (hM gb 0 h1), h3⟩
theorem LentAt.keepx {S : Nat → Prop} {w w' : World} {g c : Nat} {M : List Tr.Iv} (h : LentAt w g c M) (k : Bx S w w') (hg : ¬ S g) (hM : ∀ y ∈ M, ∀ b o, y.ad = some ⟨b, o, none⟩ → ¬ S b) : LentAt w' g c M := by
  refine ⟨its_bx12 h.its k (fun b o e => by cases e; exact hg) (fun y hy b o e _ => hM y hy b o e), fun y hy => (h.marks y hy).keepx k (hM y hy), h.room, ?_⟩
  rw [World.cell?_of_block (a := ⟨g, M.length * 6, none⟩) (k.block g (World.block_lt_of_cell? w _ h.mark) hg)]
  exact h.mark
/-- an item of the acts -/
theorem acts12_at {w : World} {A : Option Addr} {n cap : Nat} {X : Nat → Int × Tr.Iv} (h : InActs12 w A n cap X) {i : Nat} (hi : i < n) : ∃ b off, A = some ⟨b, off, none⟩ ∧ ∀ W, Bw w W → ItAt W b (off + i * 7 + 1) (X i).2 ∧ W.cell? ⟨b, off + i * 7, none⟩ = some (.int .i64 (X i).1) ∧ BodyAt W (X i).2 := by
  rcases h.at_ with h0 | ⟨b, off, e, hc⟩
  · omega
  · refine ⟨b, off, e, fun W k => ?_⟩
    have h2 := h.keep k
    rcases h2.at_ with h0 | ⟨b', off', e', hc'⟩
    · omega
    rw [e] at e'
    cases e'
    refine ⟨ItAt.of fun j v hv => ?_, ?_, (h2.acts i hi).1⟩
    · have := hc' i hi (j + 1) v hv
      rw [show off + i * 7 + 1 + j = off + i * 7 + (j + 1) by omega]
      exact this
    · exact hc' i hi 0 _ rfl
/-- bytes that came in lie in a block that was there -/
theorem body_low12 {w : World} {y : Tr.Iv} (h : BodyAt w y) : ∀ b o, y.ad = some ⟨b, o, none⟩ → 0 < y.it.body.length → b < w.heap.size := fun b o e h0 => by
  rcases h.row.1 with h1 | ⟨b', o', e', hc⟩
  · omega
  · rw [e] at e'
    cases e'
    exact World.block_lt_of_cell? w _ (hc 0 h0)
/-- one item that was lent -/
theorem one_of12 {M : List Tr.Iv} {x : Tr.It} (h : Tr.its M = [x]) : ∃ y', M = [y'] ∧ y'.it = x := by
  match M, h with
  | [y'], h => exact ⟨y', rfl, by simpa [Tr.its] using h⟩
/-- what stands behind an Add to both -/
structure Act2 (base : Nat) (pv px : Value) (w : World) (lo : Nat) (u : World) (g1 c1 : Nat) (y' : Tr.Iv) (u2 : World) : Prop where
  bw : Bw w u2
  lent : LentAt u2 g1 c1 [y']
  st : Stt base pv px (fun b => (base ≤ b ∧ b < lo) ∨ u.heap.size ≤ b) u2
theorem Act2.keep {base : Nat} {pv px : Value} {w : World} {lo : Nat} {u : World} {g1 c1 : Nat} {y' : Tr.Iv} {u2 u3 : World} (h : Act2 base pv px w lo u g1 c1 y' u2) (k : Bw u2 u3) : Act2 base pv px w lo u g1 c1 y' u3 := ⟨h.bw.trans k, h.lent.keep k, h.st.keep k⟩
theorem act_add {base : Nat} {pv px : Value} {B : Nat → Prop} {w wr u : World} (hS : Stt base pv px B wr) (hb : w.heap.size = base) (k0 : Bw w wr) (hk : KTAt w) (y y' : Tr.Iv) (hy : BodyAt w y) (k : Bw wr u) {g1 c1 : Nat} (hl : LentAt u g1 c1 [y']) (he : y'.it = y.it) (hg1 : wr.heap.size ≤ g1) (hf : ∀ b o, y'.ad = some ⟨b, o, none⟩ → wr.heap.size ≤ b) :
    ∃ E : Int, Hid (Calls Tryz.prog 16 #[pv, .agg y'.arr] u fun e u1 => e = .returned (.int .i64 E) ∧ Bw w u1 ∧
      Hid (∀ u1', Bw u1 u1' → Calls Tryz.prog 17 #[px, .agg y.arr] u1' fun e u2 => e = .returned (.int .i64 E) ∧ Hid (Act2 base pv px w wr.heap.size u g1 c1 y' u2))) := by
  have hkw : Bw w u := k0.trans k
  have hbase : base ≤ wr.heap.size := by rw [← hb]; exact k0.size
  have hm := hl.marks y' (List.mem_singleton.2 rfl)
  obtain ⟨gb, had, hown, _⟩ := hm
  obtain ⟨E, hA⟩ := adds_any hS k hbase (fun W kk => hk.keep (by subst hb; exact Below.trans hkw kk)) y y' (hy.keep hkw) (fun b o e h0 => by rw [← hb]; exact body_low12 hy b o e h0) (hl.marks y' (List.mem_singleton.2 rfl)).body (fun b o e => ⟨hf b o e, by rw [had] at e; cases e; exact hown.lt⟩) he
  refine ⟨E, hA.mono fun e u1 ⟨h1, h2, h3⟩ => ⟨h1, bw_of_bx12 hb hkw h2.out (fun b e => e.1), show ∀ _, _ from fun u1' k1 => (h3.out u1' k1).mono fun e u2 ⟨q1, q2, q3⟩ => ⟨q1, show Act2 _ _ _ _ _ _ _ _ _ _ from ?_⟩⟩⟩
  have x2 : Bx (fun b => base ≤ b ∧ b < wr.heap.size) u u2 := (h2.out.trans (Bx.of_bw k1)).trans q2.out
  exact ⟨bw_of_bx12 hb hkw x2 (fun b e => e.1), hl.keepx x2 (fun e => by omega) (fun z hz b o e hs => by rw [List.mem_singleton.1 hz] at e; have := hf b o e; omega), q3.out⟩
/-- a byte of what was lent is written over -/
theorem act2_set {base : Nat} {pv px : Value} {w u u2 wr : World} {lo g1 c1 : Nat} {y' : Tr.Iv} (h : Act2 base pv px w lo u g1 c1 y' u2) (hb : w.heap.size = base) (hlo : base ≤ lo) {gb : Nat} (had : y'.ad = some ⟨gb, 0, none⟩) (hgl : lo ≤ gb) (hgu : gb < u.heap.size) (hg1 : gb ≠ g1) (x : Bx (fun b => b = gb) u2 wr) :
    Bw w wr ∧ ItAt wr g1 0 y' ∧ Stt base pv px (fun b => (base ≤ b ∧ b < lo) ∨ u.heap.size ≤ b) wr := by
  refine ⟨bw_of_bx12 hb h.bw x (fun b e => by subst e; omega), ?_, h.st.keepx x (fun b e => by subst e; exact ⟨by omega, fun e => by omega⟩)⟩
  rcases h.lent.its.at_ with h0 | ⟨b, off, e, hc⟩
  · cases h0
  · cases e
    have := hc 0 y' rfl
    exact it_bx12 (by simpa using this) x (fun e => hg1 e.symm)
theorem lent_it12 {w : World} {g c : Nat} {y' : Tr.Iv} (h : LentAt w g c [y']) : ItAt w g 0 y' := by
  rcases h.its.at_ with h0 | ⟨b, off, e, hc⟩
  · cases h0
  · cases e
    have := hc 0 y' rfl
    simpa using this
theorem lent_ne12 {w : World} {g1 c1 gb : Nat} {y' : Tr.Iv} (h : LentAt w g1 c1 [y']) (had : y'.ad = some ⟨gb, 0, none⟩) : gb ≠ g1 := fun e => by
  subst e
  obtain ⟨gb', h1, h2, _⟩ := h.marks y' (List.mem_singleton.2 rfl)
  rw [had] at h1
  cases h1
  have h3 := (h2.cell (c := 0) (by omega)).1
  rcases h.its.at_ with h0 | ⟨b, off, e, hc⟩
  · cases h0
  · cases e
    have h4 := (hc 0 y' rfl).c0
    have h4' : w.cell? ⟨gb, 0, none⟩ = some (.string (Nm.S y'.it.path)) := by simpa using h4
    rw [h3] at h4'
    cases h4'
/-- both writers, new -/
theorem stt_start (w : World) : Stt w.heap.size (.pointer (some ⟨w.heap.size, 0, none⟩)) (.pointer (some ⟨w.heap.size + 1, 0, none⟩)) (fun b => w.heap.size ≤ b ∧ b < ((w.alloc (.cells #[.slice none 0 0, .int .i64 0, .slice none 0 0, .bool false] 78)).alloc (.cells #[.slice none 0 0, .bool false] 44)).heap.size) ((w.alloc (.cells #[.slice none 0 0, .int .i64 0, .slice none 0 0, .bool false] 78)).alloc (.cells #[.slice none 0 0, .bool false] 44)) := by
  have h1 := heap_alloc_new w (.cells #[.slice none 0 0, .int .i64 0, .slice none 0 0, .bool false] 78)
  obtain ⟨W1, hW1⟩ : ∃ V, V = w.alloc (.cells #[.slice none 0 0, .int .i64 0, .slice none 0 0, .bool false] 78) := ⟨_, rfl⟩
  have s1 : W1.heap.size = w.heap.size + 1 := by rw [hW1]; exact size_alloc _ _
  rw [← hW1] at h1 ⊢
  have h2 := heap_alloc_new W1 (.cells #[.slice none 0 0, .bool false] 44)
  have k2 : Bw W1 (W1.alloc (.cells #[.slice none 0 0, .bool false] 44)) := Below.alloc (Bw.refl _) (Nat.le_refl _) _
  rw [s1] at h2
  have hw0 : Pk.wr [] = (Pk.flat [] ++ List.replicate 1024 0, 0, 0) := by unfold Pk.wr; rw [if_neg (by decide)]; rfl
  have a1 : WrAt (.slice none 0 0) false (W1.alloc (.cells #[.slice none 0 0, .bool false] 44)) w.heap.size (.slice none 0 0) [] := (k2.block _ (by omega)).trans h1
  have hWt : Wt w.heap.size w.heap.size (w.heap.size + 1) false (.slice none 0 0) (.slice none 0 0) none 0 [] (W1.alloc (.cells #[.slice none 0 0, .bool false] 44)) := by
    refine ⟨.inl ⟨rfl, none, 0, rfl, ⟨a1, ⟨rfl, World.ownsRow_nil _ _ _ _⟩, World.ownsRow_nil _ _ _ _, fun i x hx => by simp [Tr.its] at hx, by decide, by decide, fun x hx => by simp [Tr.its] at hx⟩⟩, by decide, by decide, hw0, ⟨h2, ItsAt.nil _ _, Nat.le_refl _, fun _ => ⟨rfl, rfl⟩⟩, fun b hb => ⟨fun e => by have := wIn_none hb; omega, fun o e => by cases e⟩, fun y hy => by simp at hy, Nat.le_refl _, by omega, fun b o e => by cases e⟩
  exact .inr ⟨_, _, false, _, _, none, 0, [], rfl, rfl, hWt, fun b hb => hWt.bnd hb⟩
end Go.Proofs.YtldkhbkgmiicbaaGreatDoor
