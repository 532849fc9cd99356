/- Rows of bytes in memory, further: blocks that turn, copies, texts, new rows. -/
import Derived.Test.YtjjnbpbbjaabeaaK2
import Derived.Laws.BytesArg
import Derived.Laws.CopyOwn
import Derived.Deep.OwnRows
import Derived.Deep.Slices
namespace Go.Proofs.Ytjjnbpbbjaabeaa
open Go.RowKit Go.Deep

/-- the blocks of S alone may have turned, and new ones may have come -/
structure Bx (S : Nat → Prop) (w w' : World) : Prop where
  os : w'.os = w.os
  tape : w'.tape = w.tape
  output : w'.output = w.output
  size : w.heap.size ≤ w'.heap.size
  block : ∀ b, b < w.heap.size → ¬ S b → w'.heap[b]? = w.heap[b]?

theorem Bx.of_bw {S : Nat → Prop} {w w' : World} (h : Bw w w') : Bx S w w' := ⟨h.os, h.tape, h.output, h.size, fun b hb _ => h.block b hb⟩
theorem Bx.refl (S : Nat → Prop) (w : World) : Bx S w w := ⟨rfl, rfl, rfl, Nat.le_refl _, fun _ _ _ => rfl⟩
theorem Bx.trans {S : Nat → Prop} {a b c : World} (h : Bx S a b) (k : Bx S b c) : Bx S a c :=
  ⟨k.os.trans h.os, k.tape.trans h.tape, k.output.trans h.output, Nat.le_trans h.size k.size, fun x hx hs => (k.block x (Nat.lt_of_lt_of_le hx h.size) hs).trans (h.block x hx hs)⟩
theorem Bx.more {S T : Nat → Prop} {w w' : World} (h : Bx S w w') (k : ∀ b, S b → T b) : Bx T w w' := ⟨h.os, h.tape, h.output, h.size, fun b hb hs => h.block b hb (fun e => hs (k b e))⟩
/-- what turned alone lies from lo on: what was below lo stays -/
theorem Bx.below {S : Nat → Prop} {lo : Nat} {w w' : World} (h : Bx S w w') (hlo : lo ≤ w.heap.size) (k : ∀ b, S b → lo ≤ b) : Below lo w w' :=
  ⟨h.os, h.tape, h.output, h.size, fun b hb => h.block b (Nat.lt_of_lt_of_le hb hlo) (fun e => by have := k b e; omega)⟩
theorem Bx.put {S : Nat → Prop} {w w' : World} (h : Bx S w w') {g j : Nat} {v : Value} (hg : S g) : Bx S w (w'.setCell ⟨g, j, none⟩ v) :=
  ⟨h.os, h.tape, h.output, by have := h.size; simp only [World.size_setCell]; exact this, fun b hb hs => (heap_setCell_other w' ⟨g, j, none⟩ b v (fun e => hs (by simp only at e; rw [e]; exact hg))).trans (h.block b hb hs)⟩
theorem Bx.drew {S : Nat → Prop} {w w' : World} (h : Bx S w w') : Bx S w w'.drew := ⟨h.os, h.tape, h.output, h.size, h.block⟩

theorem RowAt.keepx {S : Nat → Prop} {w w' : World} {A : Option Addr} {L : Nat} {f : Nat → Int} (h : RowAt w A L f) (k : Bx S w w') (hA : ∀ b o, A = some ⟨b, o, none⟩ → 0 < L → ¬ S b) : RowAt w' A L f := by
  refine ⟨?_, h.2⟩
  rcases h.1 with h0 | ⟨b, off, e, hc⟩
  · exact Or.inl h0
  · by_cases h0 : L = 0
    · exact Or.inl h0
    · refine Or.inr ⟨b, off, e, fun i hi => ?_⟩
      have h1 := hc i hi
      rw [World.cell?_of_block (w := w) (k.block b (block_lt_of_cell h1) (hA b off e (by omega)))]
      exact h1

theorem Bx.new {S T : Nat → Prop} {a b c : World} (h : Bx S a b) (k : Bx T b c) (hT : ∀ x, x < a.heap.size → T x → S x) : Bx S a c :=
  ⟨k.os.trans h.os, k.tape.trans h.tape, k.output.trans h.output, Nat.le_trans h.size k.size, fun x hx hs => (k.block x (Nat.lt_of_lt_of_le hx h.size) (fun e => hs (hT x hx e))).trans (h.block x hx hs)⟩

/-- a row of bytes that fills a block -/
def BlockIs (w : World) (g q : Nat) (f : Nat → Int) : Prop := ∃ cur, w.heap[g]? = some (.cells cur 5 (0, 0)) ∧ cur.size = q ∧ ∀ c, c < q → cur[c]? = some (.int .u8 (f c))

theorem BlockIs.keep {w w' : World} {g q : Nat} {f : Nat → Int} (h : BlockIs w g q f) (b : Bw w w') : BlockIs w' g q f := by
  obtain ⟨cur, h1, h2⟩ := h
  exact ⟨cur, by rw [b.block g (Array.getElem?_eq_some_iff.1 h1).1, h1], h2⟩

theorem BlockIs.cell {w : World} {g q : Nat} {f : Nat → Int} (h : BlockIs w g q f) {c : Nat} (hc : c < q) : w.cell? ⟨g, c, none⟩ = some (.int .u8 (f c)) ∧ w.frozen? ⟨g, c, none⟩ = false := by
  obtain ⟨cur, h1, h2, h3⟩ := h
  exact ⟨(cell_of_row w g c cur _ _ h1).trans (h3 c hc), frozen_of_row w g c cur _ h1⟩

theorem BlockIs.set {w : World} {g q : Nat} {f f' : Nat → Int} (h : BlockIs w g q f) {j : Nat} {x : Int} (hj : j < q) (e : f' j = x) (hf : ∀ c, c < q → c ≠ j → f' c = f c) : BlockIs (w.setCell ⟨g, j, none⟩ (.int .u8 x)) g q f' := by
  obtain ⟨cur, h1, h2, h3⟩ := h
  refine ⟨_, heap_setCell_same w g j cur _ _ h1, by simpa using h2, fun c hc => ?_⟩
  by_cases hcj : c = j
  · subst hcj; rw [Array.getElem?_setIfInBounds_self_of_lt (by omega), e]
  · rw [Array.getElem?_setIfInBounds_ne (Ne.symm hcj), h3 c hc, hf c hc hcj]

theorem BlockIs.congr {w : World} {g q : Nat} {f f' : Nat → Int} (h : BlockIs w g q f) (hf : ∀ c, c < q → f' c = f c) : BlockIs w g q f' := by
  obtain ⟨cur, h1, h2, h3⟩ := h
  exact ⟨cur, h1, h2, fun c hc => by rw [h3 c hc, hf c hc]⟩

theorem BlockIs.row {w : World} {g q : Nat} {f : Nat → Int} (h : BlockIs w g q f) (hf : ∀ i, 0 ≤ f i ∧ f i < 256) : RowAt w (some ⟨g, 0, none⟩) q f :=
  ⟨Or.inr ⟨g, 0, rfl, fun i hi => by rw [Nat.zero_add]; exact (h.cell hi).1⟩, hf⟩

theorem Bw.put {w w' : World} (h : Bw w w') {g : Nat} (hg : w.heap.size ≤ g) (j : Nat) (v : Value) : Bw w (w'.setCell ⟨g, j, none⟩ v) := Below.setCell h hg v

theorem cellsU_len (f : Nat → Int) (L : Nat) : (cellsU f L).length = L := by unfold cellsU; simp

theorem cellsU_append (f g : Nat → Int) (n k : Nat) : cellsU f n ++ cellsU g k = cellsU (fun c => if c < n then f c else g (c - n)) (n + k) := by
  induction k with
  | zero =>
    show cellsU f n ++ [] = cellsU _ (n + 0)
    rw [List.append_nil, Nat.add_zero]
    exact List.map_congr_left fun i hi => by dsimp only; rw [if_pos (List.mem_range.1 hi)]
  | succ k ih =>
    rw [cellsU_succ, ← List.append_assoc, ih, Nat.add_succ, cellsU_succ]
    rw [if_neg (by omega), show n + k - n = k by omega]

theorem cellsU_get (f : Nat → Int) (L j : Nat) (u : Value) (h : (cellsU f L)[j]? = some u) : j < L ∧ u = .int .u8 (f j) := by
  have hj : j < L := by have := (List.getElem?_eq_some_iff.1 h).1; rwa [cellsU_len] at this
  refine ⟨hj, ?_⟩
  unfold cellsU at h
  rw [List.getElem?_map, List.getElem?_range hj] at h
  exact (Option.some.inj h).symm

theorem rowat_news {w : World} {b o L : Nat} {f : Nat → Int} (h : RowAt w (some ⟨b, o, none⟩) L f) : ∀ j u, (cellsU f L)[j]? = some u → w.cell? ((⟨b, o, none⟩ : Addr).add j) = some u := by
  intro j u hu
  obtain ⟨hj, rfl⟩ := cellsU_get f L j u hu
  obtain ⟨b', o', e, hc⟩ := h.at hj
  cases e
  rw [Addr.add_lit]; exact hc j hj

theorem grown_drew {X y : World} {r : Option Nat} (h : X.drew.grownBy y r) : X.grownBy y r := ⟨h.os, h.tape, h.output, h.size, h.block⟩

/-- a row of the call's own, appended to: what lay below its base stays -/
theorem bw_grow {W X y : World} {base : Nat} {e : TypeId} {size n : Nat} {v : Value} {xs : List Value} (h : X.grownBy y v.ownBlock) (b : Below base W X) (hX : base ≤ X.heap.size) (hown : X.ownsRow base e size v n xs) : Below base W y := b.grown h hX (own_ge hown)

/-- a block with a row laid over it at o -/
def cpyF (F : Nat → Int) (o n : Nat) (f : Nat → Int) (k : Nat) : Int := if o ≤ k ∧ k < o + n then f (k - o) else F k

theorem cpyF_bd {F : Nat → Int} {o n : Nat} {f : Nat → Int} (hF : ∀ i, 0 ≤ F i ∧ F i < 256) (hf : ∀ i, 0 ≤ f i ∧ f i < 256) (k : Nat) : 0 ≤ cpyF F o n f k ∧ cpyF F o n f k < 256 := by
  unfold cpyF; split
  · exact hf _
  · exact hF k

theorem u8_one : (Try.prog.info? 5).map (·.size) = some 1 := by kernel_rfl

theorem copy_ok (g o m cap N L cb : Nat) (ty : TypeId) (F f : Nat → Int) (B : Option Addr) (w : World) (hb : BlockIs w g N F) (ho : o + L ≤ N) (hm : L ≤ m) (hB : RowAt w B L f) :
    ∃ w', (Builtin.copy_ #[33, 33] ty #[.slice (some ⟨g, o, none⟩) m cap, .slice B L cb]).run Try.prog w = .ok (goInt L) w' ∧ BlockIs w' g N (cpyF F o L f) ∧ Bx (· = g) w w' := by
  by_cases h0 : L = 0
  · subst h0
    refine ⟨w, run_copy_none w 33 33 ty 5 _ _ m cap 0 cb Try.underlying33 u8_one (Nat.zero_min _), hb.congr (fun k hk => by unfold cpyF; rw [if_neg (by omega)]), Bx.refl _ _⟩
  · obtain ⟨b, off, rfl, hc⟩ := hB.at (k := 0) (by omega)
    obtain ⟨cur, h1, h2, h3⟩ := hb
    have hl : (cellsU f L).length = L := by simp [cellsU]
    have hrun := run_copy_row Try.prog w 33 33 ty 5 g o m cap ⟨b, off, none⟩ L cb cur 5 (cellsU f L) Try.underlying33 u8_one h1 (by rw [hl]; exact (Nat.min_eq_left hm).symm) (rowat_news hB) (by rw [hl]; omega) (fun v hv => by simp only [cellsU, List.mem_map] at hv; obtain ⟨i, _, rfl⟩ := hv; rfl)
    rw [hl] at hrun
    refine ⟨_, hrun, ⟨_, setRow_heap w g cur _ _ _ h1, ?_, fun c hc' => ?_⟩, ⟨rfl, rfl, rfl, by simp [World.setRow], fun k _ hk => setRow_other w g k _ (by omega)⟩⟩
    · simp [hl]; omega
    · rw [List.getElem?_toArray]
      unfold cpyF
      by_cases e : o ≤ c ∧ c < o + L
      · rw [if_pos e, List.append_assoc, List.getElem?_append_right (by simp; omega), List.getElem?_append_left (by simp [hl]; omega)]
        simp only [List.length_take, Array.length_toList, cellsU, List.getElem?_map]
        rw [Nat.min_eq_left (by omega), List.getElem?_range (by omega)]; rfl
      · rw [if_neg e]
        by_cases e2 : c < o
        · rw [List.append_assoc, List.getElem?_append_left (by simp; omega), List.getElem?_take, if_pos e2, Array.getElem?_toList, h3 c hc']
        · rw [List.getElem?_append_right (by simp [hl]; omega), List.getElem?_drop]
          simp only [List.length_append, List.length_take, Array.length_toList, hl]
          rw [Nat.min_eq_left (by omega), show o + L + (c - (o + L)) = c by omega, Array.getElem?_toList, h3 c hc']

/-- the text of a row -/
def str (f : Nat → Int) (L : Nat) : ByteArray := strOfNums ((List.range L).map f)

theorem str_inj {f g : Nat → Int} {L M : Nat} (hf : ∀ i, 0 ≤ f i ∧ f i < 256) (hg : ∀ i, 0 ≤ g i ∧ g i < 256) : (str f L).toList = (str g M).toList ↔ L = M ∧ ∀ i, i < L → f i = g i := by
  have e : ∀ (h : Nat → Int) (n : Nat), (str h n).toList = (List.range n).map fun i => UInt8.ofNat (h i).toNat := fun h n => by
    rw [ByteArray.toList_eq]
    show (strOfNums _).data.toList = _
    rw [strOfNums_data, List.map_map]; rfl
  rw [e, e]
  constructor
  · intro h
    have hl : L = M := by have := congrArg List.length h; simpa using this
    subst hl
    refine ⟨rfl, fun i hi => ?_⟩
    have h2 := congrArg (fun l => l[i]?) h
    simp only [List.getElem?_map, List.getElem?_range hi, Option.map_some, Option.some.injEq] at h2
    have h3 := congrArg UInt8.toNat h2
    have a := hf i
    have b := hg i
    simp only [UInt8.toNat_ofNat'] at h3
    omega
  · rintro ⟨rfl, h⟩
    exact List.map_congr_left fun i hi => by rw [h i (List.mem_range.1 hi)]

theorem conv_row {w : World} {A : Option Addr} {L C : Nat} {f : Nat → Int} (h : RowAt w A L f) : (convert 33 9 (.slice A L C)).run Try.prog w = .ok (.string (str f L)) w := by
  cases A with
  | none =>
    have hL : L = 0 := by
      rcases h.1 with h0 | ⟨b, off, e', _⟩
      · exact h0
      · cases e'
    subst hL
    rw [run_convert_bytes_nil w 33 5 Try.underlying33 Try.underlying5 0 C 9 Try.underlying9]
    rfl
  | some a =>
    rcases h.1 with h0 | ⟨b, off, e, hc⟩
    · subst h0
      have hl : (loadCells a 0).run Try.prog w = .ok (([] : List Int).map (Value.int .u8)).toArray w := by simp [loadCells, loadCellsFrom]
      rw [run_convert_bytes_string w 33 9 5 _ 0 C Try.underlying33 Try.underlying5 Try.underlying9, run_bytesToString w a 0 C [] hl]
      rfl
    · cases e
      refine run_convert_bytes_arg w 33 5 Try.underlying33 Try.underlying5 b off L C ((List.range L).map f) (by simp) (fun i hi => ?_) 9 Try.underlying9
      rw [hc i hi]
      simp [List.getD, List.getElem?_range hi]

theorem made_bytes (n : Nat) (h : n ≤ 140737488355328) : ∃ M : Array Value, M.size = n ∧ (∀ i, i < n → M[i]? = some (.int .u8 0)) ∧
    ∀ w, (Instr.makeSlice 33 (.int .i64 (n : Int)) (.int .i64 (n : Int))).run Try.prog w = .ok (.slice (some ⟨w.heap.size, 0, none⟩) n n) (w.alloc (.cells M 5)) := by
  refine ⟨madeCells #[.int .u8 0] n, ?_, ?_, fun w => run_make_row' 33 5 (.int .u8 0) 1 Try.underlying33 info_u8 rfl .i64 .i64 n (by omega) (by omega) w⟩
  · simp [madeCells]
  · intro i hi
    simp [madeCells, hi, Nat.mod_one]

/-- a row that has just been laid -/
theorem row_new (W : World) (cs : Array Value) (t : TypeId) (n : Nat) (f : Nat → Int) (hf : ∀ i, 0 ≤ f i ∧ f i < 256) (h : ∀ i, i < n → cs[i]? = some (.int .u8 (f i))) : RowAt (W.alloc (.cells cs t)) (some ⟨W.heap.size, 0, none⟩) n f :=
  ⟨Or.inr ⟨W.heap.size, 0, rfl, fun i hi => by rw [Nat.zero_add, World.cell?_alloc_at cs t _ i rfl]; exact h i hi⟩, hf⟩

/-- a row that was made since the block base -/
structure NewRow (w : World) (base : Nat) (A : Option Addr) (n : Nat) (f : Nat → Int) : Prop where
  row : RowAt w A n f
  new : n = 0 ∨ ∃ g o, A = some ⟨g, o, none⟩ ∧ base ≤ g ∧ g < w.heap.size

theorem row_none (w : World) : RowAt w none 0 (fun _ => 0) := ⟨Or.inl rfl, fun _ => ⟨Int.le_refl 0, show (0 : Int) < 256 by decide⟩⟩

theorem own_keep {W W' : World} {base : Nat} {e : TypeId} {size n : Nat} {v : Value} {xs : List Value} (h : W.ownsRow base e size v n xs) (g : Bw W W') : W'.ownsRow base e size v n xs := by
  obtain ⟨h1, h2⟩ := h
  refine ⟨h1, ?_⟩
  rcases h2 with h | ⟨b, cap, cur, hv, hb, hg, hr⟩
  · exact Or.inl h
  · refine Or.inr ⟨b, cap, cur, hv, hb, ?_, hr⟩
    rw [g.block b (Array.getElem?_eq_some_iff.1 hg).1, hg]

theorem cellsU_one (f : Nat → Int) (L : Nat) : ∀ u ∈ cellsU f L, u.oneCell' = true := by
  intro u hu
  unfold cellsU at hu
  obtain ⟨i, _, rfl⟩ := List.mem_map.1 hu
  rfl

/-- a row in memory appended to a row of the call's own, whatever lies where -/
theorem wpList_append_rowat {P : Program} (w : World) {ops : Array Oper} {rest : List Oper} {o : Oper} {a : Act} {Q : Exit → Act → World → Prop} (hgd : o.guard = none) (s x : Operand) (t : TypeId)
    (ho : o.op = .call { callee := .builtin .append, args := #[s, x], argTypes := #[t, t] })
    (base : Nat) (e : TypeId) (i : TypeInfo) (z : Value) (bytes : Nat) (ht : P.underlying t = some (.slice e)) (hi : P.info? e = some i) (hz : i.zero = some z)
    (hsize : i.size = 1) (hby : i.bytes = bytes) (hzs : z.cells.size = 1)
    (v : Value) (n : Nat) (xs : List Value) (hs : a.eval s = v) (hown : w.ownsRow base e 1 v n xs)
    (A : Option Addr) (L C : Nat) (f : Nat → Int) (hx : a.eval x = .slice A L C) (hr : RowAt w A L f) (hC : A = none → C = 0)
    (h63 : n + L ≤ maxLen) (hbytes : (n + L) * bytes ≤ 140737488355328) (hbase : base ≤ w.heap.size)
    (h : ∀ v' w', w'.ownsRow base e 1 v' (n + L) (xs ++ cellsU f L) → w.grownBy w' v.ownBlock → wpList P ops Q rest (a.put o.dst v') w') : wpList P ops Q (o :: rest) a w := by
  cases A with
  | some ad =>
    refine wpList_append_own w hgd s x t ho base e i z 1 bytes ht hi hz hsize hby hzs (by decide) v n xs hs hown ad L C (cellsU f L) hx (by rw [cellsU_len, Nat.mul_one]) (fun j u hu => ?_) (cellsU_one f L) h63 hbytes hbase (fun v' w' h1 h2 _ => h v' w' h1 h2)
    obtain ⟨hj, rfl⟩ := cellsU_get f L j u hu
    obtain ⟨b, off, e', hc⟩ := hr.at hj
    cases e'
    have := hc j hj
    have hadd : (⟨b, off, none⟩ : Addr).add j = ⟨b, off + j, none⟩ := by rw [Addr.add_lit]
    rw [hadd]; exact this
  | none =>
    have hL : L = 0 := by
      rcases hr.1 with h0 | ⟨b, off, e', _⟩
      · exact h0
      · cases e'
    subst hL
    obtain rfl := hC rfl
    refine wpList_plain hgd fun K hK' => ?_
    have hrun := run_append_owned_none (P := P) w base t o.type e i 1 ht hi v n xs hown
    unfold Oper.wp
    simp [execOp, ho, resolve, invoke, builtin, hs, hx, hrun, Result.andThen]
    exact hK' _ _ (h v w (by simpa [cellsU] using hown) (World.grownBy.refl _ _))

/-- an empty row that has just been laid -/
theorem own_empty (W : World) (base : Nat) (t : TypeId) (h : base ≤ W.heap.size) : (W.alloc (.cells #[] t)).ownsRow base t 1 (.slice (some ⟨W.heap.size, 0, none⟩) 0 0) 0 [] :=
  ⟨rfl, Or.inr ⟨W.heap.size, 0, #[], rfl, h, heap_alloc_new _ _, Nat.le_refl _, Nat.zero_le _, rfl, rfl⟩⟩

/-- a block laid anew and appended to: what was there stays -/
theorem bw_fresh {W w1 : World} {o : Obj} {n cap : Nat} (h : (W.alloc o).grownBy w1 (Value.slice (some ⟨W.heap.size, 0, none⟩) n cap).ownBlock) : Bw W w1 :=
  ((Below.refl _ _).alloc (Nat.le_refl _) o).grown h (by rw [size_alloc]; omega) (fun k hk => by simp only [Value.ownBlock, Option.some.injEq] at hk; omega)

theorem row_of_own {W : World} {base L : Nat} {v : Value} {f : Nat → Int} (hf : ∀ i, 0 ≤ f i ∧ f i < 256) (h : W.ownsRow base 5 1 v L (cellsU f L)) :
    ∃ A cap, v = .slice A L cap ∧ L ≤ cap ∧ cap ≤ maxLen ∧ RowAt W A L f ∧ ∀ a, A = some a → base ≤ a.block ∧ a.block < W.heap.size := by
  obtain ⟨_, h⟩ := h
  rcases h with ⟨rfl, rfl⟩ | ⟨g, cap, cur, rfl, hb, hg, h1, h2, h3, h4⟩
  · exact ⟨none, 0, rfl, Nat.le_refl _, Nat.zero_le _, ⟨Or.inl rfl, hf⟩, fun a ha => by cases ha⟩
  · refine ⟨_, cap, rfl, h1, h2, ⟨Or.inr ⟨g, 0, rfl, fun i hi => ?_⟩, hf⟩, fun a ha => by cases ha; exact ⟨hb, (Array.getElem?_eq_some_iff.1 hg).1⟩⟩
    rw [Nat.zero_add, cell_of_row W g i cur _ _ hg]
    have e : (cur.toList.take (L * 1))[i]? = (cellsU f L)[i]? := by rw [h4]
    rw [Nat.mul_one, List.getElem?_take, if_pos hi] at e
    rw [← Array.getElem?_toList, e]
    unfold cellsU
    rw [List.getElem?_map, List.getElem?_range hi]; rfl

/-- the first n cells of a block that is the call's own to write -/
def Own (w : World) (g n : Nat) (f : Nat → Int) : Prop := ∃ cur, w.heap[g]? = some (.cells cur 5 (0, 0)) ∧ n ≤ cur.size ∧ ∀ c, c < n → cur[c]? = some (.int .u8 (f c))

theorem Own.keep {w w' : World} {g n : Nat} {f : Nat → Int} (h : Own w g n f) (b : Bw w w') : Own w' g n f := by
  obtain ⟨cur, h1, h2⟩ := h
  exact ⟨cur, by rw [b.block g (Array.getElem?_eq_some_iff.1 h1).1, h1], h2⟩
theorem Own.lt {w : World} {g n : Nat} {f : Nat → Int} (h : Own w g n f) : g < w.heap.size := by
  obtain ⟨cur, h1, _⟩ := h
  exact (Array.getElem?_eq_some_iff.1 h1).1
theorem Own.cell {w : World} {g n : Nat} {f : Nat → Int} (h : Own w g n f) {c : Nat} (hc : c < n) : w.cell? ⟨g, c, none⟩ = some (.int .u8 (f c)) ∧ w.frozen? ⟨g, c, none⟩ = false := by
  obtain ⟨cur, h1, h2, h3⟩ := h
  exact ⟨(cell_of_row w g c cur _ _ h1).trans (h3 c hc), frozen_of_row w g c cur _ h1⟩
theorem Own.set {w : World} {g n : Nat} {f f' : Nat → Int} (h : Own w g n f) {j : Nat} {x : Int} (hj : j < n) (e : f' j = x) (hf : ∀ c, c < n → c ≠ j → f' c = f c) : Own (w.setCell ⟨g, j, none⟩ (.int .u8 x)) g n f' := by
  obtain ⟨cur, h1, h2, h3⟩ := h
  refine ⟨_, heap_setCell_same w g j cur _ _ h1, by simpa using h2, fun c hc => ?_⟩
  by_cases hcj : c = j
  · subst hcj; rw [Array.getElem?_setIfInBounds_self_of_lt (by omega), e]
  · rw [Array.getElem?_setIfInBounds_ne (Ne.symm hcj), h3 c hc, hf c hc hcj]
theorem Own.congr {w : World} {g n : Nat} {f f' : Nat → Int} (h : Own w g n f) (hf : ∀ c, c < n → f' c = f c) : Own w g n f' := by
  obtain ⟨cur, h1, h2, h3⟩ := h
  exact ⟨cur, h1, h2, fun c hc => by rw [h3 c hc, hf c hc]⟩
theorem Own.less {w : World} {g n m : Nat} {f : Nat → Int} (h : Own w g n f) (hm : m ≤ n) : Own w g m f := by
  obtain ⟨cur, h1, h2, h3⟩ := h
  exact ⟨cur, h1, by omega, fun c hc => h3 c (by omega)⟩
theorem Own.row {w : World} {g n : Nat} {f : Nat → Int} (h : Own w g n f) (hf : ∀ i, 0 ≤ f i ∧ f i < 256) : RowAt w (some ⟨g, 0, none⟩) n f :=
  ⟨Or.inr ⟨g, 0, rfl, fun i hi => by rw [Nat.zero_add]; exact (h.cell hi).1⟩, hf⟩
theorem Own.of {w : World} {base n : Nat} {v : Value} {f : Nat → Int} (h : w.ownsRow base 5 1 v n (cellsU f n)) (hn : 0 < n) :
    ∃ g cap, v = .slice (some ⟨g, 0, none⟩) n cap ∧ base ≤ g ∧ n ≤ cap ∧ cap ≤ maxLen ∧ Own w g n f := by
  rcases h.2 with ⟨_, h0⟩ | ⟨g, cap, cur, hv, hb, hg, h1, h2, h3, h4⟩
  · omega
  · refine ⟨g, cap, hv, hb, h1, h2, cur, hg, by omega, fun c hc => ?_⟩
    rw [Nat.mul_one] at h4
    have h5 : (cur.toList.take n)[c]? = some (.int .u8 (f c)) := by
      rw [h4]; unfold cellsU; rw [List.getElem?_map, List.getElem?_range hc]; rfl
    rwa [List.getElem?_take, if_pos hc, Array.getElem?_toList] at h5

theorem made_room (n : Nat) (h : n ≤ 140737488355324) : ∃ M : Array Value, M.size = n + 4 ∧ (∀ i, i < n + 4 → M[i]? = some (.int .u8 0)) ∧
    ∀ w, (Instr.makeSlice 33 (.int .i64 (n : Int)) (.int .i64 ((n : Int) + 4))).run Try.prog w = .ok (.slice (some ⟨w.heap.size, 0, none⟩) n (n + 4)) (w.alloc (.cells M 5)) := by
  obtain ⟨i0, hi0, hz0, hz1, hz2⟩ := info_parts info_u8
  refine ⟨madeCells #[.int .u8 0] (n + 4), ?_, ?_, fun w => ?_⟩
  · simp [madeCells]
  · intro i hi
    simp [madeCells, hi, Nat.mod_one]
  · have hr := run_make (P := Try.prog) w 33 5 i0 _ Try.underlying33 hi0 hz0 .i64 .i64 (n : Int) ((n : Int) + 4) (by omega) (by omega) (by rw [hz2]; omega) (by omega)
    rw [hz1, Nat.mul_one, Int.toNat_natCast, show ((n : Int) + 4).toNat = n + 4 by omega] at hr
    exact hr

end Go.Proofs.Ytjjnbpbbjaabeaa
