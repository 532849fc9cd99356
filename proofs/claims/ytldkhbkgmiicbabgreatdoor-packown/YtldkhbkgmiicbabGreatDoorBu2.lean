/- Texts of mine, put together. -/
import Derived.Test.YtldkhbkgmiicbabGreatDoorBu1
import Derived.Laws.BytesArg
import Derived.Laws.CopyOwn
import Derived.Deep.OwnRows
import Derived.Deep.Slices

/- Rows of bytes in memory, further: blocks that turn, copies, texts, new rows. -/
namespace Go.Proofs.YtldkhbkgmiicbabGreatDoor
open Go.RowKit Go.Deep

/-- the blocks of S alone may have turned, and new ones may have come -/
structure Bx (S : Nat → Prop) (w w' : World) : Prop where
  os : w'.os = w.os
  tape : w'.tape = w.tape
  output : w'.output = w.output
  size : w.heap.size ≤ w'.heap.size
  block : ∀ b, b < w.heap.size → ¬ S b → w'.heap[b]? = w.heap[b]?

theorem Bx.of_bw {S : Nat → Prop} {w w' : World} (h : Bw w w') : Bx S w w' := ⟨h.os, h.tape, h.output, h.size, fun b hb _ => h.block b hb⟩
theorem Bx.refl (S : Nat → Prop) (w : World) : Bx S w w := ⟨rfl, rfl, rfl, Nat.le_refl _, fun _ _ _ => rfl⟩
theorem Bx.trans {S : Nat → Prop} {a b c : World} (h : Bx S a b) (k : Bx S b c) : Bx S a c :=
  ⟨k.os.trans h.os, k.tape.trans h.tape, k.output.trans h.output, Nat.le_trans h.size k.size, fun x hx hs => (k.block x (Nat.lt_of_lt_of_le hx h.size) hs).trans (h.block x hx hs)⟩
theorem Bx.more {S T : Nat → Prop} {w w' : World} (h : Bx S w w') (k : ∀ b, S b → T b) : Bx T w w' := ⟨h.os, h.tape, h.output, h.size, fun b hb hs => h.block b hb (fun e => hs (k b e))⟩
/-- what turned alone lies from lo on: what was below lo stays -/
theorem Bx.below {S : Nat → Prop} {lo : Nat} {w w' : World} (h : Bx S w w') (hlo : lo ≤ w.heap.size) (k : ∀ b, S b → lo ≤ b) : Below lo w w' :=
  ⟨h.os, h.tape, h.output, h.size, fun b hb => h.block b (Nat.lt_of_lt_of_le hb hlo) (fun e => by have := k b e; omega)⟩
theorem Bx.put {S : Nat → Prop} {w w' : World} (h : Bx S w w') {g j : Nat} {v : Value} (hg : S g) : Bx S w (w'.setCell ⟨g, j, none⟩ v) :=
  ⟨h.os, h.tape, h.output, by have := h.size; simp only [World.size_setCell]; exact this, fun b hb hs => (heap_setCell_other w' ⟨g, j, none⟩ b v (fun e => hs (by simp only at e; rw [e]; exact hg))).trans (h.block b hb hs)⟩
theorem Bx.drew {S : Nat → Prop} {w w' : World} (h : Bx S w w') : Bx S w w'.drew := ⟨h.os, h.tape, h.output, h.size, h.block⟩

theorem RowAt.keepx {S : Nat → Prop} {w w' : World} {A : Option Addr} {L : Nat} {f : Nat → Int} (h : RowAt w A L f) (k : Bx S w w') (hA : ∀ b o, A = some ⟨b, o, none⟩ → 0 < L → ¬ S b) : RowAt w' A L f := by
  refine ⟨?_, h.2⟩
  rcases h.1 with h0 | ⟨b, off, e, hc⟩
  · exact Or.inl h0
  · by_cases h0 : L = 0
    · exact Or.inl h0
    · refine Or.inr ⟨b, off, e, fun i hi => ?_⟩
      have h1 := hc i hi
      rw [World.cell?_of_block (w := w) (k.block b (block_lt_of_cell h1) (hA b off e (by omega)))]
      exact h1

theorem Bx.new {S T : Nat → Prop} {a b c : World} (h : Bx S a b) (k : Bx T b c) (hT : ∀ x, x < a.heap.size → T x → S x) : Bx S a c :=
  ⟨k.os.trans h.os, k.tape.trans h.tape, k.output.trans h.output, Nat.le_trans h.size k.size, fun x hx hs => (k.block x (Nat.lt_of_lt_of_le hx h.size) (fun e => hs (hT x hx e))).trans (h.block x hx hs)⟩

/-- a row of bytes that fills a block -/
def BlockIs (w : World) (g q : Nat) (f : Nat → Int) : Prop := ∃ cur, w.heap[g]? = some (.cells cur 5 (0, 0)) ∧ cur.size = q ∧ ∀ c, c < q → cur[c]? = some (.int .u8 (f c))

theorem BlockIs.keep {w w' : World} {g q : Nat} {f : Nat → Int} (h : BlockIs w g q f) (b : Bw w w') : BlockIs w' g q f := by
  obtain ⟨cur, h1, h2⟩ := h
  exact ⟨cur, by rw [b.block g (Array.getElem?_eq_some_iff.1 h1).1, h1], h2⟩

theorem BlockIs.cell {w : World} {g q : Nat} {f : Nat → Int} (h : BlockIs w g q f) {c : Nat} (hc : c < q) : w.cell? ⟨g, c, none⟩ = some (.int .u8 (f c)) ∧ w.frozen? ⟨g, c, none⟩ = false := by
  obtain ⟨cur, h1, h2, h3⟩ := h
  exact ⟨(cell_of_row w g c cur _ _ h1).trans (h3 c hc), frozen_of_row w g c cur _ h1⟩

theorem BlockIs.set {w : World} {g q : Nat} {f f' : Nat → Int} (h : BlockIs w g q f) {j : Nat} {x : Int} (hj : j < q) (e : f' j = x) (hf : ∀ c, c < q → c ≠ j → f' c = f c) : BlockIs (w.setCell ⟨g, j, none⟩ (.int .u8 x)) g q f' := by
  obtain ⟨cur, h1, h2, h3⟩ := h
  refine ⟨_, heap_setCell_same w g j cur _ _ h1, by simpa using h2, fun c hc => ?_⟩
  by_cases hcj : c = j
  · subst hcj; rw [Array.getElem?_setIfInBounds_self_of_lt (by omega), e]
  · rw [Array.getElem?_setIfInBounds_ne (Ne.symm hcj), h3 c hc, hf c hc hcj]

theorem BlockIs.congr {w : World} {g q : Nat} {f f' : Nat → Int} (h : BlockIs w g q f) (hf : ∀ c, c < q → f' c = f c) : BlockIs w g q f' := by
  obtain ⟨cur, h1, h2, h3⟩ := h
  exact ⟨cur, h1, h2, fun c hc => by rw [h3 c hc, hf c hc]⟩

theorem BlockIs.row {w : World} {g q : Nat} {f : Nat → Int} (h : BlockIs w g q f) (hf : ∀ i, 0 ≤ f i ∧ f i < 256) : RowAt w (some ⟨g, 0, none⟩) q f :=
  ⟨Or.inr ⟨g, 0, rfl, fun i hi => by rw [Nat.zero_add]; exact (h.cell hi).1⟩, hf⟩

theorem Bw.put {w w' : World} (h : Bw w w') {g : Nat} (hg : w.heap.size ≤ g) (j : Nat) (v : Value) : Bw w (w'.setCell ⟨g, j, none⟩ v) := Below.setCell h hg v

theorem cellsU_len (f : Nat → Int) (L : Nat) : (cellsU f L).length = L := by unfold cellsU; simp

theorem cellsU_get (f : Nat → Int) (L j : Nat) (u : Value) (h : (cellsU f L)[j]? = some u) : j < L ∧ u = .int .u8 (f j) := by
  have hj : j < L := by have := (List.getElem?_eq_some_iff.1 h).1; rwa [cellsU_len] at this
  refine ⟨hj, ?_⟩
  unfold cellsU at h
  rw [List.getElem?_map, List.getElem?_range hj] at h
  exact (Option.some.inj h).symm

theorem rowat_news {w : World} {b o L : Nat} {f : Nat → Int} (h : RowAt w (some ⟨b, o, none⟩) L f) : ∀ j u, (cellsU f L)[j]? = some u → w.cell? ((⟨b, o, none⟩ : Addr).add j) = some u := by
  intro j u hu
  obtain ⟨hj, rfl⟩ := cellsU_get f L j u hu
  obtain ⟨b', o', e, hc⟩ := h.at hj
  cases e
  rw [Addr.add_lit]; exact hc j hj

/-- a row of the call's own, appended to: what lay below its base stays -/
theorem bw_grow {W X y : World} {base : Nat} {e : TypeId} {size n : Nat} {v : Value} {xs : List Value} (h : X.grownBy y v.ownBlock) (b : Below base W X) (hX : base ≤ X.heap.size) (hown : X.ownsRow base e size v n xs) : Below base W y := b.grown h hX (own_ge hown)

/-- a block with a row laid over it at o -/
def cpyF (F : Nat → Int) (o n : Nat) (f : Nat → Int) (k : Nat) : Int := if o ≤ k ∧ k < o + n then f (k - o) else F k

theorem u8_one : (Tryz.prog.info? 5).map (·.size) = some 1 := by kernel_rfl

/-- the text of a row -/
def str (f : Nat → Int) (L : Nat) : ByteArray := strOfNums ((List.range L).map f)

theorem conv_row {w : World} {A : Option Addr} {L C : Nat} {f : Nat → Int} (h : RowAt w A L f) : (convert 24 9 (.slice A L C)).run Tryz.prog w = .ok (.string (str f L)) w := by
  cases A with
  | none =>
    have hL : L = 0 := by
      rcases h.1 with h0 | ⟨b, off, e', _⟩
      · exact h0
      · cases e'
    subst hL
    rw [run_convert_bytes_nil w 24 5 Tryz.underlying24 Tryz.underlying5 0 C 9 Tryz.underlying9]
    rfl
  | some a =>
    rcases h.1 with h0 | ⟨b, off, e, hc⟩
    · subst h0
      have hl : (loadCells a 0).run Tryz.prog w = .ok (([] : List Int).map (Value.int .u8)).toArray w := by simp [loadCells, loadCellsFrom]
      rw [run_convert_bytes_string w 24 9 5 _ 0 C Tryz.underlying24 Tryz.underlying5 Tryz.underlying9, run_bytesToString w a 0 C [] hl]
      rfl
    · cases e
      refine run_convert_bytes_arg w 24 5 Tryz.underlying24 Tryz.underlying5 b off L C ((List.range L).map f) (by simp) (fun i hi => ?_) 9 Tryz.underlying9
      rw [hc i hi]
      simp [List.getD, List.getElem?_range hi]

theorem made_bytes (n : Nat) (h : n ≤ 140737488355328) : ∃ M : Array Value, M.size = n ∧ (∀ i, i < n → M[i]? = some (.int .u8 0)) ∧
    ∀ w, (Instr.makeSlice 24 (.int .i64 (n : Int)) (.int .i64 (n : Int))).run Tryz.prog w = .ok (.slice (some ⟨w.heap.size, 0, none⟩) n n) (w.alloc (.cells M 5)) := by
  refine ⟨madeCells #[.int .u8 0] n, ?_, ?_, fun w => run_make_row' 24 5 (.int .u8 0) 1 Tryz.underlying24 info_u8 rfl .i64 .i64 n (by omega) (by omega) w⟩
  · simp [madeCells]
  · intro i hi
    simp [madeCells, hi, Nat.mod_one]

/-- a row that was made since the block base -/
structure NewRow (w : World) (base : Nat) (A : Option Addr) (n : Nat) (f : Nat → Int) : Prop where
  row : RowAt w A n f
  new : n = 0 ∨ ∃ g o, A = some ⟨g, o, none⟩ ∧ base ≤ g ∧ g < w.heap.size

theorem own_keep {W W' : World} {base : Nat} {e : TypeId} {size n : Nat} {v : Value} {xs : List Value} (h : W.ownsRow base e size v n xs) (g : Bw W W') : W'.ownsRow base e size v n xs := by
  obtain ⟨h1, h2⟩ := h
  refine ⟨h1, ?_⟩
  rcases h2 with h | ⟨b, cap, cur, hv, hb, hg, hr⟩
  · exact Or.inl h
  · refine Or.inr ⟨b, cap, cur, hv, hb, ?_, hr⟩
    rw [g.block b (Array.getElem?_eq_some_iff.1 hg).1, hg]

theorem cellsU_one (f : Nat → Int) (L : Nat) : ∀ u ∈ cellsU f L, u.oneCell' = true := by
  intro u hu
  unfold cellsU at hu
  obtain ⟨i, _, rfl⟩ := List.mem_map.1 hu
  rfl

/-- a row in memory appended to a row of the call's own, whatever lies where -/
theorem wpList_append_rowat {P : Program} (w : World) {ops : Array Oper} {rest : List Oper} {o : Oper} {a : Act} {Q : Exit → Act → World → Prop} (hgd : o.guard = none) (s x : Operand) (t : TypeId)
    (ho : o.op = .call { callee := .builtin .append, args := #[s, x], argTypes := #[t, t] })
    (base : Nat) (e : TypeId) (i : TypeInfo) (z : Value) (bytes : Nat) (ht : P.underlying t = some (.slice e)) (hi : P.info? e = some i) (hz : i.zero = some z)
    (hsize : i.size = 1) (hby : i.bytes = bytes) (hzs : z.cells.size = 1)
    (v : Value) (n : Nat) (xs : List Value) (hs : a.eval s = v) (hown : w.ownsRow base e 1 v n xs)
    (A : Option Addr) (L C : Nat) (f : Nat → Int) (hx : a.eval x = .slice A L C) (hr : RowAt w A L f) (hC : A = none → C = 0)
    (h63 : n + L ≤ maxLen) (hbytes : (n + L) * bytes ≤ 140737488355328) (hbase : base ≤ w.heap.size)
    (h : ∀ v' w', w'.ownsRow base e 1 v' (n + L) (xs ++ cellsU f L) → w.grownBy w' v.ownBlock → wpList P ops Q rest (a.put o.dst v') w') : wpList P ops Q (o :: rest) a w := by
  cases A with
  | some ad =>
    refine wpList_append_own w hgd s x t ho base e i z 1 bytes ht hi hz hsize hby hzs (by decide) v n xs hs hown ad L C (cellsU f L) hx (by rw [cellsU_len, Nat.mul_one]) (fun j u hu => ?_) (cellsU_one f L) h63 hbytes hbase (fun v' w' h1 h2 _ => h v' w' h1 h2)
    obtain ⟨hj, rfl⟩ := cellsU_get f L j u hu
    obtain ⟨b, off, e', hc⟩ := hr.at hj
    cases e'
    have := hc j hj
    have hadd : (⟨b, off, none⟩ : Addr).add j = ⟨b, off + j, none⟩ := by rw [Addr.add_lit]
    rw [hadd]; exact this
  | none =>
    have hL : L = 0 := by
      rcases hr.1 with h0 | ⟨b, off, e', _⟩
      · exact h0
      · cases e'
    subst hL
    obtain rfl := hC rfl
    refine wpList_plain hgd fun K hK' => ?_
    have hrun := run_append_owned_none (P := P) w base t o.type e i 1 ht hi v n xs hown
    unfold Oper.wp
    simp [execOp, ho, resolve, invoke, builtin, hs, hx, hrun, Result.andThen]
    exact hK' _ _ (h v w (by simpa [cellsU] using hown) (World.grownBy.refl _ _))

theorem row_of_own {W : World} {base L : Nat} {v : Value} {f : Nat → Int} (hf : ∀ i, 0 ≤ f i ∧ f i < 256) (h : W.ownsRow base 5 1 v L (cellsU f L)) :
    ∃ A cap, v = .slice A L cap ∧ L ≤ cap ∧ cap ≤ maxLen ∧ RowAt W A L f ∧ ∀ a, A = some a → base ≤ a.block ∧ a.block < W.heap.size := by
  obtain ⟨_, h⟩ := h
  rcases h with ⟨rfl, rfl⟩ | ⟨g, cap, cur, rfl, hb, hg, h1, h2, h3, h4⟩
  · exact ⟨none, 0, rfl, Nat.le_refl _, Nat.zero_le _, ⟨Or.inl rfl, hf⟩, fun a ha => by cases ha⟩
  · refine ⟨_, cap, rfl, h1, h2, ⟨Or.inr ⟨g, 0, rfl, fun i hi => ?_⟩, hf⟩, fun a ha => by cases ha; exact ⟨hb, (Array.getElem?_eq_some_iff.1 hg).1⟩⟩
    rw [Nat.zero_add, cell_of_row W g i cur _ _ hg]
    have e : (cur.toList.take (L * 1))[i]? = (cellsU f L)[i]? := by rw [h4]
    rw [Nat.mul_one, List.getElem?_take, if_pos hi] at e
    rw [← Array.getElem?_toList, e]
    unfold cellsU
    rw [List.getElem?_map, List.getElem?_range hi]; rfl

/-- the first n cells of a block that is the call's own to write -/
def Own (w : World) (g n : Nat) (f : Nat → Int) : Prop := ∃ cur, w.heap[g]? = some (.cells cur 5 (0, 0)) ∧ n ≤ cur.size ∧ ∀ c, c < n → cur[c]? = some (.int .u8 (f c))

theorem Own.keep {w w' : World} {g n : Nat} {f : Nat → Int} (h : Own w g n f) (b : Bw w w') : Own w' g n f := by
  obtain ⟨cur, h1, h2⟩ := h
  exact ⟨cur, by rw [b.block g (Array.getElem?_eq_some_iff.1 h1).1, h1], h2⟩
theorem Own.lt {w : World} {g n : Nat} {f : Nat → Int} (h : Own w g n f) : g < w.heap.size := by
  obtain ⟨cur, h1, _⟩ := h
  exact (Array.getElem?_eq_some_iff.1 h1).1
theorem Own.cell {w : World} {g n : Nat} {f : Nat → Int} (h : Own w g n f) {c : Nat} (hc : c < n) : w.cell? ⟨g, c, none⟩ = some (.int .u8 (f c)) ∧ w.frozen? ⟨g, c, none⟩ = false := by
  obtain ⟨cur, h1, h2, h3⟩ := h
  exact ⟨(cell_of_row w g c cur _ _ h1).trans (h3 c hc), frozen_of_row w g c cur _ h1⟩
theorem Own.set {w : World} {g n : Nat} {f f' : Nat → Int} (h : Own w g n f) {j : Nat} {x : Int} (hj : j < n) (e : f' j = x) (hf : ∀ c, c < n → c ≠ j → f' c = f c) : Own (w.setCell ⟨g, j, none⟩ (.int .u8 x)) g n f' := by
  obtain ⟨cur, h1, h2, h3⟩ := h
  refine ⟨_, heap_setCell_same w g j cur _ _ h1, by simpa using h2, fun c hc => ?_⟩
  by_cases hcj : c = j
  · subst hcj; rw [Array.getElem?_setIfInBounds_self_of_lt (by omega), e]
  · rw [Array.getElem?_setIfInBounds_ne (Ne.symm hcj), h3 c hc, hf c hc hcj]
theorem Own.congr {w : World} {g n : Nat} {f f' : Nat → Int} (h : Own w g n f) (hf : ∀ c, c < n → f' c = f c) : Own w g n f' := by
  obtain ⟨cur, h1, h2, h3⟩ := h
  exact ⟨cur, h1, h2, fun c hc => by rw [h3 c hc, hf c hc]⟩
theorem Own.less {w : World} {g n m : Nat} {f : Nat → Int} (h : Own w g n f) (hm : m ≤ n) : Own w g m f := by
  obtain ⟨cur, h1, h2, h3⟩ := h
  exact ⟨cur, h1, by omega, fun c hc => h3 c (by omega)⟩
theorem Own.row {w : World} {g n : Nat} {f : Nat → Int} (h : Own w g n f) (hf : ∀ i, 0 ≤ f i ∧ f i < 256) : RowAt w (some ⟨g, 0, none⟩) n f :=
  ⟨Or.inr ⟨g, 0, rfl, fun i hi => by rw [Nat.zero_add]; exact (h.cell hi).1⟩, hf⟩
theorem Own.of {w : World} {base n : Nat} {v : Value} {f : Nat → Int} (h : w.ownsRow base 5 1 v n (cellsU f n)) (hn : 0 < n) :
    ∃ g cap, v = .slice (some ⟨g, 0, none⟩) n cap ∧ base ≤ g ∧ n ≤ cap ∧ cap ≤ maxLen ∧ Own w g n f := by
  rcases h.2 with ⟨_, h0⟩ | ⟨g, cap, cur, hv, hb, hg, h1, h2, h3, h4⟩
  · omega
  · refine ⟨g, cap, hv, hb, h1, h2, cur, hg, by omega, fun c hc => ?_⟩
    rw [Nat.mul_one] at h4
    have h5 : (cur.toList.take n)[c]? = some (.int .u8 (f c)) := by
      rw [h4]; unfold cellsU; rw [List.getElem?_map, List.getElem?_range hc]; rfl
    rwa [List.getElem?_take, if_pos hc, Array.getElem?_toList] at h5

end Go.Proofs.YtldkhbkgmiicbabGreatDoor

/- Names: the mathematics of pieces, paths, their order and where links lead. -/
namespace Go.Proofs.YtldkhbkgmiicbabGreatDoor
open Go.RowKit Go.Deep
set_option linter.unusedVariables false
set_option linter.unusedSimpArgs false

namespace Nm
abbrev B := List UInt8
/-- what stands between a text's strokes -/
def pieces : B → List B
  | [] => [[]]
  | c :: l => if c = 47 then [] :: pieces l else match pieces l with | [] => [[c]] | p :: ps => (c :: p) :: ps
/-- parts with a stroke between any two -/
def joined : List B → B
  | [] => []
  | [p] => p
  | p :: q :: r => p ++ 47 :: joined (q :: r)
theorem pieces_ne (l : B) : pieces l ≠ [] := by
  cases l with
  | nil => simp [pieces]
  | cons c l =>
    unfold pieces
    split
    · simp
    · split <;> simp
theorem pieces_other {c : UInt8} {l : B} (h : c ≠ 47) {p : B} {ps : List B} (e : pieces l = p :: ps) : pieces (c :: l) = (c :: p) :: ps := by
  unfold pieces; rw [if_neg h, e]
theorem pieces_stroke {l : B} : pieces (47 :: l) = [] :: pieces l := by
  rw [pieces, if_pos rfl]
theorem joined_cons (p : B) {ps : List B} (h : ps ≠ []) : joined (p :: ps) = p ++ 47 :: joined ps := by
  cases ps with
  | nil => exact absurd rfl h
  | cons q r => rfl
theorem joined_pieces : ∀ l : B, joined (pieces l) = l
  | [] => rfl
  | c :: l => by
    have ih := joined_pieces l
    by_cases h : c = 47
    · subst h
      rw [pieces_stroke, joined_cons _ (pieces_ne l), ih]; rfl
    · cases e : pieces l with
      | nil => exact absurd e (pieces_ne l)
      | cons p ps =>
        rw [pieces_other h e]
        rw [e] at ih
        cases ps with
        | nil => show c :: p = c :: l; rw [show p = l from ih]
        | cons q r => show c :: (p ++ 47 :: joined (q :: r)) = c :: l; rw [← ih]; rfl
theorem pieces_no : ∀ (l : B) (p : B), p ∈ pieces l → (47 : UInt8) ∉ p
  | [], p, h => by simp [pieces] at h; subst h; simp
  | c :: l, p, h => by
    by_cases hc : c = 47
    · subst hc
      rw [pieces_stroke] at h
      rcases List.mem_cons.1 h with rfl | h
      · simp
      · exact pieces_no l p h
    · cases e : pieces l with
      | nil => exact absurd e (pieces_ne l)
      | cons q ps =>
        rw [pieces_other hc e] at h
        rcases List.mem_cons.1 h with rfl | h
        · intro hm
          rcases List.mem_cons.1 hm with hm | hm
          · exact hc hm.symm
          · exact pieces_no l q (by rw [e]; simp) hm
        · exact pieces_no l p (by rw [e]; exact List.mem_cons_of_mem _ h)
theorem pieces_free : ∀ (p : B), (47 : UInt8) ∉ p → pieces p = [p]
  | [], _ => rfl
  | c :: p, h => by
    have hc : c ≠ 47 := fun e => h (by rw [e]; simp)
    exact pieces_other hc (pieces_free p (fun hm => h (List.mem_cons_of_mem _ hm)))
theorem pieces_append : ∀ (p l : B), (47 : UInt8) ∉ p → pieces (p ++ 47 :: l) = p :: pieces l
  | [], l, _ => pieces_stroke
  | c :: p, l, h => by
    have hc : c ≠ 47 := fun e => h (by rw [e]; simp)
    exact pieces_other hc (pieces_append p l (fun hm => h (List.mem_cons_of_mem _ hm)))
theorem pieces_joined : ∀ (ps : List B), ps ≠ [] → (∀ p ∈ ps, (47 : UInt8) ∉ p) → pieces (joined ps) = ps
  | [], h, _ => absurd rfl h
  | [p], _, h => pieces_free p (h p (by simp))
  | p :: q :: r, _, h => by
    show pieces (p ++ 47 :: joined (q :: r)) = _
    rw [pieces_append p _ (h p (by simp)), pieces_joined (q :: r) (by simp) (fun x hx => h x (List.mem_cons_of_mem _ hx))]
theorem pieces_inj {a b : B} (h : pieces a = pieces b) : a = b := by rw [← joined_pieces a, h, joined_pieces]
/-- how many bytes parts and a stroke behind each are -/
def tot : List B → Nat
  | [] => 0
  | p :: ps => p.length + 1 + tot ps
theorem tot_append : ∀ (a b : List B), tot (a ++ b) = tot a + tot b
  | [], b => by simp [tot]
  | p :: a, b => by simp only [List.cons_append, tot, tot_append a b]; omega
theorem tot_joined : ∀ ps : List B, ps ≠ [] → tot ps = (joined ps).length + 1
  | [], h => absurd rfl h
  | [p], _ => rfl
  | p :: q :: r, _ => by
    rw [joined_cons p (by simp), tot, tot_joined (q :: r) (by simp), List.length_append, List.length_cons]; omega
theorem len_tot : ∀ ps : List B, ps.length ≤ tot ps
  | [] => Nat.le_refl _
  | p :: ps => by have := len_tot ps; simp only [List.length_cons, tot]; omega
theorem len_pieces (l : B) : (pieces l).length ≤ l.length + 1 := by
  have h := len_tot (pieces l)
  rw [tot_joined _ (pieces_ne l), joined_pieces] at h
  exact h
/-- the pieces of a text up to a place: all but the last are whole, the last one goes on from there -/
def Cut (l : B) (i : Nat) (out : List B) (from_ : Nat) : Prop := i ≤ l.length ∧ pieces (l.take i) = out ++ [(l.take i).drop from_] ∧ from_ = tot out ∧ from_ ≤ i
/-- pieces with the places where they begin -/
def ats : Nat → List B → List (Nat × B)
  | _, [] => []
  | k, p :: ps => (k, p) :: ats (k + p.length + 1) ps
theorem ats_append : ∀ (k : Nat) (a b : List B), ats k (a ++ b) = ats k a ++ ats (k + tot a) b
  | k, [], b => by simp [ats, tot]
  | k, p :: a, b => by
    simp only [List.cons_append, ats, ats_append (k + p.length + 1) a b, tot]
    rw [show k + p.length + 1 + tot a = k + (p.length + 1 + tot a) by omega]
theorem ats_length : ∀ (k : Nat) (a : List B), (ats k a).length = a.length
  | _, [] => rfl
  | k, p :: a => by simp only [ats, List.length_cons, ats_length]
theorem ats_get : ∀ (k : Nat) (a : List B) (j : Nat) (h : j < a.length), (ats k a)[j]? = some (k + tot (a.take j), a[j])
  | k, p :: a, 0, h => by simp [ats, tot]
  | k, p :: a, j + 1, h => by
    have := ats_get (k + p.length + 1) a j (by simpa using h)
    simp only [ats, List.getElem?_cons_succ, this, List.take_succ_cons, tot, List.getElem_cons_succ]
    congr 2
    omega
end Nm
end Go.Proofs.YtldkhbkgmiicbabGreatDoor

/- Texts as lists of bytes; the contract of the document's own Pieces. -/
namespace Go.Proofs.YtldkhbkgmiicbabGreatDoor
open Go.RowKit Go.Deep
set_option linter.unusedVariables false
set_option linter.unusedSimpArgs false

namespace Nm
/-- a text of these bytes -/
def S (l : B) : ByteArray := ⟨l.toArray⟩
theorem toList_S (l : B) : (S l).toList = l := ByteArray.toList_mk l
theorem S_toList (s : ByteArray) : S s.toList = s := by
  rw [ByteArray.toList_eq]; unfold S; rw [Array.toArray_toList]
theorem size_S (l : B) : (S l).size = l.length := by unfold S; rfl
theorem size_toList (s : ByteArray) : s.toList.length = s.size := by rw [ByteArray.toList_eq, Array.length_toList]; rfl
theorem extract_S (s : ByteArray) (a b : Nat) : s.extract a b = S ((s.toList.drop a).take (b - a)) := by
  have h := ByteArray.extract_mk s.toList a b
  rw [show ByteArray.mk s.toList.toArray = s from S_toList s] at h
  exact h
theorem extract_from (s : ByteArray) (a : Nat) : s.extract a s.size = S (s.toList.drop a) := by
  rw [extract_S, List.take_of_length_le]
  rw [List.length_drop, size_toList]; exact Nat.le_refl _
theorem extract_cut (s : ByteArray) (a b : Nat) : s.extract a b = S ((s.toList.take b).drop a) := by
  rw [extract_S, List.drop_take]
theorem extract_to (s : ByteArray) (b : Nat) : s.extract 0 b = S (s.toList.take b) := by rw [extract_cut]; rfl
theorem append_S (a b : B) : S a ++ S b = S (a ++ b) := ByteArray.mk_append_mk a b
theorem byte_eq (x y : UInt8) : ((x.toNat : Int) = (y.toNat : Int)) ↔ x = y := by
  constructor
  · intro h; exact UInt8.toNat_inj.1 (by omega)
  · intro h; rw [h]
/-- the cells of a list of pieces -/
def cellsP : List (Nat × B) → List Value
  | [] => []
  | x :: xs => .int .i64 (x.1 : Int) :: .string (S x.2) :: cellsP xs
end Nm

/-- a list of pieces in memory -/
def PcsAt (w : World) (v : Value) (ps : List Nm.B) : Prop := ∃ g cap, v = .slice (some ⟨g, 0, none⟩) ps.length cap ∧ ps.length ≤ cap ∧ g < w.heap.size ∧ ∀ j (h : j < ps.length), w.cell? ⟨g, j * 2, none⟩ = some (.int .i64 ((Nm.tot (ps.take j) : Nat) : Int)) ∧ w.cell? ⟨g, j * 2 + 1, none⟩ = some (.string (Nm.S ps[j]))
theorem PcsAt.keep {w w' : World} {v : Value} {ps : List Nm.B} (h : PcsAt w v ps) (b : Bw w w') : PcsAt w' v ps := by
  obtain ⟨g, cap, hv, h1, h2, h3⟩ := h
  refine ⟨g, cap, hv, h1, Nat.lt_of_lt_of_le h2 b.size, fun j hj => ?_⟩
  rw [b.cell (p := ⟨g, j * 2, none⟩) h2, b.cell (p := ⟨g, j * 2 + 1, none⟩) h2]
  exact h3 j hj
end Go.Proofs.YtldkhbkgmiicbabGreatDoor
