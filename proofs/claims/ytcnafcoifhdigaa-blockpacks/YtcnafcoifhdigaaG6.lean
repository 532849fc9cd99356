/- Contracts of the program's pieces and read. -/
import Derived.Test.YtcnafcoifhdigaaG4
import Derived.Laws.ResultCell
namespace Go.Proofs.Ytcnafcoifhdigaa
open Go.RowKit Go.Deep
set_option linter.unusedVariables false
set_option linter.unusedSimpArgs false

/-- Open, with what room its row has -/
theorem open_cap (A : Option Addr) (L ca : Nat) (f : Nat → Int) (hL : L ≤ 140737488355000) (w : World) (hrow : RowAt w A L f) (hca : L ≤ ca) :
    Calls Try.prog 21 #[.slice A L ca] w fun e w' => ∃ A' n' x, e = .returned (.tuple #[.slice A' n' n', .bool x]) ∧ OpenSays L f x n' ∧ NewRow w' w.heap.size A' n' f ∧ Bw w w' := by
  by_cases h4 : L < 4
  · go_enter Try.func21, Try.ntmps21
    go_wp2
    go_ret2
    exact ⟨_, _, _, rfl, ⟨by simp; omega, rfl⟩, ⟨⟨Or.inl rfl, hrow.2⟩, Or.inl rfl⟩, Bw.refl _⟩
  · obtain ⟨n, rfl⟩ : ∃ n, L = n + 4 := ⟨L - 4, by omega⟩
    have hn : ((n + 4 : Nat) : Int) - 4 = (n : Int) := by omega
    have hrn := hrow.less (m := n) (by omega)
    go_enter Try.func21, Try.ntmps21
    have hsb := sealF_bd hrow.2 n
    go_wp2_with (first
      | (go_at_call 18; refine (seal_any A n ca f (by omega) _ hrn).mono ?_; rintro e w1 ⟨g, cap, rfl, hown, hg, hcap, hcm, hw1⟩)
      | (go_at_call 28; refine (equal_any _ _ _ _ _ _ _ _ _ (hown.row hsb) (hrow.keep hw1)).mono ?_; rintro e w' ⟨x, rfl, hx, hw'⟩; subst w'))
    · rename_i hxf
      go_ret2
      obtain rfl : x = false := by simpa using hxf
      refine ⟨_, _, _, rfl, ⟨?_, rfl⟩, ⟨⟨Or.inl rfl, hrow.2⟩, Or.inl rfl⟩, hw1⟩
      rw [hx, Nat.add_sub_cancel, ← seal_opens hrow.2 n]
      simp
    · rename_i hxt
      go_ret2
      obtain rfl : x = true := by simpa using hxt
      have hopen := (hx.1 rfl).2
      refine ⟨_, _, _, rfl, ⟨?_, rfl⟩, ⟨?_, ?_⟩, hw1⟩
      · rw [hx, Nat.add_sub_cancel, ← seal_opens hrow.2 n]
        simp
      · exact ((hown.row hsb).less (by omega)).congr hrow.2 (fun i hi => (hopen i (by omega)).symm)
      · exact Or.inr ⟨g, 0, rfl, hg, hown.lt⟩

/-- a function that cuts pieces off what block g holds -/
abbrev cutFn (g : Nat) : Value := .func (.func 33) #[] #[.pointer (some ⟨g, 0, none⟩)]
/-- block g holds a list of n bytes, the next of which lies at b, off -/
def Feed (w : World) (g b off n : Nat) : Prop := ∃ o, (o = off ∨ n = 0) ∧ w.heap[g]? = some (.cells #[.slice (some ⟨b, o, none⟩) n n] 24 (0, 0))
theorem Feed.keep {w w' : World} {g b off n : Nat} (h : Feed w g b off n) (k : Bw w w') : Feed w' g b off n := by
  obtain ⟨o, h1, h2⟩ := h
  exact ⟨o, h1, (k.block g (Array.getElem?_eq_some_iff.1 h2).1).trans h2⟩

theorem pieces_any (b o n : Nat) (w : World) :
    Calls Try.prog 29 #[.slice (some ⟨b, o, none⟩) n n] w fun e w' => e = .returned (cutFn w.heap.size) ∧ Feed w' w.heap.size b o n ∧ Bw w w' := by
  go_enter Try.func29, Try.ntmps29
  go_wp2
  go_ret
  exact ⟨rfl, ⟨o, Or.inl rfl, heap_alloc_new _ _⟩, Below.alloc (Bw.refl _) (Nat.le_refl _) _⟩

theorem piece_any (g b off n m : Nat) (hm : m ≤ n) (_hn : n ≤ 1000000) (w : World) (hf : Feed w g b off n) :
    Calls Try.prog 33 #[.int .i64 (m : Int), .pointer (some ⟨g, 0, none⟩)] w fun e w' => ∃ o, e = .returned (.slice (some ⟨b, o, none⟩) m m) ∧ (o = off ∨ m = 0) ∧ Feed w' g b (off + m) (n - m) ∧ Bx (· = g) w w' := by
  obtain ⟨o, ho, hB⟩ := hf
  have hc := cell_of_row w g 0 _ _ _ hB
  have hfz := frozen_of_row w g 0 _ _ hB
  have m0 : (0 : Int) ≤ (m : Int) := Int.natCast_nonneg _
  have m1 : (m : Int) ≤ (n : Int) := by omega
  go_enter Try.func33, Try.ntmps33
  go_wp2
  · go_ret
    have hb := heap_setCell_same w g 0 _ _ (.slice (some ⟨b, o, none⟩) 0 0) hB
    refine ⟨o, rfl, ?_, ⟨o, Or.inr rfl, hb⟩, (Bx.refl _ w).put rfl⟩
    rcases ho with h | h
    · exact Or.inl h
    · exact Or.inr (by omega)
  · go_ret
    have hb := heap_setCell_same w g 0 _ _ (.slice (some ⟨b, o + m, none⟩) (n - m) (n - m)) hB
    refine ⟨o, rfl, ?_, ⟨o + m, ?_, hb⟩, (Bx.refl _ w).put rfl⟩
    · rcases ho with h | h
      · exact Or.inl h
      · exact Or.inr (by omega)
    · rcases ho with h | h
      · exact Or.inl (by omega)
      · exact Or.inr (by omega)
theorem piece_at (z : Int) (g b off n m : Nat) (hz : z = (m : Int)) (hm : m ≤ n) (hn : n ≤ 1000000) (w : World) (hf : Feed w g b off n) :
    Calls Try.prog 33 #[.int .i64 z, .pointer (some ⟨g, 0, none⟩)] w fun e w' => ∃ o, e = .returned (.slice (some ⟨b, o, none⟩) m m) ∧ (o = off ∨ m = 0) ∧ Feed w' g b (off + m) (n - m) ∧ Bx (· = g) w w' := by
  subst hz
  exact piece_any g b off n m hm hn w hf

theorem RowAt.sub {w : World} {b o o' L p m : Nat} {f : Nat → Int} (h : RowAt w (some ⟨b, o, none⟩) L f) (hp : p + m ≤ L) (ho : o' = o + p ∨ m = 0) : RowAt w (some ⟨b, o', none⟩) m (fun i => f (p + i)) := by
  refine ⟨?_, fun i => h.2 _⟩
  rcases Nat.eq_zero_or_pos m with h0 | h0
  · exact Or.inl h0
  · refine Or.inr ⟨b, o', rfl, fun i hi => ?_⟩
    obtain ⟨b', off', e, hc⟩ := h.at (k := 0) (by omega)
    cases e
    have := hc (p + i) (by omega)
    rcases ho with rfl | h1
    · rw [Nat.add_assoc]; exact this
    · omega

/-- a function's results, the first of which lies in memory -/
theorem results_row_tmp {P : Program} {fn : Func} {p u : Tmp} {ty : TypeId} (h : fn.results = #[.cell p ty, .tmp u]) (tmps : Array Value) (w : World) (g : Nat) (t : TypeId) (cs : Array Value) (fr : Nat × Nat) (d : TypeDesc)
    (hp : tmps.getD p undef = .pointer (some ⟨g, 0, none⟩)) (hg : w.heap[g]? = some (.cells cs t fr))
    (hu : P.underlying ty = some d) (hd : (match d with | .struct _ | .array _ _ => true | _ => false) = true) (hi : (P.info? ty).map (·.size) = some cs.size) :
    (results fn tmps).run P w = .ok (.tuple #[.agg cs, tmps.getD u undef]) w := by
  rw [results_cell_tmp h, hp]
  simp [asAddr, run_loadVar_row w g t ty cs fr d hg hu hd hi, Result.andThen]

/-- a block in memory -/
def blkCells (k s h : Int) (A : Option Addr) (n c : Nat) : Array Value := #[.int .u64 k, .int .u32 s, .int .u8 h, .slice A n c]
abbrev BlkAt (w : World) (g : Nat) (k s h : Int) (A : Option Addr) (n c : Nat) : Prop := w.heap[g]? = some (.cells (blkCells k s h A n c) 26 (0, 0))
theorem blk_info (k s h : Int) (A : Option Addr) (n c : Nat) : (Try.prog.info? 26).map (·.size) = some (blkCells k s h A n c).size := by kernel_rfl
theorem blk_all (k s h : Int) (A : Option Addr) (n c : Nat) : Hid ((blkCells k s h A n c).all (·.oneCell') = true) := by show _ = _; simp [blkCells, Value.oneCell']
theorem bw_setRow {w w' : World} (h : Bw w w') {g : Nat} (hg : w.heap.size ≤ g) (cs : Array Value) : Bw w (w'.setRow g cs) :=
  ⟨h.os, h.tape, h.output, by rw [size_setRow]; exact h.size, fun b hb => (setRow_other w' g b cs (by omega)).trans (h.block b hb)⟩

/-- what the reading of bytes whose mark and sum are right says -/
structure ReadSays (f : Nat → Int) (e : Int) (k s h n : Nat) : Prop where
  yes : Blk.Rest f → e = 0 ∧ k = Blk.keyOf f ∧ s = Blk.stripeOf f ∧ h = Blk.shardOf f ∧ n = Blk.lenOf f
  no : ¬ Blk.Rest f → e = 62 ∧ k = 0 ∧ s = 0 ∧ h = 0 ∧ n = 0

theorem num_one {f : Nat → Int} (p : Nat) : Blk.num (nb fun i => f (p + i)) 1 = nb f p := by
  show 0 * 256 + _ = _
  rw [Nat.zero_mul, Nat.zero_add]; rfl

theorem wpList_builtB {P : Program} {ops : Array Oper} {rest : List Oper} {o : Oper} {a : Act} {w : World} {Q : Exit → Act → World → Prop} (hg : o.guard = none) (t : TypeId) (parts : Array (Nat × Operand)) (ho : o.op = .build t parts)
    (cells : Array Value) (hb : P.built t (parts.map fun (i, x) => (i, a.eval x)).toList = some cells)
    (h : wpList P ops Q rest (a.put o.dst (.agg cells)) w) : wpList P ops Q (o :: rest) a w :=
  wpList_build hg t parts ho (by rw [hb]; rfl) (by rw [hb]; exact h)
theorem conv_u32 (S : Nat) (h : S < 4294967296) (w : World) : (convert 22 23 (.int .u64 (S : Int))).run Try.prog w = .ok (.int .u32 (S : Int)) w := by
  have e : IntKind.u32.wrap (S : Int) = (S : Int) := by rw [IntKind.wrap_u32']; omega
  simp [convert, run_underlying Try.underlying22, run_underlying Try.underlying23, Conv.intToInt, e]
theorem conv_u8 (H : Nat) (h : H < 256) (w : World) : (convert 22 5 (.int .u64 (H : Int))).run Try.prog w = .ok (.int .u8 (H : Int)) w := by
  have e : IntKind.u8.wrap (H : Int) = (H : Int) := by rw [IntKind.wrap_u8']; omega
  simp [convert, run_underlying Try.underlying22, run_underlying Try.underlying5, Conv.intToInt, e]
end Go.Proofs.Ytcnafcoifhdigaa
