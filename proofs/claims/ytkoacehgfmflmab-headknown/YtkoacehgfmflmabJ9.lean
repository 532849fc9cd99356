/- The program's own Blank, Put and Full, as landed at e169a841. -/
import Derived.Test.YtkoacehgfmflmabJ8
import Derived.Test.YtkoacehgfmflmabJ7
import Derived.Laws.StructEq
namespace Go.Proofs.Ytkoacehgfmflmab
open Go.RowKit Go.Deep
set_option linter.unusedVariables false
set_option linter.unusedSimpArgs false

theorem wpList_load_g10 {P : Program} {ops : Array Oper} {rest : List Oper} {o : Oper} {a : Act} {w : World} {Q : Exit → Act → World → Prop} (hgd : Region.wanted o (yielded ops a.tmps) = true) (ty : TypeId) (x : Operand) (ho : o.op = .load ty x)
    (g : Nat) (hx : a.eval x = .pointer (some ⟨g, 0, none⟩)) (t : TypeId) (cs : Array Value) (fr : Nat × Nat) (d : TypeDesc) (hg : w.heap[g]? = some (.cells cs t fr))
    (hu : P.underlying ty = some d) (hd : (match d with | .struct _ | .array _ _ => true | _ => false) = true) (hi : (P.info? ty).map (·.size) = some cs.size)
    (h : wpList P ops Q rest (a.put o.dst (.agg cs)) w) : wpList P ops Q (o :: rest) a w :=
  wpList_step fun _ hK => by rw [if_pos hgd]; exact wp_load_row ty x ho g hx t cs fr d hg hu hd hi (hK _ _ h)
theorem wpList_built_g10 {P : Program} {ops : Array Oper} {rest : List Oper} {o : Oper} {a : Act} {w : World} {Q : Exit → Act → World → Prop} (hgd : Region.wanted o (yielded ops a.tmps) = true) (t : TypeId) (parts : Array (Nat × Operand)) (ho : o.op = .build t parts)
    (cells : Array Value) (hb : P.built t (parts.map fun (i, x) => (i, a.eval x)).toList = some cells)
    (h : wpList P ops Q rest (a.put o.dst (.agg cells)) w) : wpList P ops Q (o :: rest) a w :=
  wpList_step fun _ hK => by rw [if_pos hgd]; exact wp_build t parts ho (by rw [hb]; rfl) (by rw [hb]; exact hK _ _ h)
set_option maxRecDepth 100000 in
theorem hBlank_any (A : Option Addr) (n ca : Nat) (l : Hd.B) (hl : l.length = n) (w : World) (hr : RowAt w A n (Hd.rowF l)) : Calls Try.prog 12 #[.slice A n ca] w fun e w' =>
    e = .returned (.bool (l == Hd.zeros)) ∧ Bw w w' := by
  have hz := zero_raw
  have hzs : Hid ((Hd.arr Hd.zeros).size = 512) := by show _ = _; rw [Hd.arr_size, zeros_len]
  have hz1 := Hd.arr_one Hd.zeros
  have hiz := info_raw zeros_len
  have hbt := built_raw
  have hgr := guard_raw
  obtain ⟨Z, hZ⟩ : ∃ Z, Hid (Z = Hd.arr Hd.zeros) := ⟨_, rfl⟩
  rw [← hZ.out] at hz hzs hz1 hiz hbt
  have HZ1 : Hid (Z.all (·.oneCell') = true) := hz1
  clear hz1
  by_cases hn : n = 512
  · subst hn
    have HL : Hid (l.length = 512) := hl
    have hi := info_raw hl
    have HS : Hid (Z.size = (Hd.arr l).size) := by show _ = _; rw [hzs.out, Hd.arr_size, HL.out]
    obtain ⟨b, hb⟩ : ∃ b, Hid (b = (l == Hd.zeros)) := ⟨_, rfl⟩
    have heq : ∀ W, (Op.equalIn 10000 42 (.agg (Hd.arr l)) (.agg Z)).run Try.prog W = .ok b W := fun W => by rw [hZ.out, hb.out]; exact equal_raw HL.out zeros_len W
    rw [← hb.out]
    clear hl
    go_enter Try.func12, Try.ntmps12
    go_wp2_with (first
      | (go_at_call 16; refine (htaken_yes A ca l HL.out _ hr).mono ?_; rintro e w1 ⟨rfl, hw1⟩)
      | (refine wpList_store_row rfl 42 _ _ rfl w1.heap.size (Hd.arr l) rfl rfl 42 Z (heap_alloc_new _ _) hi HS.out (Hd.arr_one _) ?_; rw [setRow_alloc_new]; obtain ⟨W2, hW2⟩ : ∃ V, V = w1.alloc (.cells (Hd.arr l) 42) := ⟨_, rfl⟩; have hA2 : ArrAt W2 w1.heap.size l := (by rw [hW2]; exact arr_new _ _); have hb2 : Bw w W2 := (by rw [hW2]; exact bw_alloc7 hw1 _); rw [← hW2]; clear hW2)
      | refine wpList_load_g10 (by rfl) 42 _ rfl w1.heap.size rfl 42 (Hd.arr l) (0, 0) _ hA2 Try.underlying42 rfl hi ?_
      | refine wpList_built_g10 (by rfl) 42 _ rfl Z hbt ?_)
    go_ret
    exact ⟨rfl, hb2⟩
  · have HN : Hid (n ≠ 512) := hn
    have HB : Hid ((l == Hd.zeros) = false) := by
      show _ = _
      rw [beq_eq_false_iff_ne]
      intro e
      rw [e, zeros_len] at hl
      exact hn hl.symm
    rw [HB.out]
    clear hn
    go_enter Try.func12, Try.ntmps12
    go_wp2_with (first
      | (go_at_call 16; refine (htaken_no A n ca HN.out _).mono ?_; rintro e w1 ⟨rfl, hw1⟩; rw [← hZ.out])
      | (refine wpList_store_row rfl 42 _ _ rfl w1.heap.size Z rfl rfl 42 Z (heap_alloc_new _ _) hiz rfl HZ1.out ?_; rw [setRow_alloc_new]))
    go_ret
    exact ⟨rfl, bw_alloc7 hw1 _⟩
/-- a head's struct in a block -/
def HeadAt (w : World) (g : Nat) (h : Hd.Hdr) : Prop := w.heap[g]? = some (.cells (Hd.hv h) 23 (0, 0))
theorem HeadAt.keep {w w' : World} {g : Nat} {h : Hd.Hdr} (a : HeadAt w g h) (b : Bw w w') : HeadAt w' g h := (b.block g (Array.getElem?_eq_some_iff.1 a).1).trans a
set_option maxRecDepth 100000 in
theorem hPut_any (h : Hd.Hdr) (w : World) : Calls Try.prog 6 #[.agg (Hd.hv h)] w fun e w' =>
    (Hd.may h ≠ 0 → e = .returned (.tuple #[.slice none 0 0, .int .i64 ((Hd.may h : Nat) : Int)])) ∧ (Hd.may h = 0 → ∃ g, e = .returned (.tuple #[.slice (some ⟨g, 0, none⟩) 512 512, .int .i64 0]) ∧ NewArr w w' g (Hd.layB h)) ∧ Bw w w' := by
  have hz := zero_raw
  have hzs : Hid ((Hd.arr Hd.zeros).size = 512) := by show _ = _; rw [Hd.arr_size, zeros_len]
  obtain ⟨Z, hZ⟩ : ∃ Z, Hid (Z = Hd.arr Hd.zeros) := ⟨_, rfl⟩
  rw [← hZ.out] at hz hzs
  have hih := info_head h
  obtain ⟨W1, hW1⟩ : ∃ V, V = w.alloc (.cells (Hd.hv h) 23) := ⟨_, rfl⟩
  have hH1 : HeadAt W1 w.heap.size h := by rw [hW1]; exact heap_alloc_new _ _
  have hb1 : Bw w W1 := by rw [hW1]; exact bw_alloc7 (Bw.refl _) _
  obtain ⟨M, hM⟩ : ∃ M, Hid (M = Hd.may h) := ⟨_, rfl⟩
  rw [← hM.out]
  by_cases hm : M = 0
  · have g := Hd.may_good (h := h) (by rw [← hM.out]; exact hm)
    have HG : Hid (Hd.Good h) := g
    have hl := Hd.lay_len g
    have HL : Hid ((Hd.layB h).length = 512) := hl
    have hi := info_raw hl
    have HS : Hid (Z.size = (Hd.arr (Hd.layB h)).size) := by show _ = _; rw [hzs.out, Hd.arr_size, HL.out]
    subst hm
    clear g hl
    go_enter Try.func6, Try.ntmps6
    go_wp2_with (first
      | (rw [← hW1]; clear hW1; refine wpList_load_row rfl 23 _ rfl w.heap.size rfl 23 (Hd.hv h) (0, 0) _ hH1 Try.underlying23 rfl hih ?_)
      | (go_at_call 14; refine (hmay_any h _).mono ?_; rintro e w1 ⟨rfl, hw1⟩; rw [← hM.out]; have hH2 := hH1.keep hw1)
      | (refine wpList_load_row rfl 23 _ rfl w.heap.size rfl 23 (Hd.hv h) (0, 0) _ hH2 Try.underlying23 rfl hih ?_)
      | (go_at_call 15; refine (hlaid_any h HG.out _).mono ?_; rintro e w2 ⟨rfl, hw2⟩)
      | (refine wpList_store_row rfl 42 _ _ rfl w2.heap.size (Hd.arr (Hd.layB h)) rfl rfl 42 Z (heap_alloc_new _ _) hi HS.out (Hd.arr_one _) ?_; rw [setRow_alloc_new]))
    go_ret2
    have hb2 := (hb1.trans hw1).trans hw2
    exact ⟨fun h => absurd rfl h, fun _ => ⟨w2.heap.size, rfl, arr_new _ _, hb2.size⟩, bw_alloc7 hb2 _⟩
  · have HM : Hid (M ≠ 0) := hm
    have e1 : ((M : Int) != 0) = true := by rw [bne_iff_ne]; omega
    clear hm
    go_enter Try.func6, Try.ntmps6
    go_wp2_with (first
      | (rw [← hW1]; clear hW1; refine wpList_load_row rfl 23 _ rfl w.heap.size rfl 23 (Hd.hv h) (0, 0) _ hH1 Try.underlying23 rfl hih ?_)
      | (go_at_call 14; refine (hmay_any h _).mono ?_; rintro e w1 ⟨rfl, hw1⟩; rw [← hM.out]))
    go_ret2
    exact ⟨fun _ => rfl, fun h => absurd h HM.out, hb1.trans hw1⟩
/-- the whole path -/
def Hd.full (n p : ByteArray) : ByteArray := if p.toList == [] then n else p ++ ⟨#[47]⟩ ++ n
set_option maxRecDepth 100000 in
theorem hFull_any (n p k : ByteArray) (mode size time c : Int) (hs : p.size + 1 + n.size ≤ 9223372036854775807) (w : World) :
    Calls Try.prog 13 #[.agg #[.string n, .string p, .int .i64 mode, .int .i64 size, .int .i64 time, .int .u8 c, .string k]] w fun e w' => e = .returned (.string (Hd.full n p)) ∧ Bw w w' := by
  unfold Hd.full
  have s1 : ¬ 9223372036854775807 < p.size + 1 := by omega
  have s2 : ¬ 9223372036854775807 < p.size + 1 + n.size := by omega
  cases hp : p.toList == [] with
  | true =>
    go_enter Try.func13, Try.ntmps13
    go_wp2
    go_ret
    exact ⟨rfl, bw_alloc7 (Bw.refl _) _⟩
  | false =>
    go_enter Try.func13, Try.ntmps13
    go_wp2
    go_ret
    exact ⟨rfl, bw_alloc7 (Bw.refl _) _⟩
end Go.Proofs.Ytkoacehgfmflmab
