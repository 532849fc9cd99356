/- Texts of mine, put together. -/
import Derived.Test.YtldkhbkgmiicbaaGreatDoorBu26
import Derived.Test.YtldkhbkgmiicbaaGreatDoorBu33
import Derived.Laws.StructEq

/- The program's own text and number, as landed at e169a841. -/
namespace Go.Proofs.YtldkhbkgmiicbaaGreatDoor
open Go.RowKit Go.Deep
set_option linter.unusedVariables false
set_option linter.unusedSimpArgs false

/-- a number with a form in so many bytes -/
def Hd.Fits (m L : Nat) : Prop := m ≤ 9223372036854775807 ∧ (m < 8 ^ (L - 1) ∨ m < 256 ^ (L - 1))
/-- the number that a field tells, if it is one's form -/
def Hd.NumOf (l : Hd.B) (z : Int) : Prop := ∀ m : Nat, Hd.Fits m l.length → Hd.numB m l.length = l → z = (m : Int)
end Go.Proofs.YtldkhbkgmiicbaaGreatDoor

/- The program's own told, as landed at e169a841 (written by mktold10.py). -/
namespace Go.Proofs.YtldkhbkgmiicbaaGreatDoor
open Go.RowKit Go.Deep
set_option linter.unusedVariables false
set_option linter.unusedSimpArgs false

theorem step_store_row {P : Program} {w : World} {ops : Array Oper} {o : Oper} {a : Act} {K : Act → World → Prop} {Q : Exit → Act → World → Prop} {E : Prop} (hgd : o.guard = none) (ty : TypeId) (x y : Operand) (ho : o.op = .store ty x y)
    (g : Nat) (cells : Array Value) (hx : a.eval x = .pointer (some ⟨g, 0, none⟩)) (hy : a.eval y = .agg cells)
    (t : TypeId) (old : Array Value) (hg : w.heap[g]? = some (.cells old t (0, 0))) (hi : (P.info? ty).map (·.size) = some cells.size)
    (hold : old.size = cells.size) (h1 : cells.all (·.oneCell') = true) (hh : K (a.put o.dst undef) (w.setRow g cells)) :
    if Region.wanted o (yielded ops a.tmps) = true then Oper.wp P o a w K Q else E := by
  have hw : Region.wanted o (yielded ops a.tmps) = true := by simp [Region.wanted, hgd]
  rw [if_pos hw]
  exact wp_store_row ty x y ho g cells hx hy t old hg hi hold h1 hh
/-- what the fields of bytes seem to tell -/
structure Hd.Told (l : Hd.B) (h : Hd.Hdr) : Prop where
  name : h.name = Hd.first (l.take 100)
  pre : h.pre = Hd.first ((l.drop 345).take 155)
  link : h.link = Hd.first ((l.drop 157).take 100)
  typ : l[156]? = some h.typ
  mode : Hd.NumOf ((l.drop 100).take 8) h.mode
  size : Hd.NumOf ((l.drop 124).take 12) h.size
  time : Hd.NumOf ((l.drop 136).take 12) h.time
def Hd.none7 : Array Value := #[.string ⟨#[]⟩, .string ⟨#[]⟩, .int .i64 0, .int .i64 0, .int .i64 0, .int .u8 0, .string ⟨#[]⟩]
theorem zero_head (w : World) : (zeroValue 61).run Tryz.prog w = .ok (.agg Hd.none7) w := by kernel_rfl
theorem info_head (h : Hd.Hdr) : (Tryz.prog.info? 61).map (·.size) = some (Hd.hv h).size := by unfold Hd.hv; kernel_rfl
theorem Hd.hv_one (h : Hd.Hdr) : (Hd.hv h).all (·.oneCell') = true := by simp [Hd.hv, Value.oneCell']
end Go.Proofs.YtldkhbkgmiicbaaGreatDoor

/- The program's own Blank, Put and Full, as landed at e169a841. -/
namespace Go.Proofs.YtldkhbkgmiicbaaGreatDoor
open Go.RowKit Go.Deep
set_option linter.unusedVariables false
set_option linter.unusedSimpArgs false

theorem wpList_built_g10 {P : Program} {ops : Array Oper} {rest : List Oper} {o : Oper} {a : Act} {w : World} {Q : Exit → Act → World → Prop} (hgd : Region.wanted o (yielded ops a.tmps) = true) (t : TypeId) (parts : Array (Nat × Operand)) (ho : o.op = .build t parts)
    (cells : Array Value) (hb : P.built t (parts.map fun (i, x) => (i, a.eval x)).toList = some cells)
    (h : wpList P ops Q rest (a.put o.dst (.agg cells)) w) : wpList P ops Q (o :: rest) a w :=
  wpList_step fun _ hK => by rw [if_pos hgd]; exact wp_build t parts ho (by rw [hb]; rfl) (by rw [hb]; exact hK _ _ h)
/-- a head's struct in a block -/
def HeadAt (w : World) (g : Nat) (h : Hd.Hdr) : Prop := w.heap[g]? = some (.cells (Hd.hv h) 61 (0, 0))
theorem HeadAt.keep {w w' : World} {g : Nat} {h : Hd.Hdr} (a : HeadAt w g h) (b : Bw w w') : HeadAt w' g h := (b.block g (Array.getElem?_eq_some_iff.1 a).1).trans a
set_option maxRecDepth 100000 in
theorem hPut_any (h : Hd.Hdr) (w : World) : Calls Tryz.prog 87 #[.agg (Hd.hv h)] w fun e w' =>
    (Hd.may h ≠ 0 → e = .returned (.tuple #[.slice none 0 0, .int .i64 ((Hd.may h : Nat) : Int)])) ∧ (Hd.may h = 0 → ∃ g, e = .returned (.tuple #[.slice (some ⟨g, 0, none⟩) 512 512, .int .i64 0]) ∧ NewArr w w' g (Hd.layB h)) ∧ Bw w w' := by
  have hz := zero_raw
  have hzs : Hid ((Hd.arr Hd.zeros).size = 512) := by show _ = _; rw [Hd.arr_size, zeros_len]
  obtain ⟨Z, hZ⟩ : ∃ Z, Hid (Z = Hd.arr Hd.zeros) := ⟨_, rfl⟩
  rw [← hZ.out] at hz hzs
  have hih := info_head h
  obtain ⟨W1, hW1⟩ : ∃ V, V = w.alloc (.cells (Hd.hv h) 61) := ⟨_, rfl⟩
  have hH1 : HeadAt W1 w.heap.size h := by rw [hW1]; exact heap_alloc_new _ _
  have hb1 : Bw w W1 := by rw [hW1]; exact bw_alloc7 (Bw.refl _) _
  obtain ⟨M, hM⟩ : ∃ M, Hid (M = Hd.may h) := ⟨_, rfl⟩
  rw [← hM.out]
  by_cases hm : M = 0
  · have g := Hd.may_good (h := h) (by rw [← hM.out]; exact hm)
    have HG : Hid (Hd.Good h) := g
    have hl := Hd.lay_len g
    have HL : Hid ((Hd.layB h).length = 512) := hl
    have hi := info_raw hl
    have HS : Hid (Z.size = (Hd.arr (Hd.layB h)).size) := by show _ = _; rw [hzs.out, Hd.arr_size, HL.out]
    subst hm
    clear g hl
    go_enter Tryz.func87, Tryz.ntmps87
    go_wp2_with (first
      | (rw [← hW1]; clear hW1; refine wpList_load_row rfl 61 _ rfl w.heap.size rfl 61 (Hd.hv h) (0, 0) _ hH1 Tryz.underlying61 rfl hih ?_)
      | (go_at_call 43; refine (hmay_any h _).mono ?_; rintro e w1 ⟨rfl, hw1⟩; rw [← hM.out]; have hH2 := hH1.keep hw1)
      | (refine wpList_load_row rfl 61 _ rfl w.heap.size rfl 61 (Hd.hv h) (0, 0) _ hH2 Tryz.underlying61 rfl hih ?_)
      | (go_at_call 44; refine (hlaid_any h HG.out _).mono ?_; rintro e w2 ⟨rfl, hw2⟩)
      | (refine wpList_store_row rfl 84 _ _ rfl w2.heap.size (Hd.arr (Hd.layB h)) rfl rfl 84 Z (heap_alloc_new _ _) hi HS.out (Hd.arr_one _) ?_; rw [setRow_alloc_new]))
    go_ret2
    have hb2 := (hb1.trans hw1).trans hw2
    exact ⟨fun h => absurd rfl h, fun _ => ⟨w2.heap.size, rfl, arr_new _ _, hb2.size⟩, bw_alloc7 hb2 _⟩
  · have HM : Hid (M ≠ 0) := hm
    have e1 : ((M : Int) != 0) = true := by rw [bne_iff_ne]; omega
    clear hm
    go_enter Tryz.func87, Tryz.ntmps87
    go_wp2_with (first
      | (rw [← hW1]; clear hW1; refine wpList_load_row rfl 61 _ rfl w.heap.size rfl 61 (Hd.hv h) (0, 0) _ hH1 Tryz.underlying61 rfl hih ?_)
      | (go_at_call 43; refine (hmay_any h _).mono ?_; rintro e w1 ⟨rfl, hw1⟩; rw [← hM.out]))
    go_ret2
    exact ⟨fun _ => rfl, fun h => absurd h HM.out, hb1.trans hw1⟩
/-- the whole path -/
def Hd.full (n p : ByteArray) : ByteArray := if p.toList == [] then n else p ++ ⟨#[47]⟩ ++ n
end Go.Proofs.YtldkhbkgmiicbaaGreatDoor
