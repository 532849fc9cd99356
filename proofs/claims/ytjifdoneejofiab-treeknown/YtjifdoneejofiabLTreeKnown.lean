/- Proved: the statement TreeKnown answers true (the document's P11.1 to P11.9: limits, kinds and errors have their numbers, and the chapter's examples). -/
import Derived.Test.YtjifdoneejofiabYT
import Derived.Deep.CutRange
import Derived.Test.YtjifdoneejofiabFy
import Derived.ShutString
import Derived.ChangeOld
namespace Go.Proofs.Ytjifdoneejofiab.treeKnown
open Go.ChangeShapes Go.WideShapes Go.ChangeAt Go.RowKit
set_option linter.unusedVariables false

set_option linter.unusedSimpArgs false
open Go.Deep
theorem S_data (s : ByteArray) : Nm.S s.data.toList = s := by cases s; rfl
theorem file_lit (s : ByteArray) (u : World) : Calls Try.prog 21 #[.string s] u fun e w' => e = .returned (.agg (Tr.nI (Tr.fileI s.data.toList)).arr) ∧ Bw u w' := by
  have := file11_any s.data.toList u
  rwa [S_data] at this
theorem fold_lit (s : ByteArray) (u : World) : Calls Try.prog 22 #[.string s] u fun e w' => e = .returned (.agg (Tr.nI (Tr.foldI s.data.toList)).arr) ∧ Bw u w' := by
  have := folder11_any s.data.toList u
  rwa [S_data] at this
theorem bare_file (p : Tr.B) (h : p.length ≤ 100) (u : World) : BodyAt u (Tr.nI (Tr.fileI p)) := bare u _ rfl ⟨by show 1 < 256; decide, by show (-9223372036854775808 : Int) ≤ 0 ∧ (0 : Int) ≤ 9223372036854775807; decide, by show (-9223372036854775808 : Int) ≤ 0 ∧ (0 : Int) ≤ 9223372036854775807; decide, by show p.length ≤ _; omega, by show 0 ≤ _; decide, by show 0 ≤ _; decide⟩
theorem bare_fold (p : Tr.B) (h : p.length ≤ 100) (u : World) : BodyAt u (Tr.nI (Tr.foldI p)) := bare u _ rfl ⟨by show 2 < 256; decide, by show (-9223372036854775808 : Int) ≤ 0 ∧ (0 : Int) ≤ 9223372036854775807; decide, by show (-9223372036854775808 : Int) ≤ 0 ∧ (0 : Int) ≤ 9223372036854775807; decide, by show p.length ≤ _; omega, by show 0 ≤ _; decide, by show 0 ≤ _; decide⟩
theorem fails2 (y0 y1 : Tr.Iv) (pl : Nat) (er : Int) (h0 : ∀ u, BodyAt u y0) (h1 : ∀ u, BodyAt u y1) (h : Tr.chkE [y0.it, y1.it] = (pl, er)) (w : World) :
    Calls Try.prog 20 #[.slice (some ⟨w.heap.size, 0, none⟩) 2 2, .int .i64 (pl : Int), .int .i64 er] (w.alloc (.cells (Tr.cellsI [y0, y1]).toArray 26)) fun e w' => e = .returned (.bool true) ∧ Bw w w' := by
  refine (fails_any (some ⟨w.heap.size, 0, none⟩) 2 [y0, y1] pl er (by show 2 ≤ _; decide) (by show 2 ≤ _; decide) h _ (its_built fun y hy u => ?_)).mono fun e w' hh => ⟨hh.1, (bw_alloc11 (Bw.refl _) _).trans hh.2⟩
  simp only [List.mem_cons, List.not_mem_nil, or_false] at hy
  rcases hy with rfl | rfl
  · exact h0 u
  · exact h1 u
def odd11 : Tr.Iv := Tr.nI ⟨[97], 2, 0, 0, [], [98]⟩
theorem odd_set {w : World} {g : Nat} (h : BoxAt w g (Tr.nI (Tr.foldI [97]))) : BoxAt (w.setCell ⟨g, 5, none⟩ (.string ⟨#[98]⟩)) g odd11 := heap_setCell_same w g 5 _ _ _ h
theorem may_l : Try.prog.built 26 [(0, .string ⟨#[108]⟩), (1, .int .u8 4), (5, .string ⟨#[46, 46, 47, 120]⟩)] = some (Tr.nI (Tr.softI [108] [46, 46, 47, 120])).arr := by kernel_rfl
theorem may_a : Try.prog.built 26 [(0, .string ⟨#[97]⟩)] = some (Tr.nI ⟨[97], 0, 0, 0, [], []⟩).arr := by kernel_rfl
theorem wpList_built11g {P : Program} {ops : Array Oper} {rest : List Oper} {o : Oper} {a : Act} {w : World} {Q : Exit → Act → World → Prop} (hgd : Region.wanted o (yielded ops a.tmps) = true) (t : TypeId) (parts : Array (Nat × Operand)) (ho : o.op = .build t parts)
    (cells : Array Value) (hb : P.built t (parts.map fun (i, x) => (i, a.eval x)).toList = some cells)
    (h : wpList P ops Q rest (a.put o.dst (.agg cells)) w) : wpList P ops Q (o :: rest) a w :=
  wpList_step fun _ hK => by
    rw [if_pos hgd]
    exact wp_build t parts ho (by rw [hb]; rfl) (by rw [hb]; exact hK _ _ h)
def pth : Nat → ByteArray
  | 0 => ⟨#[97, 47, 104]⟩
  | 1 => ⟨#[108]⟩
  | 2 => ⟨#[]⟩
  | 3 => ⟨#[97, 47, 102, 47, 120]⟩
  | 4 => ⟨#[120]⟩
  | _ => ⟨#[108, 47, 108]⟩
def lds : Nat → ByteArray
  | 0 => ⟨#[97, 47, 102]⟩
  | 1 => ⟨#[97]⟩
  | _ => ⟨#[]⟩
def ens : Nat → Int
  | 0 => 0
  | 1 => 0
  | 2 => 0
  | _ => 4
theorem six {k : Nat} (h : k < 6) : k = 0 ∨ k = 1 ∨ k = 2 ∨ k = 3 ∨ k = 4 ∨ k = 5 := by omega
theorem realK {k : Nat} (h : k < 6) : Tr.realE Tr.smI (pth k).data.toList = ((lds k).data.toList, ens k) := by
  rcases six h with rfl | rfl | rfl | rfl | rfl | rfl
  · exact Tr.sm_real0
  · exact Tr.sm_real1
  · exact Tr.sm_real2
  · exact Tr.sm_real3
  · exact Tr.sm_real4
  · exact Tr.sm_real5
theorem pth_len {k : Nat} (h : k < 6) : (pth k).data.toList.length ≤ 100 := by
  rcases six h with rfl | rfl | rfl | rfl | rfl | rfl <;> decide
theorem info_str11 : (Try.prog.info? 9).map (fun i => (i.zero, i.size, i.bytes)) = some (some (.string ⟨#[]⟩), 1, 16) := by kernel_rfl
theorem info_err11 : (Try.prog.info? 28).map (fun i => (i.zero, i.size, i.bytes)) = some (some (.int .i64 0), 1, 8) := by kernel_rfl
theorem wpList_s6 {ops : Array Oper} {rest : List Oper} {o : Oper} {a : Act} {w : World} {Q : Exit → Act → World → Prop} (hgd : o.guard = none) (f : Nat → ByteArray) (ho : o.op = .buildSlice 48 6 #[(0, .const (.string (f 0))), (1, .const (.string (f 1))), (2, .const (.string (f 2))), (3, .const (.string (f 3))), (4, .const (.string (f 4))), (5, .const (.string (f 5)))])
    (h : wpList Try.prog ops Q rest (a.put o.dst (.slice (some ⟨w.heap.size, 0, none⟩) 6 6)) (w.alloc (.cells #[.string (f 0), .string (f 1), .string (f 2), .string (f 3), .string (f 4), .string (f 5)] 9))) : wpList Try.prog ops Q (o :: rest) a w := by
  obtain ⟨i0, hi0, hz0, hz1, hz2⟩ := info_parts info_str11
  refine wpList_buildSlice hgd 48 9 6 _ ho _ i0 _ Try.underlying48 hi0 hz0 (by rw [hz1]; omega) (by rw [hz1]; omega) ?_ h
  rw [hz1]
  kernel_rfl
theorem wpList_e6 {ops : Array Oper} {rest : List Oper} {o : Oper} {a : Act} {w : World} {Q : Exit → Act → World → Prop} (hgd : o.guard = none) (f : Nat → Int) (ho : o.op = .buildSlice 49 6 #[(0, .const (.int .i64 (f 0))), (1, .const (.int .i64 (f 1))), (2, .const (.int .i64 (f 2))), (3, .const (.int .i64 (f 3))), (4, .const (.int .i64 (f 4))), (5, .const (.int .i64 (f 5)))])
    (h : wpList Try.prog ops Q rest (a.put o.dst (.slice (some ⟨w.heap.size, 0, none⟩) 6 6)) (w.alloc (.cells #[.int .i64 (f 0), .int .i64 (f 1), .int .i64 (f 2), .int .i64 (f 3), .int .i64 (f 4), .int .i64 (f 5)] 28))) : wpList Try.prog ops Q (o :: rest) a w := by
  obtain ⟨i0, hi0, hz0, hz1, hz2⟩ := info_parts info_err11
  refine wpList_buildSlice hgd 49 28 6 _ ho _ i0 _ Try.underlying49 hi0 hz0 (by rw [hz1]; omega) (by rw [hz1]; omega) ?_ h
  rw [hz1]
  kernel_rfl
theorem tabs6 (w : World) {k : Nat} (h : k < 6) (x : World) (hx : Bw (((w.alloc (.cells #[.string (pth 0), .string (pth 1), .string (pth 2), .string (pth 3), .string (pth 4), .string (pth 5)] 9)).alloc (.cells #[.string (lds 0), .string (lds 1), .string (lds 2), .string (lds 3), .string (lds 4), .string (lds 5)] 9)).alloc (.cells #[.int .i64 (ens 0), .int .i64 (ens 1), .int .i64 (ens 2), .int .i64 (ens 3), .int .i64 (ens 4), .int .i64 (ens 5)] 28)) x) :
    x.cell? ⟨w.heap.size, k, none⟩ = some (.string (pth k)) ∧ x.cell? ⟨w.heap.size + 1, k, none⟩ = some (.string (lds k)) ∧ x.cell? ⟨w.heap.size + 1 + 1, k, none⟩ = some (.int .i64 (ens k)) := by
  obtain ⟨A, hA⟩ : ∃ A, A = w.alloc (.cells #[.string (pth 0), .string (pth 1), .string (pth 2), .string (pth 3), .string (pth 4), .string (pth 5)] 9) := ⟨_, rfl⟩
  rw [← hA] at hx
  obtain ⟨B, hB⟩ : ∃ B, B = A.alloc (.cells #[.string (lds 0), .string (lds 1), .string (lds 2), .string (lds 3), .string (lds 4), .string (lds 5)] 9) := ⟨_, rfl⟩
  rw [← hB] at hx
  have sA : A.heap.size = w.heap.size + 1 := by rw [hA]; simp
  have sB : B.heap.size = w.heap.size + 1 + 1 := by rw [hB]; simp [sA]
  have b1 : Bw A x := (show Bw A B by rw [hB]; exact bw_alloc11 (Bw.refl _) _).trans ((bw_alloc11 (Bw.refl _) _).trans hx)
  have b2 : Bw B x := (bw_alloc11 (Bw.refl _) _).trans hx
  have c1 : A.cell? ⟨w.heap.size, k, none⟩ = some (.string (pth k)) := by
    rw [hA, cell_of_row _ _ k _ _ _ (heap_alloc_new _ _)]
    rcases six h with rfl | rfl | rfl | rfl | rfl | rfl <;> rfl
  have c2 : B.cell? ⟨A.heap.size, k, none⟩ = some (.string (lds k)) := by
    rw [hB, cell_of_row _ _ k _ _ _ (heap_alloc_new _ _)]
    rcases six h with rfl | rfl | rfl | rfl | rfl | rfl <;> rfl
  have c3 := cell_of_row _ _ k _ _ _ (heap_alloc_new B (.cells #[.int .i64 (ens 0), .int .i64 (ens 1), .int .i64 (ens 2), .int .i64 (ens 3), .int .i64 (ens 4), .int .i64 (ens 5)] 28))
  have e3 : (#[Value.int .i64 (ens 0), .int .i64 (ens 1), .int .i64 (ens 2), .int .i64 (ens 3), .int .i64 (ens 4), .int .i64 (ens 5)])[k]? = some (.int .i64 (ens k)) := by
    rcases six h with rfl | rfl | rfl | rfl | rfl | rfl <;> rfl
  rw [e3, sB] at c3
  rw [sA] at c2
  exact ⟨keep_cell11 c1 b1, keep_cell11 c2 b2, keep_cell11 c3 hx⟩
theorem small_with (y : Tr.Iv) (hy : ∀ u, BodyAt u y) (k g : Nat) (u : World) (h : ItsAt u (some ⟨k, 0, none⟩) (Tr.sm g)) : Calls Try.prog 8 #[.slice (some ⟨k, 0, none⟩) 5 5, .agg y.arr] u fun e w' => ListEnds u.heap.size (Tr.withL Tr.smI y.it) (Tr.withE Tr.smI y.it) e w' ∧ Bw u w' := by
  have := twith_any (some ⟨k, 0, none⟩) 5 (Tr.sm g) y (show 5 * 80 ≤ _ by decide) (Nat.le_refl _) (fun e => by cases e) u h (hy u)
  rwa [Tr.its_sm] at this
theorem small_without (p : Tr.B) (hp : p.length ≤ 100) (k g : Nat) (u : World) (h : ItsAt u (some ⟨k, 0, none⟩) (Tr.sm g)) : Calls Try.prog 13 #[.slice (some ⟨k, 0, none⟩) 5 5, .string (Nm.S p)] u fun e w' => ListEnds u.heap.size (Tr.smI.filter (Tr.wout p)) (Tr.woutE Tr.smI p) e w' ∧ Bw u w' := by
  have := twithout_any (some ⟨k, 0, none⟩) 5 (Tr.sm g) p (show 5 * 80 ≤ _ by decide) (Nat.le_refl _) (by omega) u h
  rwa [Tr.its_sm] at this
theorem small_real (p : Tr.B) (hp : p.length ≤ 100) (k g : Nat) (u : World) (h : ItsAt u (some ⟨k, 0, none⟩) (Tr.sm g)) : Calls Try.prog 15 #[.slice (some ⟨k, 0, none⟩) 5 5, .string (Nm.S p)] u fun e w' => e = .returned (.tuple #[.string (Nm.S (Tr.realE Tr.smI p).1), .int .i64 (Tr.realE Tr.smI p).2]) ∧ Bw u w' := by
  have := treal_any (some ⟨k, 0, none⟩) 5 (Tr.sm g) p (show 5 ≤ _ by decide) (Nat.le_refl _) (by omega) u h
  rwa [Tr.its_sm] at this
theorem keepP {wr u u' : World} {a : Addr} {v : Value} (h : u.cell? a = some v ∧ Bw wr u) (hb : Bw u u') : u'.cell? a = some v ∧ Bw wr u' := ⟨keep_cell11 h.1 hb, h.2.trans hb⟩
def hdI : Tr.Iv := Tr.nI ⟨[97, 47, 105], 3, 0, 0, [], [97, 47, 104]⟩
def tw (g : Nat) : List Tr.Iv := (Tr.sm g).take 3 ++ [hdI]
theorem hd_body (u : World) : BodyAt u hdI := bare u _ rfl ⟨by decide, by decide, by decide, by decide, by decide, by decide⟩
theorem bt_hd : Try.prog.built 26 [(0, .string ⟨#[97, 47, 105]⟩), (1, .int .u8 3), (5, .string ⟨#[97, 47, 104]⟩)] = some hdI.arr := by kernel_rfl
theorem bt_lp : Try.prog.built 26 [(0, .string ⟨#[108]⟩), (1, .int .u8 4), (5, .string ⟨#[108]⟩)] = some (Tr.nI (Tr.softI [108] [108])).arr := by kernel_rfl
theorem twice_own {w' : World} {k g : Nat} (h : w'.heap[k]? = some (.cells (Tr.cellsI (Tr.sm g)).toArray 26 (0, 0))) : w'.ownsRow k 26 6 (.slice (some ⟨k, 0, none⟩) 3 5) 3 (Tr.cellsI ((Tr.sm g).take 3)) :=
  ⟨rfl, .inr ⟨k, 5, _, rfl, Nat.le_refl _, h, by decide, by decide, rfl, rfl⟩⟩
theorem twice_its {w5 w6 : World} {k g : Nat} {v : Value} (hI : ItsAt w5 (some ⟨k, 0, none⟩) (Tr.sm g)) (ho : w6.ownsRow k 26 6 v (3 + 1) (Tr.cellsI ((Tr.sm g).take 3) ++ Tr.cellsI [hdI])) (hgr : w5.grownBy w6 (some k)) :
    ∃ A c, v = .slice A 4 c ∧ 4 ≤ c ∧ ItsAt w6 A (tw g) := by
  rw [← Tr.cellsI_append] at ho
  obtain ⟨A, c, hv, hle, hI6, -, -⟩ := its_of_own (L := tw g) ho (fun y hy => by
    simp only [tw, Tr.sm, List.take_succ_cons, List.take_zero, List.cons_append, List.nil_append, List.mem_cons, List.not_mem_nil, or_false] at hy
    rcases hy with rfl | rfl | rfl | rfl
    · exact ⟨⟨.inl rfl, Tr.rowF_bd _⟩, Nat.le_refl _, fun _ => rfl, ⟨by decide, by decide, by decide, by decide, by decide, by decide⟩⟩
    · have hb := hI.body ⟨Tr.s1, some ⟨g, 0, none⟩, 3⟩ (by simp [Tr.sm])
      refine ⟨⟨.inr ⟨g, 0, rfl, fun i hi => ?_⟩, Tr.rowF_bd _⟩, hb.le, hb.nil, hb.fit⟩
      rcases hb.row.1 with h0 | ⟨b, off, hA, hc⟩
      · exact absurd h0 (by show ¬ (3 : Nat) = 0; decide)
      · cases hA
        have e1 := hc i hi
        have e0 := hc 0 (by show 0 < 3; decide)
        have hgk : g ≠ k := by
          intro e
          subst e
          rcases hI.at_ with h0 | ⟨b2, off2, hA2, h2⟩
          · exact absurd h0 (by simp [Tr.sm])
          · cases hA2
            have := (h2 0 ⟨Tr.s0, none, 0⟩ rfl).c0
            rw [e0] at this
            cases this
        rw [World.cell?_of_block (w := w5) (a := ⟨g, 0 + i, none⟩) (hgr.block g (block_lt_of_cell e1) (fun e => hgk (Option.some.inj e)))]
        exact e1
    · exact ⟨⟨.inl rfl, Tr.rowF_bd _⟩, Nat.le_refl _, fun _ => rfl, ⟨by decide, by decide, by decide, by decide, by decide, by decide⟩⟩
    · exact hd_body _)
  exact ⟨A, c, hv, hle, hI6⟩
theorem tw_fails (A : Option Addr) (c g : Nat) (hc : 4 ≤ c) (u : World) (h : ItsAt u A (tw g)) : Calls Try.prog 20 #[.slice A 4 c, .int .i64 3, .int .i64 113] u fun e w' => e = .returned (.bool true) ∧ Bw u w' :=
  fails_any A c (tw g) 3 113 (by show 4 ≤ _; decide) hc Tr.kn_f3 u h
theorem lp_call (u : World) : Calls Try.prog 15 #[.slice (some ⟨u.heap.size, 0, none⟩) 1 1, .string ⟨#[108]⟩] (u.alloc (.cells (Tr.cellsI [Tr.nI (Tr.softI [108] [108])]).toArray 26)) fun e w' => e = .returned (.tuple #[.string ⟨#[]⟩, .int .i64 114]) ∧ Bw u w' := by
  have := treal_any (some ⟨u.heap.size, 0, none⟩) 1 [Tr.nI (Tr.softI [108] [108])] [108] (by decide) (Nat.le_refl _) (by decide) _ (its_built (W := u) fun y hy v => by
    rw [List.mem_singleton.1 hy]
    exact bare v _ rfl ⟨by decide, by decide, by decide, by decide, by decide, by decide⟩)
  rw [show Tr.realE (Tr.its [Tr.nI (Tr.softI [108] [108])]) [108] = ([], 114) from Tr.lp_real] at this
  exact this.mono fun e w' hh => ⟨hh.1, (bw_alloc11 (Bw.refl _) _).trans hh.2⟩
theorem chV_len (n : Nat) : (Tr.chV n).length = n + 1 := by simp [Tr.chV, Tr.chI]
theorem ch_real (n : Nat) (hn : n ≤ 100) (p : Tr.B) (hp : p.length ≤ 100) (q : Tr.B) (er : Int) (hr : Tr.realE (Tr.chI n) p = (q, er)) (A : Option Addr) (c : Nat) (hc : n + 1 ≤ c) (u : World) (h : ItsAt u A (Tr.chV n)) :
    Calls Try.prog 15 #[.slice A (n + 1) c, .string (Nm.S p)] u fun e w' => e = .returned (.tuple #[.string (Nm.S q), .int .i64 er]) ∧ Bw u w' := by
  have := treal_any A c (Tr.chV n) p (by rw [chV_len]; omega) (by rw [chV_len]; exact hc) (by omega) u h
  rwa [chV_len, Tr.chV_its, hr] at this
theorem ch_make (n : Nat) (hn : 1 ≤ n) (hn2 : n ≤ 100) (m : Int) (hm : m = (n : Int)) (w : World) : Calls Try.prog 25 #[.int .i64 m] w fun e w' => (∃ A c, e = .returned (.slice A (n + 1) c) ∧ n + 1 ≤ c ∧ ItsAt w' A (Tr.chV n)) ∧ Bw w w' := by
  subst hm
  exact chain11_any n hn hn2 w
theorem fold_A (u : World) : Calls Try.prog 22 #[.string ⟨#[65]⟩] u fun e w' => e = .returned (.agg #[.string ⟨#[65]⟩, .int .u8 2, .int .i64 0, .int .i64 0, .slice none 0 0, .string ⟨#[]⟩]) ∧ Bw u w' := fold_lit ⟨#[65]⟩ u
theorem srt_call (u : World) : Calls Try.prog 18 #[.slice (some ⟨u.heap.size, 0, none⟩) 3 3] (u.alloc (.cells (Tr.cellsI [Tr.nI (Tr.fileI [97]), Tr.nI (Tr.foldI [97]), Tr.nI (Tr.foldI [65])]).toArray 26)) fun e w' => (∃ b off c, e = .returned (.slice (some ⟨b, off, none⟩) 3 c) ∧ w'.cell? ⟨b, off, none⟩ = some (.string ⟨#[65]⟩) ∧ w'.cell? ⟨b, off + 6 + 1, none⟩ = some (.int .u8 1) ∧ w'.cell? ⟨b, off + 12 + 1, none⟩ = some (.int .u8 2)) ∧ Bw u w' := by
  have := tsort_any (some ⟨u.heap.size, 0, none⟩) 3 [Tr.nI (Tr.fileI [97]), Tr.nI (Tr.foldI [97]), Tr.nI (Tr.foldI [65])] (by decide) (fun e => by cases e) _ (its_built (W := u) fun y hy v => by
    simp only [List.mem_cons, List.not_mem_nil, or_false] at hy
    rcases hy with rfl | rfl | rfl
    · exact bare_file _ (by decide) v
    · exact bare_fold _ (by decide) v
    · exact bare_fold _ (by decide) v)
  refine this.mono fun e w' hh => ⟨?_, (bw_alloc11 (Bw.refl _) _).trans hh.2⟩
  obtain ⟨v, M, rfl, hst, ho⟩ := hh.1
  have hm := Ss.stable_one Tr.cmpT_ok hst Tr.kn_s
  obtain ⟨A, c, hv, -, hI, -, -⟩ := ho.its
  have hl : M.length = 3 := by rw [← Tr.its_len, hm]; rfl
  obtain ⟨y0, hy0, hi0⟩ := Tr.its_of (L := M) (i := 0) (x := Tr.foldI [65]) (by rw [hm]; rfl)
  obtain ⟨y1, hy1, hi1⟩ := Tr.its_of (L := M) (i := 1) (x := Tr.fileI [97]) (by rw [hm]; rfl)
  obtain ⟨y2, hy2, hi2⟩ := Tr.its_of (L := M) (i := 2) (x := Tr.foldI [97]) (by rw [hm]; rfl)
  rcases hI.at_ with h0 | ⟨b, off, rfl, hY⟩
  · rw [h0] at hl; cases hl
  rw [hl] at hv
  subst hv
  have c0 := (hY 0 y0 hy0).c0
  have c1 := (hY 1 y1 hy1).c1
  have c2 := (hY 2 y2 hy2).c1
  rw [hi0, Nat.zero_mul, Nat.add_zero] at c0
  rw [hi1] at c1
  rw [hi2] at c2
  exact ⟨b, off, c, rfl, c0, c1, c2⟩
theorem keep12 {wH u' : World} {g : Nat} {a0 a1 a2 a3 a4 a5 a6 a7 a8 a9 a10 a11 : Value} (h : wH.cell? ⟨g, 0, none⟩ = some a0 ∧ wH.cell? ⟨g, 1, none⟩ = some a1 ∧ wH.cell? ⟨g, 2, none⟩ = some a2 ∧ wH.cell? ⟨g, 3, none⟩ = some a3 ∧ wH.cell? ⟨g, 4, none⟩ = some a4 ∧ wH.cell? ⟨g, 5, none⟩ = some a5 ∧ wH.cell? ⟨g, 6, none⟩ = some a6 ∧ wH.cell? ⟨g, 7, none⟩ = some a7 ∧ wH.cell? ⟨g, 8, none⟩ = some a8 ∧ wH.cell? ⟨g, 9, none⟩ = some a9 ∧ wH.cell? ⟨g, 10, none⟩ = some a10 ∧ wH.cell? ⟨g, 11, none⟩ = some a11) (b : Bw wH u') :
    (u'.cell? ⟨g, 0, none⟩ = some a0 ∧ u'.cell? ⟨g, 1, none⟩ = some a1 ∧ u'.cell? ⟨g, 2, none⟩ = some a2 ∧ u'.cell? ⟨g, 3, none⟩ = some a3 ∧ u'.cell? ⟨g, 4, none⟩ = some a4 ∧ u'.cell? ⟨g, 5, none⟩ = some a5 ∧ u'.cell? ⟨g, 6, none⟩ = some a6 ∧ u'.cell? ⟨g, 7, none⟩ = some a7 ∧ u'.cell? ⟨g, 8, none⟩ = some a8 ∧ u'.cell? ⟨g, 9, none⟩ = some a9 ∧ u'.cell? ⟨g, 10, none⟩ = some a10 ∧ u'.cell? ⟨g, 11, none⟩ = some a11) ∧ Bw wH u' := by
  obtain ⟨h0, h1, h2, h3, h4, h5, h6, h7, h8, h9, h10, h11⟩ := h
  exact ⟨⟨keep_cell11 h0 b, keep_cell11 h1 b, keep_cell11 h2 b, keep_cell11 h3 b, keep_cell11 h4 b, keep_cell11 h5 b, keep_cell11 h6 b, keep_cell11 h7 b, keep_cell11 h8 b, keep_cell11 h9 b, keep_cell11 h10 b, keep_cell11 h11 b⟩, b⟩
set_option maxRecDepth 100000 in
set_option maxHeartbeats 8000000 in
theorem walk  (w : World)  :
    Calls Try.prog 6 #[] w fun e w' => e = .returned (.bool true) ∧ Below w.heap.size w w' := by
  have hl := may_l
  have hl2 := may_a
  have HF1 : Hid (∀ u, Calls Try.prog 20 #[.slice (some ⟨u.heap.size, 0, none⟩) 2 2, .int .i64 0, .int .i64 112] (u.alloc (.cells (Tr.cellsI [Tr.nI (Tr.fileI [97, 47, 102]), Tr.nI (Tr.foldI [97])]).toArray 26)) fun e w' => e = .returned (.bool true) ∧ Bw u w') := fun u => fails2 _ _ 0 112 (bare_file _ (by decide)) (bare_fold _ (by decide)) Tr.kn_f1 u
  have HF2 : Hid (∀ u, Calls Try.prog 20 #[.slice (some ⟨u.heap.size, 0, none⟩) 2 2, .int .i64 1, .int .i64 111] (u.alloc (.cells (Tr.cellsI [Tr.nI (Tr.foldI [97]), Tr.nI (Tr.foldI [97])]).toArray 26)) fun e w' => e = .returned (.bool true) ∧ Bw u w') := fun u => fails2 _ _ 1 111 (bare_fold _ (by decide)) (bare_fold _ (by decide)) Tr.kn_f2 u
  have HM1 : Hid (∀ u, Calls Try.prog 23 #[.agg (Tr.nI (Tr.softI [108] [46, 46, 47, 120])).arr] u fun e w' => e = .returned (.int .i64 83) ∧ Bw u w') := fun u => by
    have := tmay_any (Tr.nI (Tr.softI [108] [46, 46, 47, 120])) ⟨by decide, by decide, by decide, by decide, by decide, by decide⟩ u
    rwa [show Tr.mayE (Tr.nI (Tr.softI [108] [46, 46, 47, 120])).it = 83 from Tr.kn_m1] at this
  have HM2 : Hid (∀ u, Calls Try.prog 23 #[.agg odd11.arr] u fun e w' => e = .returned (.int .i64 110) ∧ Bw u w') := fun u => by
    have := tmay_any odd11 ⟨by decide, by decide, by decide, by decide, by decide, by decide⟩ u
    rwa [show Tr.mayE odd11.it = 110 from Tr.kn_m2] at this
  have HM3 : Hid (∀ u, Calls Try.prog 23 #[.agg (Tr.nI ⟨[97], 0, 0, 0, [], []⟩).arr] u fun e w' => e = .returned (.int .i64 1) ∧ Bw u w') := fun u => by
    have := tmay_any (Tr.nI ⟨[97], 0, 0, 0, [], []⟩) ⟨by decide, by decide, by decide, by decide, by decide, by decide⟩ u
    rwa [show Tr.mayE (Tr.nI ⟨[97], 0, 0, 0, [], []⟩).it = 1 from Tr.kn_m3] at this
  have t1 : Hid (w = w) := rfl
  have t2 : Hid (w = w) := rfl
  have t3 : Hid (w = w) := rfl
  have t4 : Hid (w = w) := rfl
  have t5 : Hid (w = w) := rfl
  have t6 : Hid (w = w) := rfl
  go_enter Try.func6, Try.ntmps6
  go_upto_region 3 with (first
    | (go_at_call 7; refine (awake11_any _).mono ?_; rintro e w1 ⟨rfl, hw1⟩)
    | (go_at_call 21; refine (file_lit _ _).mono ?_; rintro e wf ⟨rfl, hwf⟩)
    | (go_at_call 22; refine (fold_lit _ _).mono ?_; rintro e wg ⟨rfl, hwg⟩)
    | (refine wpList_build2 (by rfl) (.tmp 31) (.tmp 32) rfl (Tr.nI (Tr.fileI [97, 47, 102])) (Tr.nI (Tr.foldI [97])) rfl rfl ?_; have t7 : Hid (w = w) := rfl)
    | (go_at_call 20; clear t7; refine (HF1.out _).mono ?_; rintro e w2 ⟨rfl, hw2⟩)
    | (refine wpList_build2 (by rfl) (.tmp 38) (.tmp 39) rfl (Tr.nI (Tr.foldI [97])) (Tr.nI (Tr.foldI [97])) rfl rfl ?_; have t8 : Hid (w = w) := rfl)
    | (go_at_call 20; clear t8; refine (HF2.out _).mono ?_; rintro e w3 ⟨rfl, hw3⟩; have hb3 : Bw w w3 := (by repeat (first | exact Bw.refl _ | assumption | (apply Bw.trans; assumption)))))
  clear HF1 HF2 hw1 hwf hw2 hwg hw3
  go_upto_region 4 with (first
    | (go_at_call 22; refine (fold_lit _ _).mono ?_; rintro e w4 ⟨rfl, hw4⟩; have hb4 : Bw w w4 := hb3.trans hw4)
    | (refine wpList_store_row rfl 26 _ _ rfl w4.heap.size (Tr.nI (Tr.foldI [97])).arr rfl rfl 26 _ (heap_alloc_new _ _) (info_it _) rfl (Tr.arr_one _) ?_; rw [setRow_alloc_new]; obtain ⟨W5, hW5⟩ : ∃ V, V = w4.alloc (.cells (Tr.nI (Tr.foldI [97])).arr 26) := ⟨_, rfl⟩; have hX5 : BoxAt W5 w4.heap.size (Tr.nI (Tr.foldI [97])) := (by rw [hW5]; exact BoxAt.new _ _); have hb5 : Bw w W5 := (by rw [hW5]; exact bw_alloc11 hb4 _); rw [← hW5]; clear hW5))
  rw [put_none11]
  have c5 := hX5.cells.2.2.2.2.2
  have f5 : W5.frozen? ⟨w4.heap.size, 5, none⟩ = false := frozen_of_row W5 _ 5 _ _ hX5
  have HX6 : Hid (BoxAt (W5.setCell ⟨w4.heap.size, 5, none⟩ (.string ⟨#[98]⟩)) w4.heap.size odd11) := odd_set hX5
  have hb6 : Bw w (W5.setCell ⟨w4.heap.size, 5, none⟩ (.string ⟨#[98]⟩)) := hb5.put hb4.size _ _
  obtain ⟨w6, hw6⟩ : ∃ V, V = W5.setCell ⟨w4.heap.size, 5, none⟩ (.string ⟨#[98]⟩) := ⟨_, rfl⟩
  rw [← hw6] at HX6 hb6
  clear hX5
  go_upto_region 5 with fail
  rw [← hw6]
  clear hw6 c5 f5
  go_upto_region 7 with (first
    | (refine wpList_built11 (by rfl) 26 #[(0, .const (.string ⟨#[108]⟩)), (1, .const (.int .u8 4)), (5, .const (.string ⟨#[46, 46, 47, 120]⟩))] rfl _ hl ?_)
    | (go_at_call 23; clear t1; refine (HM1.out _).mono ?_; rintro e w7 ⟨rfl, hw7⟩; replace HX6 : Hid (BoxAt w7 w4.heap.size odd11) := HX6.out.keep hw7)
    | refine wpList_load_it (by rfl) (.tmp 1) rfl w4.heap.size 0 rfl odd11 HX6.out.it ?_
    | (go_at_call 23; clear t2; refine (HM2.out _).mono ?_; rintro e w8 ⟨rfl, hw8⟩)
    | (refine wpList_built11g (by rfl) 26 #[(0, .const (.string ⟨#[97]⟩))] rfl _ hl2 ?_)
    | (go_at_call 23; clear t3; refine (HM3.out _).mono ?_; rintro e w9 ⟨rfl, hw9⟩; have hb9 : Bw w w9 := hb6.trans (hw7.trans (hw8.trans hw9)); clear hw7 hw8 hw9))
  clear HM1 HM2 HM3 HX6 hb3 hb4 hb5 hb6 hl hl2
  have HSm : Hid (∀ u, Calls Try.prog 24 #[] u fun e w' => SmallEnds e w' ∧ Bw u w') := fun u => small_any u
  have HW1 : Hid (∀ k g u, ItsAt u (some ⟨k, 0, none⟩) (Tr.sm g) → Calls Try.prog 8 #[.slice (some ⟨k, 0, none⟩) 5 5, .agg (Tr.nI (Tr.fileI [97])).arr] u fun e w' => e = .returned (.tuple #[.slice none 0 0, .int .i64 112]) ∧ Bw u w') := fun k g u h => (small_with _ (bare_file [97] (by decide)) k g u h).mono fun e w' hh => ⟨by
    have := hh.1.1 (by rw [show Tr.withE Tr.smI (Tr.nI (Tr.fileI [97])).it = 112 from Tr.kn_w1]; decide)
    rwa [show Tr.withE Tr.smI (Tr.nI (Tr.fileI [97])).it = 112 from Tr.kn_w1] at this, hh.2⟩
  have HW2 : Hid (∀ k g u, ItsAt u (some ⟨k, 0, none⟩) (Tr.sm g) → Calls Try.prog 8 #[.slice (some ⟨k, 0, none⟩) 5 5, .agg (Tr.nI (Tr.fileI [98])).arr] u fun e w' => (∃ b off c, e = .returned (.tuple #[.slice (some ⟨b, off, none⟩) 6 c, .int .i64 0]) ∧ ∀ x, Bw w' x → x.cell? ⟨b, off + 24, none⟩ = some (.string ⟨#[98]⟩)) ∧ Bw u w') := fun k g u h => (small_with _ (bare_file [98] (by decide)) k g u h).mono fun e w' hh => ⟨by
    obtain ⟨v, M, rfl, hm, ho⟩ := hh.1.2 Tr.kn_w2
    rw [show Tr.withL Tr.smI (Tr.nI (Tr.fileI [98])).it = _ from Tr.kn_w3] at hm
    obtain ⟨A, c, hv, -, hI, -, -⟩ := ho.its
    have hl : M.length = 6 := by rw [← Tr.its_len, hm]; rfl
    obtain ⟨y, hy, hyi⟩ := Tr.its_of (L := M) (i := 4) (x := Tr.fileI [98]) (by rw [hm]; rfl)
    obtain ⟨b, off, rfl, hY, -⟩ := hI.at hy
    rw [hl] at hv
    subst hv
    refine ⟨b, off, c, rfl, fun x hx => ?_⟩
    have := (hY.keep hx).c0
    rw [hyi] at this
    exact this, hh.2⟩
  have HO1 : Hid (∀ k g u, ItsAt u (some ⟨k, 0, none⟩) (Tr.sm g) → Calls Try.prog 13 #[.slice (some ⟨k, 0, none⟩) 5 5, .string ⟨#[97, 47, 102]⟩] u fun e w' => e = .returned (.tuple #[.slice none 0 0, .int .i64 113]) ∧ Bw u w') := fun k g u h => (small_without [97, 47, 102] (by decide) k g u h).mono fun e w' hh => ⟨by
    have := hh.1.1 (by rw [Tr.kn_o1]; decide)
    rwa [Tr.kn_o1] at this, hh.2⟩
  have HO2 : Hid (∀ k g u, ItsAt u (some ⟨k, 0, none⟩) (Tr.sm g) → Calls Try.prog 13 #[.slice (some ⟨k, 0, none⟩) 5 5, .string ⟨#[97]⟩] u fun e w' => (∃ b off c, e = .returned (.tuple #[.slice (some ⟨b, off, none⟩) 1 c, .int .i64 0]) ∧ ∀ x, Bw w' x → x.cell? ⟨b, off, none⟩ = some (.string ⟨#[108]⟩)) ∧ Bw u w') := fun k g u h => (small_without [97] (by decide) k g u h).mono fun e w' hh => ⟨by
    obtain ⟨v, M, rfl, hm, ho⟩ := hh.1.2 Tr.kn_o2
    rw [Tr.kn_o3] at hm
    obtain ⟨A, c, hv, -, hI, -, -⟩ := ho.its
    have hl : M.length = 1 := by rw [← Tr.its_len, hm]; rfl
    obtain ⟨y, hy, hyi⟩ := Tr.its_of (L := M) (i := 0) (x := Tr.s4) (by rw [hm]; rfl)
    obtain ⟨b, off, rfl, hY, -⟩ := hI.at hy
    rw [hl] at hv
    subst hv
    refine ⟨b, off, c, rfl, fun x hx => ?_⟩
    have := (hY.keep hx).c0
    rw [hyi, Nat.zero_mul, Nat.add_zero] at this
    exact this, hh.2⟩
  have HO3 : Hid (∀ k g u, ItsAt u (some ⟨k, 0, none⟩) (Tr.sm g) → Calls Try.prog 13 #[.slice (some ⟨k, 0, none⟩) 5 5, .string ⟨#[97, 47, 104]⟩] u fun e w' => (∃ A c, e = .returned (.tuple #[.slice A 4 c, .int .i64 0])) ∧ Bw u w') := fun k g u h => (small_without [97, 47, 104] (by decide) k g u h).mono fun e w' hh => ⟨by
    obtain ⟨v, M, rfl, hm, ho⟩ := hh.1.2 Tr.kn_o4
    obtain ⟨A, c, hv, -, hI, -, -⟩ := ho.its
    have hl : M.length = 4 := by rw [← Tr.its_len, hm]; exact Tr.kn_o5
    rw [hl] at hv
    subst hv
    exact ⟨A, c, rfl⟩, hh.2⟩
  have s1 : Hid (w = w) := rfl
  have s2 : Hid (w = w) := rfl
  have s3 : Hid (w = w) := rfl
  have s4 : Hid (w = w) := rfl
  have s5 : Hid (w = w) := rfl
  go_upto_region 12 with (first
    | (go_at_call 24; refine (HSm.out _).mono ?_; rintro e ws ⟨⟨ks, gs, rfl, hIs⟩, hws⟩)
    | (go_at_call 21; refine (file_lit _ _).mono ?_; rintro e wf ⟨rfl, hwf⟩; replace hIs := hIs.keep hwf)
    | (go_at_call 8; clear s1; refine (HW1.out ks gs _ hIs).mono ?_; rintro e wa ⟨rfl, hwa⟩; clear hIs)
    | (go_at_call 8; clear s2; refine (HW2.out ks gs _ hIs).mono ?_; rintro e wu ⟨⟨bu, ou, cu, rfl, hU⟩, hwu⟩; clear hIs; have HU : Hid _ := hU; clear hU)
    | (go_at_call 13; clear s3; refine (HO1.out ks gs _ hIs).mono ?_; rintro e wb ⟨rfl, hwb⟩; clear hIs)
    | (go_at_call 13; clear s4; refine (HO2.out ks gs _ hIs).mono ?_; rintro e wv ⟨⟨bv, ov, cv, rfl, hV⟩, hwv⟩; clear hIs; have HV : Hid _ := hV; clear hV)
    | (go_at_call 13; clear s5; refine (HO3.out ks gs _ hIs).mono ?_; rintro e wz ⟨⟨Az, cz, rfl⟩, hwz⟩; clear hIs))
  have xu := HU.out wz (by repeat (first | exact Bw.refl _ | assumption | (apply Bw.trans; assumption)))
  have xv := HV.out wz (by repeat (first | exact Bw.refl _ | assumption | (apply Bw.trans; assumption)))
  have hbz : Bw w wz := (by repeat (first | exact Bw.refl _ | assumption | (apply Bw.trans; assumption)))
  clear HW1 HW2 HO1 HO2 HO3 HU HV
  obtain ⟨W3, hW3⟩ : ∃ V, V = ((wz.alloc (.cells #[.string (pth 0), .string (pth 1), .string (pth 2), .string (pth 3), .string (pth 4), .string (pth 5)] 9)).alloc (.cells #[.string (lds 0), .string (lds 1), .string (lds 2), .string (lds 3), .string (lds 4), .string (lds 5)] 9)).alloc (.cells #[.int .i64 (ens 0), .int .i64 (ens 1), .int .i64 (ens 2), .int .i64 (ens 3), .int .i64 (ens 4), .int .i64 (ens 5)] 28) := ⟨_, rfl⟩
  have HT : Hid (∀ k, k < 6 → ∀ x, Bw W3 x → x.cell? ⟨wz.heap.size, k, none⟩ = some (.string (pth k)) ∧ x.cell? ⟨wz.heap.size + 1, k, none⟩ = some (.string (lds k)) ∧ x.cell? ⟨wz.heap.size + 1 + 1, k, none⟩ = some (.int .i64 (ens k))) := fun k hk x hx => tabs6 wz hk x (by rw [← hW3]; exact hx)
  have hb3 : Bw w W3 := by rw [hW3]; exact bw_alloc11 (bw_alloc11 (bw_alloc11 hbz _) _) _
  have HRe : Hid (∀ j, j < 6 → ∀ k g u, ItsAt u (some ⟨k, 0, none⟩) (Tr.sm g) → Calls Try.prog 15 #[.slice (some ⟨k, 0, none⟩) 5 5, .string (pth j)] u fun e w' => e = .returned (.tuple #[.string (lds j), .int .i64 (ens j)]) ∧ Bw u w') := fun j hj k g u h => by
    have := small_real (pth j).data.toList (pth_len hj) k g u h
    rw [realK hj, S_data, S_data] at this
    exact this
  go_upto_region 17 with (first
    | refine wpList_s6 rfl pth rfl ?_
    | refine wpList_s6 rfl lds rfl ?_
    | refine wpList_e6 rfl ens rfl ?_)
  rw [← hW3]
  clear hW3
  go_wp2
  go_loopw [15] (fun i wr => ∃ k : Nat, k ≤ 6 ∧ i = .int .i64 (k : Int) ∧ Bw W3 wr) (fun i _ => 6 - (intOf i).toNat)
  case atStart => exact ⟨0, by omega, rfl, Bw.refl _⟩
  case round =>
    obtain ⟨k, hk, rfl, hbr⟩ := hrel
    have k0 : (0 : Int) ≤ (k : Int) := Int.natCast_nonneg _
    by_cases hlt : k < 6
    · have i1 : (k : Int) < 6 := by omega
      obtain ⟨c1, c2, c3⟩ := HT.out k hlt _ hbr
      have HR := HRe.out k hlt
      replace HR : Hid _ := HR
      clear HRe HT
      go_upto_region 20 with fail
      go_region_held3 (fun w' => w'.cell? ⟨wz.heap.size, k, none⟩ = some (.string (pth k)) ∧ Bw wr w')
        (first | exact ⟨c1, Below.drew (Bw.refl _)⟩ | assumption | exact keepP ⟨c1, Bw.refl _⟩ (by repeat (first | exact Bw.refl _ | assumption | refine Below.drew ?_)))
        (first
          | (go_at_call 24; refine (HSm.out _).mono ?_; rintro e ws ⟨⟨ks, gs, rfl, hIs⟩, hws⟩; have bs : Bw wr ws := Bw.trans (by repeat (first | exact Bw.refl _ | assumption | refine Below.drew ?_)) hws)
          | (go_at_call 15; refine (HR.out ks gs _ (hIs.keep (by repeat (first | exact Bw.refl _ | assumption | refine Below.drew ?_)))).mono ?_; rintro e wt ⟨rfl, hwt⟩; have bt : Bw wr wt := Bw.trans (by repeat (first | exact Bw.refl _ | assumption | refine Below.drew ?_)) hwt))
      have c2e := keep_cell11 c2 bt
      have c3e := keep_cell11 c3 bt
      clear HR c1 c2 c3 hIs
      go_wp2
      go_roundw
      case rel => exact ⟨k + 1, by omega, by go_num, hbr.trans bt⟩
      case measure => simp [intOf]; omega
    · obtain rfl : k = 6 := by omega
      have hb6 : Bw w wr := hb3.trans hbr
      clear HRe HT xu xv
      obtain ⟨j0, hj0, hy0, hy1, hy2⟩ := info_parts info_item
      have hlp := bt_lp
      have hhd := bt_hd
      have HLp : Hid _ := lp_call
      have HSO : Hid _ := small_own
      have HHb : Hid _ := hd_body
      have HC40 : Hid (∀ u, Calls Try.prog 25 #[.int .i64 40] u fun e w' => (∃ A c, e = .returned (.slice A 41 c) ∧ 41 ≤ c ∧ ItsAt w' A (Tr.chV 40)) ∧ Bw u w') := fun u => ch_make 40 (by decide) (by decide) 40 rfl u
      have HC41 : Hid (∀ u, Calls Try.prog 25 #[.int .i64 41] u fun e w' => (∃ A c, e = .returned (.slice A 42 c) ∧ 42 ≤ c ∧ ItsAt w' A (Tr.chV 41)) ∧ Bw u w') := fun u => ch_make 41 (by decide) (by decide) 41 rfl u
      have HR40 : Hid (∀ A c, 41 ≤ c → ∀ u, ItsAt u A (Tr.chV 40) → Calls Try.prog 15 #[.slice A 41 c, .string ⟨#[108, 97]⟩] u fun e w' => e = .returned (.tuple #[.string ⟨#[120]⟩, .int .i64 0]) ∧ Bw u w') := fun A c hc u h => ch_real 40 (by decide) [108, 97] (by decide) [120] 0 Tr.ch40_real A c hc u h
      have HR41 : Hid (∀ A c, 42 ≤ c → ∀ u, ItsAt u A (Tr.chV 41) → Calls Try.prog 15 #[.slice A 42 c, .string ⟨#[108, 97]⟩] u fun e w' => e = .returned (.tuple #[.string ⟨#[]⟩, .int .i64 114]) ∧ Bw u w') := fun A c hc u h => ch_real 41 (by decide) [108, 97] (by decide) [] 114 Tr.ch41_real A c hc u h
      go_upto_region 24 with (first
        | refine wpList_built11 rfl 26 #[(0, .const (.string ⟨#[108]⟩)), (1, .const (.int .u8 4)), (5, .const (.string ⟨#[108]⟩))] rfl _ hlp ?_
        | refine wpList_build1 (by rfl) (.tmp 166) rfl (Tr.nI (Tr.softI [108] [108])) rfl ?_
        | (go_at_call 15; refine (HLp.out _).mono ?_; rintro e wA ⟨rfl, hwA⟩; have hbA : Bw w wA := hb6.trans hwA))
      go_upto_region 25 with (first
        | (go_at_call 24; refine (HSO.out _).mono ?_; rintro e wB ⟨⟨kB, gB, rfl, hIB, hkB, hrB⟩, hwB⟩; have hbB : Bw w wB := hbA.trans hwB; obtain ⟨wC, hwC⟩ : ∃ V, V = wB.alloc (.cells (Tr.cellsI [hdI]).toArray 26) := ⟨_, rfl⟩; have hbC : Bw wB wC := (by rw [hwC]; exact bw_alloc11 (Bw.refl _) _); have HIC : Hid (ItsAt wC (some ⟨wB.heap.size, 0, none⟩) [hdI]) := (by rw [hwC]; exact its_built (fun y hy u => by rw [List.mem_singleton.1 hy]; exact HHb.out u)); have HOC : Hid _ := own_keep (twice_own hrB) hbC; have HIS : Hid _ := hIB.keep hbC; have hkC : kB ≤ wC.heap.size := Nat.le_trans (Nat.le_of_lt (Array.getElem?_eq_some_iff.1 hrB).1) hbC.size; clear hIB hrB)
        | refine wpList_built11 rfl 26 #[(0, .const (.string ⟨#[97, 47, 105]⟩)), (1, .const (.int .u8 3)), (5, .const (.string ⟨#[97, 47, 104]⟩))] rfl _ hhd ?_
        | (refine wpList_build1 (by rfl) (.tmp 173) rfl hdI rfl ?_; rw [← hwC]; clear hwC)
        | (at_builtin; refine wpList_append_its _ (by rfl) (.tmp 172) (.tmp 174) _ (by rfl) kB 26 j0 _ 80 Try.underlying22 hj0 hy0 hy1 hy2 rfl _ _ _ (by rfl) HOC.out (some ⟨wB.heap.size, 0, none⟩) 1 [hdI] 1 rfl (by rfl) HIC.out (fun e => by cases e) (by decide) (by decide) hkC ?_; intro v6 w6 hown6 hgrow6; obtain ⟨A6, c6, hv6, hle6, hI6⟩ := twice_its HIS.out hown6 hgrow6; subst hv6; have hbG : Bw w w6 := Below.grown (hbB.trans hbC) hgrow6 (hbB.trans hbC).size (fun j hj => (by cases hj; exact Nat.le_trans hbA.size hkB)); have HI6 : Hid _ := hI6; clear hI6 hown6 hgrow6 HIS HOC HIC hkC))
      clear HLp HSO HHb hlp hhd
      have q1 : Hid (w = w) := rfl
      have q2 : Hid (w = w) := rfl
      go_upto_region 28 with (first
        | (go_at_call 25; clear q1; refine (HC40.out _).mono ?_; rintro e wD ⟨⟨AD, cD, rfl, hcD, hID⟩, hwD⟩; have HID : Hid _ := hID; clear hID)
        | (go_at_call 15; clear q2; refine (HR40.out AD cD hcD _ HID.out).mono ?_; rintro e wE ⟨rfl, hwE⟩; clear HID)
        | (go_at_call 25; refine (HC41.out _).mono ?_; rintro e wF ⟨⟨AF, cF, rfl, hcF, hIF⟩, hwF⟩; have HIF : Hid _ := hIF; clear hIF)
        | (go_at_call 15; refine (HR41.out AF cF hcF _ HIF.out).mono ?_; rintro e wG ⟨rfl, hwG⟩; clear HIF)
        | (go_at_call 22; refine (fold_lit _ _).mono ?_; rintro e wI ⟨rfl, hwI⟩)
        | (go_at_call 21; refine (file_lit _ _).mono ?_; rintro e wJ ⟨rfl, hwJ⟩; have hb6J : Bw w6 wJ := (by repeat (first | exact Bw.refl _ | assumption | (apply Bw.trans; assumption))); obtain ⟨wH, hwH⟩ : ∃ V, V = wJ.alloc (.cells (Tr.cellsI [Tr.nI (Tr.foldI [97]), Tr.nI (Tr.fileI [97])]).toArray 26) := ⟨_, rfl⟩; have hbH : Bw wJ wH := (by rw [hwH]; exact bw_alloc11 (Bw.refl _) _); have HIH : Hid (ItsAt wH (some ⟨wJ.heap.size, 0, none⟩) [Tr.nI (Tr.foldI [97]), Tr.nI (Tr.fileI [97])]) := (by rw [hwH]; exact its_built (fun y hy u => (by simp only [List.mem_cons, List.not_mem_nil, or_false] at hy; rcases hy with rfl | rfl; exact bare_fold _ (by decide) u; exact bare_file _ (by decide) u))))
        | (refine wpList_build2 (by rfl) (.tmp 186) (.tmp 187) rfl (Tr.nI (Tr.foldI [97])) (Tr.nI (Tr.fileI [97])) rfl rfl ?_; rw [← hwH]; clear hwH))
      obtain ⟨gH, hgH⟩ : ∃ n, Hid (n = wJ.heap.size) := ⟨_, rfl⟩
      rw [← hgH.out] at HIH ⊢
      obtain ⟨z0, z1, z2, z3, z4, z5, z6, z7, z8, z9, z10, z11⟩ : wH.cell? ⟨gH, 0, none⟩ = some (.string ⟨#[97]⟩) ∧ wH.cell? ⟨gH, 1, none⟩ = some (.int .u8 2) ∧ wH.cell? ⟨gH, 2, none⟩ = some (.int .i64 0) ∧ wH.cell? ⟨gH, 3, none⟩ = some (.int .i64 0) ∧ wH.cell? ⟨gH, 4, none⟩ = some (.slice none 0 0) ∧ wH.cell? ⟨gH, 5, none⟩ = some (.string ⟨#[]⟩) ∧ wH.cell? ⟨gH, 6, none⟩ = some (.string ⟨#[97]⟩) ∧ wH.cell? ⟨gH, 7, none⟩ = some (.int .u8 1) ∧ wH.cell? ⟨gH, 8, none⟩ = some (.int .i64 0) ∧ wH.cell? ⟨gH, 9, none⟩ = some (.int .i64 0) ∧ wH.cell? ⟨gH, 10, none⟩ = some (.slice none 0 0) ∧ wH.cell? ⟨gH, 11, none⟩ = some (.string ⟨#[]⟩) := (by
        rcases HIH.out.at_ with h0 | ⟨b, off, hA, h2⟩
        · cases h0
        · cases hA
          have u := h2 0 _ rfl
          have v := h2 1 _ rfl
          exact ⟨u.c0, u.c1, u.c2, u.c3, u.c4, u.c5, v.c0, v.c1, v.c2, v.c3, v.c4, v.c5⟩)
      have HFA : Hid _ := fold_A
      have HSr : Hid (∀ u, Calls Try.prog 18 #[.slice (some ⟨u.heap.size, 0, none⟩) 3 3] (u.alloc (.cells #[.string ⟨#[97]⟩, .int .u8 1, .int .i64 0, .int .i64 0, .slice none 0 0, .string ⟨#[]⟩, .string ⟨#[97]⟩, .int .u8 2, .int .i64 0, .int .i64 0, .slice none 0 0, .string ⟨#[]⟩, .string ⟨#[65]⟩, .int .u8 2, .int .i64 0, .int .i64 0, .slice none 0 0, .string ⟨#[]⟩] 26)) fun e w' => (∃ b off c, e = .returned (.slice (some ⟨b, off, none⟩) 3 c) ∧ w'.cell? ⟨b, off, none⟩ = some (.string ⟨#[65]⟩) ∧ w'.cell? ⟨b, off + 6 + 1, none⟩ = some (.int .u8 1) ∧ w'.cell? ⟨b, off + 12 + 1, none⟩ = some (.int .u8 2)) ∧ Bw u w') := srt_call
      go_region_held3 (fun w' => (w'.cell? ⟨gH, 0, none⟩ = some (.string ⟨#[97]⟩) ∧ w'.cell? ⟨gH, 1, none⟩ = some (.int .u8 2) ∧ w'.cell? ⟨gH, 2, none⟩ = some (.int .i64 0) ∧ w'.cell? ⟨gH, 3, none⟩ = some (.int .i64 0) ∧ w'.cell? ⟨gH, 4, none⟩ = some (.slice none 0 0) ∧ w'.cell? ⟨gH, 5, none⟩ = some (.string ⟨#[]⟩) ∧ w'.cell? ⟨gH, 6, none⟩ = some (.string ⟨#[97]⟩) ∧ w'.cell? ⟨gH, 7, none⟩ = some (.int .u8 1) ∧ w'.cell? ⟨gH, 8, none⟩ = some (.int .i64 0) ∧ w'.cell? ⟨gH, 9, none⟩ = some (.int .i64 0) ∧ w'.cell? ⟨gH, 10, none⟩ = some (.slice none 0 0) ∧ w'.cell? ⟨gH, 11, none⟩ = some (.string ⟨#[]⟩)) ∧ Bw wH w')
        (first | exact ⟨⟨z0, z1, z2, z3, z4, z5, z6, z7, z8, z9, z10, z11⟩, Below.drew (Bw.refl _)⟩ | assumption | exact keep12 ⟨z0, z1, z2, z3, z4, z5, z6, z7, z8, z9, z10, z11⟩ (by repeat (first | exact Bw.refl _ | assumption | refine Below.drew ?_ | refine bw_alloc11 ?_ _)))
        (first
          | (go_at_call 22; refine (HFA.out _).mono ?_; rintro e wK ⟨rfl, hwK⟩; have bK : Bw wH wK := Bw.trans (by repeat (first | exact Bw.refl _ | assumption | refine Below.drew ?_)) hwK)
          | (go_at_call 18; refine (HSr.out _).mono ?_; rintro e wL ⟨⟨bq, oL, cL, rfl, x1, x2, x3⟩, hwL⟩; have bLw : Bw wH wL := Bw.trans (by repeat (first | exact Bw.refl _ | assumption | refine Below.drew ?_)) hwL))
      have hbN : Bw w wL := hbG.trans (hb6J.trans (hbH.trans bLw))
      have HIL : Hid _ := HI6.out.keep (hb6J.trans (hbH.trans bLw))
      have HTF : Hid (∀ u, ItsAt u A6 (tw gB) → Calls Try.prog 20 #[.slice A6 4 c6, .int .i64 3, .int .i64 113] u fun e w' => e = .returned (.bool true) ∧ Bw u w') := fun u h => tw_fails A6 c6 gB hle6 u h
      have x2e : wL.cell? ⟨bq, oL + 7, none⟩ = some (.int .u8 1) := x2
      have x3e : wL.cell? ⟨bq, oL + 13, none⟩ = some (.int .u8 2) := x3
      clear z0 z1 z2 z3 z4 z5 z6 z7 z8 z9 z10 z11 HFA HSr HIH HI6
      go_wp2_with (go_at_call 20; refine (HTF.out _ HIL.out).mono ?_; rintro e wM ⟨rfl, hwM⟩; have hbM : Bw w wM := hbN.trans hwM)
      go_ret
      exact ⟨rfl, hbM⟩

set_option maxRecDepth 100000 in
theorem lifted (os : Os) (started : os.Started) (H : Type) (enc : TypeId × Value → H) :
    ReturnsInHanded {} Try.checked os 6 .any (Rows.treeKnownSpec.pre6 enc Try.prog Try.f6 Rows.treeKnownRow.domain false) (Rows.treeKnownSpec.post enc Try.prog Try.f6 false true false false) := by
  refine returnsInHanded_of_change_sized (C := Try.checked) own started (by kernel_rfl) Try.func6
    (ChangeSpec.witness6 (enc := enc) (C := Try.checked) false ⟨#[], #[], []⟩ 8 (by kernel_rfl) (by kernel_rfl) (by kernel_rfl) (by kernel_rfl)) ?_
  intro W base args ds gs before hval0 hW hcnd hsz0 _
  have hval : ∀ (j : Nat) t v, Try.f6.params[j]? = some t → args[j]? = some v → Value.okWide Try.prog W .any base t v := hval0
  have hW' := hW
  obtain ⟨p, q, hA0, hV, rfl, hfz, hnd⟩ := hW
  have hA : DataW.TrodAll enc Try.prog W 0 (fun _ => true) true Try.f6.params.toList args.toList ds p := hA0
  have hsz : (DataW.weightsEach Try.prog (Try.f6.params.toList ++ Rows.treeKnownSpec.plain.varTypes Try.prog) (ds ++ gs)).all (· ≤ reachBytes) = true := hsz0
  rw [Try.params6] at hA hval hsz
  obtain ⟨rfl, rfl, rfl⟩ := trodAll_none hA
  obtain ⟨rfl, rfl⟩ := trodVars_none hV
  clear hA0 hval0
  refine (walk  W ).mono fun e W' ⟨he, bel⟩ => ?_
  subst he
  exact ⟨_, rfl, _, _, _, [], _, [], hW', trodAll_mk1 (shut_bool Try.underlying4 _), trodAll_mk0, rfl, bel.frame _, fun h => by cases h⟩

theorem over : Rows.treeKnownRow.holds Try.pinned (OpenSpec.ofChange Rows.treeKnownSpec) :=
  OpenClaim.holds_of_wide 6 Try.f6 rfl rfl rfl rfl rfl rfl rfl ⟨rfl, rfl, rfl, rfl, rfl⟩ rfl rfl rfl rfl rfl (by kernel_rfl) Try.func6 (by kernel_rfl)
    (of_decide_eq_true (by kernel_rfl)) (by unfold Func.isWrapper; first | (rw [if_pos (by decide +kernel)]; kernel_rfl) | (rw [if_neg (by decide +kernel)]; exact ⟨rfl, rfl⟩))
    (fun os started H enc _ => lifted os started H enc)

theorem proved : Rows.TreeKnownSaid := over
#print axioms proved
end Go.Proofs.Ytjifdoneejofiab.treeKnown
