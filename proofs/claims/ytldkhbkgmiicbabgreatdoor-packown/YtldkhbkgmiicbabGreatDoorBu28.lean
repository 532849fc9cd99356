/- Texts of mine, put together. -/
import Derived.Test.YtldkhbkgmiicbabGreatDoorBu27
import Derived.Test.YtldkhbkgmiicbabGreatDoorBu26
import Derived.Laws.StructEq

/- The program's own told, as landed at e169a841 (written by mktold10.py). -/
namespace Go.Proofs.YtldkhbkgmiicbabGreatDoor
open Go.RowKit Go.Deep
set_option linter.unusedVariables false
set_option linter.unusedSimpArgs false

theorem step_store_row {P : Program} {w : World} {ops : Array Oper} {o : Oper} {a : Act} {K : Act → World → Prop} {Q : Exit → Act → World → Prop} {E : Prop} (hgd : o.guard = none) (ty : TypeId) (x y : Operand) (ho : o.op = .store ty x y)
    (g : Nat) (cells : Array Value) (hx : a.eval x = .pointer (some ⟨g, 0, none⟩)) (hy : a.eval y = .agg cells)
    (t : TypeId) (old : Array Value) (hg : w.heap[g]? = some (.cells old t (0, 0))) (hi : (P.info? ty).map (·.size) = some cells.size)
    (hold : old.size = cells.size) (h1 : cells.all (·.oneCell') = true) (hh : K (a.put o.dst undef) (w.setRow g cells)) :
    if Region.wanted o (yielded ops a.tmps) = true then Oper.wp P o a w K Q else E := by
  have hw : Region.wanted o (yielded ops a.tmps) = true := by simp [Region.wanted, hgd]
  rw [if_pos hw]
  exact wp_store_row ty x y ho g cells hx hy t old hg hi hold h1 hh
/-- what the fields of bytes seem to tell -/
structure Hd.Told (l : Hd.B) (h : Hd.Hdr) : Prop where
  name : h.name = Hd.first (l.take 100)
  pre : h.pre = Hd.first ((l.drop 345).take 155)
  link : h.link = Hd.first ((l.drop 157).take 100)
  typ : l[156]? = some h.typ
  mode : Hd.NumOf ((l.drop 100).take 8) h.mode
  size : Hd.NumOf ((l.drop 124).take 12) h.size
  time : Hd.NumOf ((l.drop 136).take 12) h.time
def Hd.none7 : Array Value := #[.string ⟨#[]⟩, .string ⟨#[]⟩, .int .i64 0, .int .i64 0, .int .i64 0, .int .u8 0, .string ⟨#[]⟩]
theorem zero_head (w : World) : (zeroValue 75).run Tryz.prog w = .ok (.agg Hd.none7) w := by kernel_rfl
theorem info_head (h : Hd.Hdr) : (Tryz.prog.info? 75).map (·.size) = some (Hd.hv h).size := by unfold Hd.hv; kernel_rfl
theorem Hd.hv_one (h : Hd.Hdr) : (Hd.hv h).all (·.oneCell') = true := by simp [Hd.hv, Value.oneCell']
end Go.Proofs.YtldkhbkgmiicbabGreatDoor

/- The program's own Blank, Put and Full, as landed at e169a841. -/
namespace Go.Proofs.YtldkhbkgmiicbabGreatDoor
open Go.RowKit Go.Deep
set_option linter.unusedVariables false
set_option linter.unusedSimpArgs false

theorem wpList_built_g10 {P : Program} {ops : Array Oper} {rest : List Oper} {o : Oper} {a : Act} {w : World} {Q : Exit → Act → World → Prop} (hgd : Region.wanted o (yielded ops a.tmps) = true) (t : TypeId) (parts : Array (Nat × Operand)) (ho : o.op = .build t parts)
    (cells : Array Value) (hb : P.built t (parts.map fun (i, x) => (i, a.eval x)).toList = some cells)
    (h : wpList P ops Q rest (a.put o.dst (.agg cells)) w) : wpList P ops Q (o :: rest) a w :=
  wpList_step fun _ hK => by rw [if_pos hgd]; exact wp_build t parts ho (by rw [hb]; rfl) (by rw [hb]; exact hK _ _ h)
/-- a head's struct in a block -/
def HeadAt (w : World) (g : Nat) (h : Hd.Hdr) : Prop := w.heap[g]? = some (.cells (Hd.hv h) 75 (0, 0))
theorem HeadAt.keep {w w' : World} {g : Nat} {h : Hd.Hdr} (a : HeadAt w g h) (b : Bw w w') : HeadAt w' g h := (b.block g (Array.getElem?_eq_some_iff.1 a).1).trans a
set_option maxRecDepth 100000 in
theorem hPut_any (h : Hd.Hdr) (w : World) : Calls Tryz.prog 47 #[.agg (Hd.hv h)] w fun e w' =>
    (Hd.may h ≠ 0 → e = .returned (.tuple #[.slice none 0 0, .int .i64 ((Hd.may h : Nat) : Int)])) ∧ (Hd.may h = 0 → ∃ g, e = .returned (.tuple #[.slice (some ⟨g, 0, none⟩) 512 512, .int .i64 0]) ∧ NewArr w w' g (Hd.layB h)) ∧ Bw w w' := by
  have hz := zero_raw
  have hzs : Hid ((Hd.arr Hd.zeros).size = 512) := by show _ = _; rw [Hd.arr_size, zeros_len]
  obtain ⟨Z, hZ⟩ : ∃ Z, Hid (Z = Hd.arr Hd.zeros) := ⟨_, rfl⟩
  rw [← hZ.out] at hz hzs
  have hih := info_head h
  obtain ⟨W1, hW1⟩ : ∃ V, V = w.alloc (.cells (Hd.hv h) 75) := ⟨_, rfl⟩
  have hH1 : HeadAt W1 w.heap.size h := by rw [hW1]; exact heap_alloc_new _ _
  have hb1 : Bw w W1 := by rw [hW1]; exact bw_alloc7 (Bw.refl _) _
  obtain ⟨M, hM⟩ : ∃ M, Hid (M = Hd.may h) := ⟨_, rfl⟩
  rw [← hM.out]
  by_cases hm : M = 0
  · have g := Hd.may_good (h := h) (by rw [← hM.out]; exact hm)
    have HG : Hid (Hd.Good h) := g
    have hl := Hd.lay_len g
    have HL : Hid ((Hd.layB h).length = 512) := hl
    have hi := info_raw hl
    have HS : Hid (Z.size = (Hd.arr (Hd.layB h)).size) := by show _ = _; rw [hzs.out, Hd.arr_size, HL.out]
    subst hm
    clear g hl
    go_enter Tryz.func47, Tryz.ntmps47
    go_wp2_with (first
      | (rw [← hW1]; clear hW1; refine wpList_load_row rfl 75 _ rfl w.heap.size rfl 75 (Hd.hv h) (0, 0) _ hH1 Tryz.underlying75 rfl hih ?_)
      | (go_at_call 63; refine (hmay_any h _).mono ?_; rintro e w1 ⟨rfl, hw1⟩; rw [← hM.out]; have hH2 := hH1.keep hw1)
      | (refine wpList_load_row rfl 75 _ rfl w.heap.size rfl 75 (Hd.hv h) (0, 0) _ hH2 Tryz.underlying75 rfl hih ?_)
      | (go_at_call 64; refine (hlaid_any h HG.out _).mono ?_; rintro e w2 ⟨rfl, hw2⟩)
      | (refine wpList_store_row rfl 112 _ _ rfl w2.heap.size (Hd.arr (Hd.layB h)) rfl rfl 112 Z (heap_alloc_new _ _) hi HS.out (Hd.arr_one _) ?_; rw [setRow_alloc_new]))
    go_ret2
    have hb2 := (hb1.trans hw1).trans hw2
    exact ⟨fun h => absurd rfl h, fun _ => ⟨w2.heap.size, rfl, arr_new _ _, hb2.size⟩, bw_alloc7 hb2 _⟩
  · have HM : Hid (M ≠ 0) := hm
    have e1 : ((M : Int) != 0) = true := by rw [bne_iff_ne]; omega
    clear hm
    go_enter Tryz.func47, Tryz.ntmps47
    go_wp2_with (first
      | (rw [← hW1]; clear hW1; refine wpList_load_row rfl 75 _ rfl w.heap.size rfl 75 (Hd.hv h) (0, 0) _ hH1 Tryz.underlying75 rfl hih ?_)
      | (go_at_call 63; refine (hmay_any h _).mono ?_; rintro e w1 ⟨rfl, hw1⟩; rw [← hM.out]))
    go_ret2
    exact ⟨fun _ => rfl, fun h => absurd h HM.out, hb1.trans hw1⟩
/-- the whole path -/
def Hd.full (n p : ByteArray) : ByteArray := if p.toList == [] then n else p ++ ⟨#[47]⟩ ++ n
end Go.Proofs.YtldkhbkgmiicbabGreatDoor

/- Layer 12: the table of types, the program's own headOf and putHead, as landed at 16cf8173 (written by mkz5.py). -/
namespace Go.Proofs.YtldkhbkgmiicbabGreatDoor
open Go.RowKit Go.Deep
set_option linter.unusedVariables false
set_option linter.unusedSimpArgs false

/-- the types of kinds stand in the program's own table -/
def TAt (w : World) : Prop := Lib.TabIs Tryz.prog w "tabulary/pack.typeOf" .u8 [0, 48, 53, 49, 50]
theorem gT : Tryz.prog.globalNamed "tabulary/pack.typeOf" = some 0 ∧ (Tryz.prog.globals[0]?).map (·.type) = some 98 := ⟨by kernel_rfl, by kernel_rfl⟩
theorem TAt.keep {w w' : World} (h : TAt w) (k : Bw w w') : TAt w' := Joins.tab_stays gT.1 h k (Nat.le_refl _)
theorem TAt.at_ {w : World} (h : TAt w) {k : Nat} (hk : 1 ≤ k ∧ k ≤ 4) : w.cell? ⟨0, k, none⟩ = some (.int .u8 ((Pk.typ k).toNat : Int)) := by
  have := Lib.TabIs.cell h gT.1 k (by simp; omega)
  rw [this]
  obtain ⟨h1, h2⟩ := hk
  match k, h1, h2 with
  | 1, _, _ => rfl
  | 2, _, _ => rfl
  | 3, _, _ => rfl
  | 4, _, _ => rfl
/-- both tables -/
def KTAt (w : World) : Prop := KAt w ∧ TAt w
theorem KTAt.keep {w w' : World} (h : KTAt w) (k : Bw w w') : KTAt w' := ⟨h.1.keep k, h.2.keep k⟩
def laidKT : List (String × DataW Unit) := [("math/bits.deBruijn32tab", Rows.laid_math_bits_deBruijn32tab), ("math/bits.deBruijn64tab", Rows.laid_math_bits_deBruijn64tab), ("internal/strconv.uint64pow10", Rows.laid_internal_strconv_uint64pow10), ("tabulary/pack.typeOf", Rows.laid_tabulary_pack_typeOf)]
theorem ktat_of_laid {W : World} (h : laidMetH Tryz.prog laidKT W) : KTAt W := by
  rw [MakeChecks.laidMetH_plain _ _ _ (by kernel_rfl)] at h
  refine ⟨?_, ?_⟩
  · obtain ⟨g, hg, ht⟩ := gK
    have h1 := laidMet.filter (fun x => x.1 == "internal/strconv.uint64pow10") h
    rw [show laidKT.filter (fun x => x.1 == "internal/strconv.uint64pow10") = [("internal/strconv.uint64pow10", Lib.tabData .u64 Lib.pow10Tab)] from by kernel_rfl] at h1
    exact Lib.tabIs_of_head (k := .u64) (zs := Lib.pow10Tab) hg ht Tryz.underlying150 Tryz.underlying131 (by kernel_rfl) (by kernel_rfl) h1
  · have h1 := laidMet.filter (fun x => x.1 == "tabulary/pack.typeOf") h
    rw [show laidKT.filter (fun x => x.1 == "tabulary/pack.typeOf") = [("tabulary/pack.typeOf", Lib.tabData .u8 [0, 48, 53, 49, 50])] from by kernel_rfl] at h1
    exact Lib.tabIs_of_head (k := .u8) (zs := [0, 48, 53, 49, 50]) gT.1 gT.2 Tryz.underlying98 Tryz.underlying5 (by kernel_rfl) (by kernel_rfl) h1
theorem door_metKT (os : Os) (args : Array Value) : laidMetH Tryz.prog laidKT ((World.doorLaid Tryz.prog 400 os).forCall (fun _ _ => 0) ⟨#[], args, []⟩).memory :=
  laidMetH_of_parts3 (fuel := 8) (laidMet_of_run' 8 (by kernel_rfl) (by kernel_rfl)) (by kernel_rfl) (by kernel_rfl)
theorem yieldsIf_built12 {P : Program} {ops : Array Oper} {S : World → Prop} {o : Oper} {a : Act} (hgd : o.guard = none) (t : TypeId) (parts : Array (Nat × Operand)) (ho : o.op = .build t parts)
    (cells : Array Value) (hb : P.built t (parts.map fun (i, x) => (i, a.eval x)).toList = some cells) : YieldsIf P ops S o (.agg cells) a := by
  refine Or.inl ⟨by simp [Region.wanted, hgd], fun w _ => ?_⟩
  unfold execOp
  simp only [ho, Sem.run_bind, run_build w t _ cells hb, Result.andThen_ok]
  rfl
set_option maxRecDepth 100000 in
set_option maxHeartbeats 4000000 in
theorem headof_any (y : Tr.Iv) (hf : Tr.Fit y.it) (hk4 : 1 ≤ y.it.kind ∧ y.it.kind ≤ 4) (w : World) (ht : TAt w) : Calls Tryz.prog 34 #[.agg y.arr] w fun e w' => e = .returned (.agg (Hd.hv (Pk.hd y.it))) ∧ Bw w w' := by
  obtain ⟨pa, pb, pe, hP⟩ : ∃ a b e, Hid (Pk.spl y.it.path = (a, b, e)) := ⟨_, _, _, show Pk.spl y.it.path = _ from rfl⟩
  have HSp : Hid (∀ u, Calls Tryz.prog 38 #[.string (Nm.S y.it.path)] u fun e w' => e = .returned (.tuple #[.string (Nm.S pa), .string (Nm.S pb), .int .i64 pe]) ∧ Bw u w') := fun u => by
    have := Pk.spl_says y.it.path
    rw [hP.out] at this
    exact nsplitL this (by have := hf.path; omega) u
  have hz := zero_head
  obtain ⟨Z, hZ⟩ : ∃ Z, Hid (Z = Hd.none7) := ⟨_, rfl⟩
  rw [← hZ.out] at hz
  obtain ⟨kk, hkk⟩ : ∃ k : Nat, y.it.kind = k := ⟨_, rfl⟩
  have kb4 : 1 ≤ kk ∧ kk ≤ 4 := by rw [← hkk]; exact hk4
  have kb5 : (kk : Int) < 5 := by omega
  have kb6 : (0 : Int) ≤ (kk : Int) := by omega
  obtain ⟨W, hW⟩ : ∃ W, W = (w.alloc (.cells y.arr 26)).alloc (.cells Z 75) := ⟨_, rfl⟩
  have HX : Hid (BoxAt W w.heap.size y) := by rw [hW]; exact heap_alloc2_old _ _ _
  have HB : Hid (W.heap[w.heap.size + 1]? = some (.cells Z 75 (0, 0))) := by rw [hW]; exact heap_alloc2_new _ _ _
  have hbW : Bw w W := by rw [hW]; exact bw_alloc2 _ _ _
  have c0 : W.cell? ⟨w.heap.size, 0, none⟩ = some (.string (Nm.S y.it.path)) := cell_of_row W w.heap.size 0 _ _ _ HX.out
  have HT : Hid (TAt W) := ht.keep hbW
  obtain ⟨h0, hh0⟩ : ∃ h, Hid (h = (⟨pb, y.it.mode, (y.it.body.length : Nat), y.it.time, Pk.typ kk, [], pa⟩ : Hd.Hdr)) := ⟨_, rfl⟩
  clear hk4 ht
  go_enter Tryz.func34, Tryz.ntmps34
  go_upto_region 1 with fail
  rw [← hW]
  clear hW
  go_upto_region 2 with (first
    | (go_at_call 38; refine (HSp.out _).mono ?_; rintro e w1 ⟨rfl, hw1⟩))
  have HX1 : Hid (BoxAt w1 w.heap.size y) := HX.out.keep hw1
  have HT1 : Hid (TAt w1) := HT.out.keep hw1
  have HC1 : Hid (∀ u, Bw w1 u → u.cell? ⟨w.heap.size, 1, none⟩ = some (.int .u8 (kk : Int))) := fun u h => by rw [← hkk]; exact cell_of_row u w.heap.size 1 _ _ _ (HX1.out.keep h)
  have HC2 : Hid (∀ u, Bw w1 u → u.cell? ⟨w.heap.size, 2, none⟩ = some (.int .i64 y.it.mode)) := fun u h => cell_of_row u w.heap.size 2 _ _ _ (HX1.out.keep h)
  have HC3 : Hid (∀ u, Bw w1 u → u.cell? ⟨w.heap.size, 3, none⟩ = some (.int .i64 y.it.time)) := fun u h => cell_of_row u w.heap.size 3 _ _ _ (HX1.out.keep h)
  have HC4 : Hid (∀ u, Bw w1 u → u.cell? ⟨w.heap.size, 4, none⟩ = some (.slice y.ad y.it.body.length y.cp)) := fun u h => cell_of_row u w.heap.size 4 _ _ _ (HX1.out.keep h)
  have HCT : Hid (∀ u, Bw w1 u → u.cell? ⟨0, kk, none⟩ = some (.int .u8 ((Pk.typ kk).toNat : Int))) := fun u h => (HT1.out.keep h).at_ kb4
  refine wp_region_held_drew (S := fun w' => Bw w1 w') (by kernel_rfl) ((Below.refl _ _).drew) (fun hHeld => ?_)
  generalize w1.drew = wV at *
  have hwV := hHeld
  refine wpAnyH_take (i := 0) (v := ?_) rfl (by kernel_rfl) (by kernel_rfl) (by kernel_rfl) (fun _ _ _ h => h) (Or.inl ⟨by rfl, ?_⟩) (by assumption) ?_
  rotate_left
  · intro w hSw; (try dsimp only at hSw); go_simp; all_goals (with_reducible rfl)
  try simp only [Act.put, List.setIfInBounds_toArray, List.set_cons_zero, List.set_cons_succ, List.getElem_toArray, List.getElem_cons_succ, List.getElem_cons_zero]
  refine wpAnyH_take (i := 1) (v := ?_) rfl (by kernel_rfl) (by kernel_rfl) (by kernel_rfl) (fun _ _ _ h => h) (Or.inl ⟨by rfl, ?_⟩) (by assumption) ?_
  rotate_left
  · intro w hSw; (try dsimp only at hSw); go_simp; all_goals (with_reducible rfl)
  try simp only [Act.put, List.setIfInBounds_toArray, List.set_cons_zero, List.set_cons_succ, List.getElem_toArray, List.getElem_cons_succ, List.getElem_cons_zero]
  refine wpAnyH_take (i := 2) (v := ?_) rfl (by kernel_rfl) (by kernel_rfl) (by kernel_rfl) (fun _ _ _ h => h) (Or.inl ⟨by rfl, ?_⟩) (by assumption) ?_
  rotate_left
  · intro w hSw; (try dsimp only at hSw); go_simp; all_goals (with_reducible rfl)
  try simp only [Act.put, List.setIfInBounds_toArray, List.set_cons_zero, List.set_cons_succ, List.getElem_toArray, List.getElem_cons_succ, List.getElem_cons_zero]
  refine wpAnyH_take (i := 3) (v := ?_) rfl (by kernel_rfl) (by kernel_rfl) (by kernel_rfl) (fun _ _ _ h => h) (Or.inl ⟨by rfl, ?_⟩) (by assumption) ?_
  rotate_left
  · intro w hSw; (try dsimp only at hSw); have e := HC2.out _ hSw; go_simp; all_goals (with_reducible rfl)
  try simp only [Act.put, List.setIfInBounds_toArray, List.set_cons_zero, List.set_cons_succ, List.getElem_toArray, List.getElem_cons_succ, List.getElem_cons_zero]
  refine wpAnyH_take (i := 4) (v := ?_) rfl (by kernel_rfl) (by kernel_rfl) (by kernel_rfl) (fun _ _ _ h => h) (Or.inl ⟨by rfl, ?_⟩) (by assumption) ?_
  rotate_left
  · intro w hSw; (try dsimp only at hSw); go_simp; all_goals (with_reducible rfl)
  try simp only [Act.put, List.setIfInBounds_toArray, List.set_cons_zero, List.set_cons_succ, List.getElem_toArray, List.getElem_cons_succ, List.getElem_cons_zero]
  refine wpAnyH_take (i := 5) (v := ?_) rfl (by kernel_rfl) (by kernel_rfl) (by kernel_rfl) (fun _ _ _ h => h) (Or.inl ⟨by rfl, ?_⟩) (by assumption) ?_
  rotate_left
  · intro w hSw; (try dsimp only at hSw); have e := HC4.out _ hSw; go_simp; all_goals (with_reducible rfl)
  try simp only [Act.put, List.setIfInBounds_toArray, List.set_cons_zero, List.set_cons_succ, List.getElem_toArray, List.getElem_cons_succ, List.getElem_cons_zero]
  refine wpAnyH_take (i := 6) (v := ?_) rfl (by kernel_rfl) (by kernel_rfl) (by kernel_rfl) (fun _ _ _ h => h) (Or.inl ⟨by rfl, ?_⟩) (by assumption) ?_
  rotate_left
  · intro w hSw; (try dsimp only at hSw); go_simp; all_goals (with_reducible rfl)
  try simp only [Act.put, List.setIfInBounds_toArray, List.set_cons_zero, List.set_cons_succ, List.getElem_toArray, List.getElem_cons_succ, List.getElem_cons_zero]
  refine wpAnyH_take (i := 7) (v := ?_) rfl (by kernel_rfl) (by kernel_rfl) (by kernel_rfl) (fun _ _ _ h => h) (Or.inl ⟨by rfl, ?_⟩) (by assumption) ?_
  rotate_left
  · intro w hSw; (try dsimp only at hSw); go_simp; all_goals (with_reducible rfl)
  try simp only [Act.put, List.setIfInBounds_toArray, List.set_cons_zero, List.set_cons_succ, List.getElem_toArray, List.getElem_cons_succ, List.getElem_cons_zero]
  refine wpAnyH_take (i := 8) (v := ?_) rfl (by kernel_rfl) (by kernel_rfl) (by kernel_rfl) (fun _ _ _ h => h) (Or.inl ⟨by rfl, ?_⟩) (by assumption) ?_
  rotate_left
  · intro w hSw; (try dsimp only at hSw); have e := HC3.out _ hSw; go_simp; all_goals (with_reducible rfl)
  try simp only [Act.put, List.setIfInBounds_toArray, List.set_cons_zero, List.set_cons_succ, List.getElem_toArray, List.getElem_cons_succ, List.getElem_cons_zero]
  refine wpAnyH_take (i := 9) (v := ?_) rfl (by kernel_rfl) (by kernel_rfl) (by kernel_rfl) (fun _ _ _ h => h) (Or.inl ⟨by rfl, ?_⟩) (by assumption) ?_
  rotate_left
  · intro w hSw; (try dsimp only at hSw); go_simp; all_goals (with_reducible rfl)
  try simp only [Act.put, List.setIfInBounds_toArray, List.set_cons_zero, List.set_cons_succ, List.getElem_toArray, List.getElem_cons_succ, List.getElem_cons_zero]
  refine wpAnyH_take (i := 10) (v := ?_) rfl (by kernel_rfl) (by kernel_rfl) (by kernel_rfl) (fun _ _ _ h => h) (Or.inl ⟨by rfl, ?_⟩) (by assumption) ?_
  rotate_left
  · intro w hSw; (try dsimp only at hSw); have e := HC1.out _ hSw; go_simp; all_goals (with_reducible rfl)
  try simp only [Act.put, List.setIfInBounds_toArray, List.set_cons_zero, List.set_cons_succ, List.getElem_toArray, List.getElem_cons_succ, List.getElem_cons_zero]
  refine wpAnyH_take (i := 11) (v := ?_) rfl (by kernel_rfl) (by kernel_rfl) (by kernel_rfl) (fun _ _ _ h => h) (Or.inl ⟨by rfl, ?_⟩) (by assumption) ?_
  rotate_left
  · intro w hSw; (try dsimp only at hSw); go_simp; all_goals (with_reducible rfl)
  try simp only [Act.put, List.setIfInBounds_toArray, List.set_cons_zero, List.set_cons_succ, List.getElem_toArray, List.getElem_cons_succ, List.getElem_cons_zero]
  refine wpAnyH_take (i := 12) (v := ?_) rfl (by kernel_rfl) (by kernel_rfl) (by kernel_rfl) (fun _ _ _ h => h) (Or.inl ⟨by rfl, ?_⟩) (by assumption) ?_
  rotate_left
  · intro w hSw; (try dsimp only at hSw); have e := HCT.out _ hSw; go_simp; all_goals (with_reducible rfl)
  try simp only [Act.put, List.setIfInBounds_toArray, List.set_cons_zero, List.set_cons_succ, List.getElem_toArray, List.getElem_cons_succ, List.getElem_cons_zero]
  refine wpAnyH_take (i := 13) rfl (by kernel_rfl) (by kernel_rfl) (by kernel_rfl) (fun _ _ _ h => h) (yieldsIf_built12 (by rfl) 75 _ (by rfl) (Hd.hv h0) (by rw [hh0.out]; kernel_rfl)) (by assumption) ?_
  try simp only [Act.put, List.setIfInBounds_toArray, List.set_cons_zero, List.set_cons_succ, List.getElem_toArray, List.getElem_cons_succ, List.getElem_cons_zero]
  refine wpAnyH_ready (rs := [14]) (by kernel_rfl) (by simp) ?_
  refine AllReadyH.cons rfl (fun K hK => ?_) AllReadyH.nil
  go_simp
  refine hK.out _ _ (bw_alloc7 hHeld _) (fun hHeld => ?_)
  clear hK K
  try simp only [Act.put, List.setIfInBounds_toArray, List.set_cons_zero, List.set_cons_succ, List.getElem_toArray, List.getElem_cons_succ, List.getElem_cons_zero]
  refine wpAnyH_ready (rs := [15]) (by kernel_rfl) (by simp) ?_
  refine AllReadyH.cons rfl (fun K hK => ?_) AllReadyH.nil
  refine step_store_row (by rfl) 75 _ _ (by rfl) wV.heap.size (Hd.hv h0) (by rfl) (by rfl) 75 Z (heap_alloc_new _ _) (info_head h0) (by rw [hZ.out]; rfl) (Hd.hv_one h0) ?_
  rw [setRow_alloc_new]
  have hb5 : Bw w1 (wV.alloc (.cells (Hd.hv h0) 75)) := bw_alloc7 hwV _
  refine hK.out _ _ (hb5) (fun hHeld => ?_)
  clear hK K
  try simp only [Act.put, List.setIfInBounds_toArray, List.set_cons_zero, List.set_cons_succ, List.getElem_toArray, List.getElem_cons_succ, List.getElem_cons_zero]
  refine wpAnyH_done (by kernel_rfl) ?_ _
  obtain ⟨w5, hw5⟩ : ∃ V, V = wV.alloc (.cells (Hd.hv h0) 75) := ⟨_, rfl⟩
  have hA5 : HeadAt w5 wV.heap.size h0 := by rw [hw5]; exact heap_alloc_new _ _
  rw [← hw5] at hb5 ⊢
  clear hw5
  obtain ⟨N, hN⟩ : ∃ N, Hid (wV.heap.size = N) := ⟨_, rfl⟩
  have hNw : w.heap.size + 1 < N := by rw [← hN.out]; have := hwV.size; have := hw1.size; have := (Array.getElem?_eq_some_iff.1 HB.out).1; omega
  rw [hN.out] at hA5 ⊢
  have c5 : w5.cell? ⟨w.heap.size, 5, none⟩ = some (.string (Nm.S y.it.to)) := cell_of_row w5 w.heap.size 5 _ _ _ (HX1.out.keep hb5)
  have HB5 : Hid (w5.heap[w.heap.size + 1]? = some (.cells Z 75 (0, 0))) := ((hw1.trans hb5).block _ (Array.getElem?_eq_some_iff.1 HB.out).1).trans HB.out
  have hb6 := (hbW.trans hw1).trans hb5
  have hsz : (Nm.S y.it.to).size = y.it.to.length := Nm.size_S _
  clear HC1 HC2 HC3 HC4 HCT HT1 HX1 HX HT HB hHeld hwV
  by_cases h100 : y.it.to.length ≤ 100
  · have t1 : (y.it.to.length : Int) ≤ 100 := by omega
    obtain ⟨h1, hh1⟩ : ∃ h, Hid (h = (⟨pb, y.it.mode, (y.it.body.length : Nat), y.it.time, Pk.typ kk, y.it.to, pa⟩ : Hd.Hdr)) := ⟨_, rfl⟩
    have hfin : Hid (h1 = Pk.hd y.it) := by show _ = _; unfold Pk.hd; rw [hh1.out, hP.out, hkk, if_pos h100]
    have cN : w5.cell? ⟨N, 6, none⟩ = some (.string (Hd.S h0.link)) := cell_of_row w5 N 6 _ _ _ hA5
    have fN : w5.frozen? ⟨N, 6, none⟩ = false := frozen_of_row w5 N 6 _ _ hA5
    have hA6 : HeadAt (w5.setCell ⟨N, 6, none⟩ (.string (Nm.S y.it.to))) N h1 := by
      have := heap_setCell_same w5 N 6 _ _ (.string (Nm.S y.it.to)) hA5
      rw [hh1.out]
      rw [hh0.out] at this
      exact this
    have HB6 : Hid ((w5.setCell ⟨N, 6, none⟩ (.string (Nm.S y.it.to))).heap[w.heap.size + 1]? = some (.cells Z 75 (0, 0))) := (Below.heap_setCell w5 ⟨N, 6, none⟩ _ _ (by show w.heap.size + 1 ≠ N; omega)).trans HB5.out
    have hb7 : Bw w (w5.setCell ⟨N, 6, none⟩ (.string (Nm.S y.it.to))) := hb6.setCell (by show _ ≤ N; omega) _
    go_wp2_with (first
      | (refine wpList_load_row rfl 75 _ rfl N rfl 75 (Hd.hv h1) (0, 0) _ hA6 Tryz.underlying75 rfl (info_head h1) ?_)
      | (refine wpList_store_row rfl 75 _ _ rfl (w.heap.size + 1) (Hd.hv h1) rfl rfl 75 Z HB6.out (info_head h1) (by rw [hZ.out]; rfl) (Hd.hv_one h1) ?_))
    exact bodyPost_ret (results_cell_row Tryz.results34 _ _ (w.heap.size + 1) 75 (Hd.hv h1) (0, 0) _ rfl (setRow_heap _ _ _ _ _ _ HB6.out) Tryz.underlying75 rfl (info_head h1)) rfl ⟨by rw [hfin.out], bw_of_bx hb7 (bx_set (S := fun b => b = w.heap.size + 1) _ _ _ rfl) (fun b e => by rw [e]; omega)⟩
  · have t1 : ¬ (y.it.to.length : Int) ≤ 100 := by omega
    have hfin : Hid (h0 = Pk.hd y.it) := by show _ = _; unfold Pk.hd; rw [hh0.out, hP.out, hkk, if_neg h100]
    have hA6 := hA5
    have HB6 := HB5
    have hb7 := hb6
    go_wp2_with (first
      | (refine wpList_load_row rfl 75 _ rfl N rfl 75 (Hd.hv h0) (0, 0) _ hA6 Tryz.underlying75 rfl (info_head h0) ?_)
      | (refine wpList_store_row rfl 75 _ _ rfl (w.heap.size + 1) (Hd.hv h0) rfl rfl 75 Z HB6.out (info_head h0) (by rw [hZ.out]; rfl) (Hd.hv_one h0) ?_))
    exact bodyPost_ret (results_cell_row Tryz.results34 _ _ (w.heap.size + 1) 75 (Hd.hv h0) (0, 0) _ rfl (setRow_heap _ _ _ _ _ _ HB6.out) Tryz.underlying75 rfl (info_head h0)) rfl ⟨by rw [hfin.out], bw_of_bx hb7 (bx_set (S := fun b => b = w.heap.size + 1) _ _ _ rfl) (fun b e => by rw [e]; omega)⟩
theorem put_from (base g : Nat) (A : Option Addr) (n c : Nat) (r R : Pk.B) (v : Value) (hr : r.length = n) (hn : n ≤ 1073741824) (hc : n ≤ c) (hR : R.length ≤ 1073741824) (w u : World) (hbase : base ≤ w.heap.size)
    (ha : RollAt w g v R) (ho : RollOwn w base v R) (hu : Bw w u) (hrow : RowAt u A n (Hd.rowF r)) (hap : Apart u A n g v) :
    Calls Tryz.prog 33 #[.pointer (some ⟨g, 0, none⟩), .slice A n c] u fun e w' => e = .returned (.tuple #[]) ∧ ∃ v', Rolls base g v R (R ++ Pk.fill r) w w' v' :=
  (put_any base g A n c r R v hr hn hc hR u (Nat.le_trans hbase hu.size) (ha.keep hu) ⟨ho.1, own_keep ho.2 hu⟩ hrow hap).mono fun e w' ⟨h1, v', h2⟩ => ⟨h1, v', ((Rolls.refl ha ho).bw hu).trans h2 (Nat.le_refl _)⟩
set_option maxRecDepth 100000 in
set_option maxHeartbeats 2000000 in
theorem puthead_any (base g : Nat) (h : Hd.Hdr) (R : Pk.B) (v : Value) (hR : R.length ≤ 1073741824) (w : World) (hbase : base ≤ w.heap.size) (ha : RollAt w g v R) (ho : RollOwn w base v R) :
    Calls Tryz.prog 32 #[.pointer (some ⟨g, 0, none⟩), .agg (Hd.hv h)] w fun e w' => e = .returned (.tuple #[]) ∧ ∃ v', Rolls base g v R (R ++ Pk.hB h) w w' v' := by
  have hih := info_head h
  obtain ⟨W1, hW1⟩ : ∃ V, V = w.alloc (.cells (Hd.hv h) 75) := ⟨_, rfl⟩
  have hH1 : HeadAt W1 w.heap.size h := by rw [hW1]; exact heap_alloc_new _ _
  have hb1 : Bw w W1 := by rw [hW1]; exact bw_alloc7 (Bw.refl _) _
  have hgl := ha.lt
  have hvl : ∀ k, v.ownBlock = some k → k < w.heap.size := fun k hk => (World.ownsRow.lt ho.2 k hk).2
  by_cases hm : Hd.may h = 0
  · have HC : Hid (∀ u, Bw W1 u → Calls Tryz.prog 47 #[.agg (Hd.hv h)] u fun e w' => ∃ q, e = .returned (.tuple #[.slice (some ⟨q, 0, none⟩) 512 512, .int .i64 0]) ∧ ArrAt w' q (Hd.layB h) ∧ u.heap.size ≤ q ∧ Bw u w') := fun u hu => (hPut_any h u).mono fun e w' ⟨_, h2, h3⟩ => by
      obtain ⟨q, h4, h5⟩ := h2 hm
      exact ⟨q, h4, h5.1, h5.2, h3⟩
    have hl := Hd.lay_len (Hd.may_good hm)
    have HF : Hid (Pk.fill (Hd.layB h) = Pk.hB h) := by show _ = _; unfold Pk.hB; rw [if_pos hm]; exact Pk.fill_full (by rw [hl])
    have HPut : Hid (∀ u q, Bw w u → w.heap.size ≤ q → ArrAt u q (Hd.layB h) → Calls Tryz.prog 33 #[.pointer (some ⟨g, 0, none⟩), .slice (some ⟨q, 0, none⟩) 512 512] u fun e w' => e = .returned (.tuple #[]) ∧ ∃ v', Rolls base g v R (R ++ Pk.hB h) w w' v') := fun u q hu hq hA => by
      have := put_from base g (some ⟨q, 0, none⟩) 512 512 (Hd.layB h) R v hl (by decide) (by decide) hR w u hbase ha ho hu (by have := hA.row 0 512 (by rw [hl]; decide); rwa [List.drop_zero, List.take_of_length_le (by rw [hl]; decide)] at this) (fun b o e _ => by cases e; exact ⟨hA.lt, by omega, fun e => by have := hvl _ e; omega⟩)
      rwa [HF.out] at this
    clear ha ho hl
    go_enter Tryz.func32, Tryz.ntmps32
    go_upto_region 1 with fail
    rw [← hW1]
    clear hW1
    go_wp2_with (first
      | (refine wpList_load_row rfl 75 _ rfl w.heap.size rfl 75 (Hd.hv h) (0, 0) _ hH1 Tryz.underlying75 rfl hih ?_)
      | (go_at_call 47; refine (HC.out _ (Bw.refl _)).mono ?_; rintro e w1 ⟨q, rfl, hA, hq, hw1⟩)
      | (go_at_call 33; refine (HPut.out _ _ (hb1.trans hw1) (Nat.le_trans hb1.size hq) hA).mono ?_; rintro e w2 ⟨rfl, v', hv'⟩))
    refine bodyPost_end (results_none rfl _ _ _) rfl ?_
    exact ⟨rfl, v', hv'⟩
  · have HC : Hid (∀ u, Bw W1 u → Calls Tryz.prog 47 #[.agg (Hd.hv h)] u fun e w' => ∃ er : Int, e = .returned (.tuple #[.slice none 0 0, .int .i64 er]) ∧ Bw u w') := fun u hu => (hPut_any h u).mono fun e w' ⟨h1, _, h3⟩ => ⟨_, h1 hm, h3⟩
    have HPut : Hid (∀ u, Bw w u → Calls Tryz.prog 33 #[.pointer (some ⟨g, 0, none⟩), .slice none 0 0] u fun e w' => e = .returned (.tuple #[]) ∧ ∃ v', Rolls base g v R (R ++ Pk.hB h) w w' v') := fun u hu => by
      have := put_from base g none 0 0 [] R v rfl (by decide) (by decide) hR w u hbase ha ho hu ⟨.inl rfl, Hd.rowF_bd _⟩ (fun b o e _ => by cases e)
      rwa [Pk.fill_nil, show ([] : Pk.B) = Pk.hB h by unfold Pk.hB; rw [if_neg hm]] at this
    clear ha ho
    go_enter Tryz.func32, Tryz.ntmps32
    go_upto_region 1 with fail
    rw [← hW1]
    clear hW1
    go_wp2_with (first
      | (refine wpList_load_row rfl 75 _ rfl w.heap.size rfl 75 (Hd.hv h) (0, 0) _ hH1 Tryz.underlying75 rfl hih ?_)
      | (go_at_call 47; refine (HC.out _ (Bw.refl _)).mono ?_; rintro e w1 ⟨q, rfl, hw1⟩)
      | (go_at_call 33; refine (HPut.out _ (hb1.trans hw1)).mono ?_; rintro e w2 ⟨rfl, v', hv'⟩))
    refine bodyPost_end (results_none rfl _ _ _) rfl ?_
    exact ⟨rfl, v', hv'⟩
end Go.Proofs.YtldkhbkgmiicbabGreatDoor
