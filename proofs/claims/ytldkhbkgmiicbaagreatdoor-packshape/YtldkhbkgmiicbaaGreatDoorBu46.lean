/- Texts of mine, put together. -/
import Derived.Test.YtldkhbkgmiicbaaGreatDoorBu33

/- The program's own Get, as landed at e169a841 (written by mkget10.py). -/
namespace Go.Proofs.YtldkhbkgmiicbaaGreatDoor
open Go.RowKit Go.Deep
set_option linter.unusedVariables false
set_option linter.unusedSimpArgs false

theorem built_head : Tryz.prog.built 61 [] = some Hd.none7 := by kernel_rfl
theorem yieldsIf_row10 {P : Program} {ops : Array Oper} {S : World → Prop} {op : Oper} {a : Act} (hw : Region.wanted op (yielded ops a.tmps) = true) (ty : TypeId) (x : Operand) (ho : op.op = .load ty x)
    (g : Nat) (hx : a.eval x = .pointer (some ⟨g, 0, none⟩)) (t : TypeId) (cs : Array Value) (fr : Nat × Nat) (d : TypeDesc) (hS : ∀ w, S w → w.heap[g]? = some (.cells cs t fr))
    (hu : P.underlying ty = some d) (hd : (match d with | .struct _ | .array _ _ => true | _ => false) = true) (hi : (P.info? ty).map (·.size) = some cs.size) : YieldsIf P ops S op (.agg cs) a :=
  .inl ⟨hw, fun w hw' => by
    unfold execOp
    simp only [ho, hx, Instr.loadAt, Instr.sureAddr, Sem.run_bind, Sem.run_pure, Result.andThen_ok, run_loadVar_row w g t ty cs fr d (hS w hw') hu hd hi]⟩
/-- what Get answers -/
def GetSays10 (l : Hd.B) (e : Ending) : Prop := ∃ h er, e = .returned (.tuple #[.agg (Hd.hv h), .int .i64 ((er : Nat) : Int)]) ∧ Hd.Reads l h er
def Hd.mark (l : Hd.B) : Hd.B := (l.drop 257).take 8
theorem Hd.mark_len {l : Hd.B} (h : l.length = 512) : (Hd.mark l).length = 8 := by unfold Hd.mark; rw [List.length_take, List.length_drop]; omega
set_option maxRecDepth 100000 in
set_option maxHeartbeats 8000000 in
theorem hget_mark (A : Option Addr) (ca : Nat) (l : Hd.B) (hl : l.length = 512) (hm : (Hd.mark l == Hd.ustar) = false) (w : World) (hr : RowAt w A 512 (Hd.rowF l)) : Calls Tryz.prog 24 #[.slice A 512 ca] w fun e w' => GetSays10 l e ∧ Bw w w' := by
  have hz := zero_raw
  have hz7 := zero_head
  have hgr := guard_raw
  have hzs : Hid ((Hd.arr Hd.zeros).size = 512) := by show _ = _; rw [Hd.arr_size, zeros_len]
  have hih := info_head Hd.none
  rw [Hd.hv_none] at hih
  obtain ⟨Z, hZ⟩ : ∃ Z, Hid (Z = Hd.arr Hd.zeros) := ⟨_, rfl⟩
  obtain ⟨N, hN⟩ : ∃ N, Hid (N = Hd.none7) := ⟨_, rfl⟩
  have hN1 : Hid (N.all (·.oneCell') = true) := by show _ = _; rw [hN.out]; exact Hd.hv_one Hd.none
  rw [← hZ.out] at hz hzs
  have hi7 := info_head Hd.none
  rw [Hd.hv_none] at hi7
  have hN7 : Hid (N.size = Hd.none7.size) := by show _ = _; rw [hN.out]
  have hO7 : Hid (Hd.none7.all (·.oneCell') = true) := Hd.hv_one Hd.none
  rw [← hN.out] at hz7 hih
  have HL : Hid (l.length = 512) := hl
  have hi := info_raw hl
  have HS : Hid (Z.size = (Hd.arr l).size) := by show _ = _; rw [hzs.out, Hd.arr_size, HL.out]
  obtain ⟨W0, hW0⟩ : ∃ V, V = w.alloc (.cells N 61) := ⟨_, rfl⟩
  have hR0 : W0.heap[w.heap.size]? = some (.cells N 61 (0, 0)) := by rw [hW0]; exact heap_alloc_new _ _
  have hb0 : Bw w W0 := by rw [hW0]; exact bw_alloc7 (Bw.refl _) _
  have hr0 := hr.keep hb0
  have HX : Hid (∀ W, ArrAt W W.heap.size l → True) := fun _ _ => trivial
  obtain ⟨X, hX⟩ : ∃ X, Hid (X = Hd.S (Hd.mark l)) := ⟨_, rfl⟩
  have HCV : Hid (∀ W g, ArrAt W g l → (convert 24 9 (.slice (some ⟨g, 257, none⟩) 8 255)).run Tryz.prog W = .ok (.string X) W) := fun W g h => by
    have := conv_row (C := 255) (h.row 257 8 (by rw [HL.out]; omega))
    have e := Hd.str_S (Hd.mark l)
    rw [Hd.mark_len HL.out] at e
    rw [hX.out, ← e]
    exact this
  clear hl hr
  have HR : Hid (Hd.Reads l Hd.none 100) := by
    have hm' : Hd.mark l ≠ Hd.ustar := beq_eq_false_iff_ne.1 hm
    exact ⟨fun h => absurd HL.out h, fun _ _ => ⟨rfl, rfl⟩, fun _ h => absurd h hm', fun _ h => absurd h hm', fun _ h => absurd h hm'⟩
  have m1 : (X.toList == [117, 115, 116, 97, 114, 0, 48, 48]) = false := by rw [hX.out, Hd.toList_S]; exact hm
  have m2 : (X.toList == (ByteArray.mk #[117, 115, 116, 97, 114, 0, 48, 48]).toList) = false := by
    rw [show (ByteArray.mk #[117, 115, 116, 97, 114, 0, 48, 48]).toList = [117, 115, 116, 97, 114, 0, 48, 48] from ByteArray.toList_mk _]
    exact m1
  clear hm
  go_enter Tryz.func24, Tryz.ntmps24
  go_wp2_with (first
    | (go_at_call 40; rw [← hW0]; clear hW0 hz7; refine (htaken_yes A ca l HL.out _ hr0).mono ?_; rintro e w1 ⟨rfl, hw1⟩)
    | (refine wpList_store_row rfl 84 _ _ rfl w1.heap.size (Hd.arr l) rfl rfl 84 Z (heap_alloc_new _ _) hi HS.out (Hd.arr_one _) ?_; rw [setRow_alloc_new]; obtain ⟨W2, hW2⟩ : ∃ V, V = w1.alloc (.cells (Hd.arr l) 84) := ⟨_, rfl⟩; have hA2 : ArrAt W2 w1.heap.size l := (by rw [hW2]; exact arr_new _ _); have hb2 : Bw W0 W2 := (by rw [hW2]; exact bw_alloc7 hw1 _); rw [← hW2]; clear hW2; have cv := HCV.out _ _ hA2; have hR2 := (hb2.block _ (Array.getElem?_eq_some_iff.1 hR0).1).trans hR0)
    | (refine wpList_store_row rfl 61 _ _ rfl w.heap.size Hd.none7 rfl rfl 61 N hR2 hi7 hN7.out hO7.out ?_))
  refine bodyPost_ret (results_row_tmp10 (p := 2) (u := 3) (by rfl) _ _ w.heap.size 61 Hd.none7 (0, 0) _ rfl (setRow_heap _ w.heap.size _ _ _ _ hR2) Tryz.underlying61 rfl hi7) rfl ⟨⟨Hd.none, 100, by rw [Hd.hv_none]; rfl, HR.out⟩, bw_of_bx (hb0.trans hb2) (bx_set _ w.heap.size _ rfl) (fun k e => by omega)⟩
set_option maxRecDepth 100000 in
set_option maxHeartbeats 8000000 in
theorem hget_sum (A : Option Addr) (ca : Nat) (l : Hd.B) (hl : l.length = 512) (hm : (Hd.mark l == Hd.ustar) = true) (hs : (Hd.sealB l == l) = false) (w : World) (hr : RowAt w A 512 (Hd.rowF l)) : Calls Tryz.prog 24 #[.slice A 512 ca] w fun e w' => GetSays10 l e ∧ Bw w w' := by
  have hz := zero_raw
  have hz7 := zero_head
  have hgr := guard_raw
  have hzs : Hid ((Hd.arr Hd.zeros).size = 512) := by show _ = _; rw [Hd.arr_size, zeros_len]
  have hih := info_head Hd.none
  rw [Hd.hv_none] at hih
  obtain ⟨Z, hZ⟩ : ∃ Z, Hid (Z = Hd.arr Hd.zeros) := ⟨_, rfl⟩
  obtain ⟨N, hN⟩ : ∃ N, Hid (N = Hd.none7) := ⟨_, rfl⟩
  have hN1 : Hid (N.all (·.oneCell') = true) := by show _ = _; rw [hN.out]; exact Hd.hv_one Hd.none
  rw [← hZ.out] at hz hzs
  have hi7 := info_head Hd.none
  rw [Hd.hv_none] at hi7
  have hN7 : Hid (N.size = Hd.none7.size) := by show _ = _; rw [hN.out]
  have hO7 : Hid (Hd.none7.all (·.oneCell') = true) := Hd.hv_one Hd.none
  rw [← hN.out] at hz7 hih
  have HL : Hid (l.length = 512) := hl
  have hi := info_raw hl
  have HS : Hid (Z.size = (Hd.arr l).size) := by show _ = _; rw [hzs.out, Hd.arr_size, HL.out]
  obtain ⟨W0, hW0⟩ : ∃ V, V = w.alloc (.cells N 61) := ⟨_, rfl⟩
  have hR0 : W0.heap[w.heap.size]? = some (.cells N 61 (0, 0)) := by rw [hW0]; exact heap_alloc_new _ _
  have hb0 : Bw w W0 := by rw [hW0]; exact bw_alloc7 (Bw.refl _) _
  have hr0 := hr.keep hb0
  have HX : Hid (∀ W, ArrAt W W.heap.size l → True) := fun _ _ => trivial
  obtain ⟨X, hX⟩ : ∃ X, Hid (X = Hd.S (Hd.mark l)) := ⟨_, rfl⟩
  have HCV : Hid (∀ W g, ArrAt W g l → (convert 24 9 (.slice (some ⟨g, 257, none⟩) 8 255)).run Tryz.prog W = .ok (.string X) W) := fun W g h => by
    have := conv_row (C := 255) (h.row 257 8 (by rw [HL.out]; omega))
    have e := Hd.str_S (Hd.mark l)
    rw [Hd.mark_len HL.out] at e
    rw [hX.out, ← e]
    exact this
  clear hl hr
  have HR : Hid (Hd.Reads l Hd.none 101) := by
    have hm' : Hd.mark l = Hd.ustar := eq_of_beq hm
    have hs' : Hd.sealB l ≠ l := beq_eq_false_iff_ne.1 hs
    exact ⟨fun h => absurd HL.out h, fun _ h => absurd hm' h, fun _ _ _ => ⟨rfl, rfl⟩, fun _ _ h => absurd h hs', fun _ _ h => absurd h hs'⟩
  have m1 : (X.toList == [117, 115, 116, 97, 114, 0, 48, 48]) = true := by rw [hX.out, Hd.toList_S]; exact hm
  have m2 : (X.toList == (ByteArray.mk #[117, 115, 116, 97, 114, 0, 48, 48]).toList) = true := by
    rw [show (ByteArray.mk #[117, 115, 116, 97, 114, 0, 48, 48]).toList = [117, 115, 116, 97, 114, 0, 48, 48] from ByteArray.toList_mk _]
    exact m1
  clear hm
  have HSL : Hid ((Hd.sealB l).length = 512) := by show _ = _; rw [Hd.seal_len (by rw [HL.out]; omega), HL.out]
  have HSE : Hid ((Hd.sealB l == l) = false) := hs
  clear hs
  go_enter Tryz.func24, Tryz.ntmps24
  go_wp2_with (first
    | (go_at_call 40; rw [← hW0]; clear hW0; refine (htaken_yes A ca l HL.out _ hr0).mono ?_; rintro e w1 ⟨rfl, hw1⟩)
    | (refine wpList_store_row rfl 84 _ _ rfl w1.heap.size (Hd.arr l) rfl rfl 84 Z (heap_alloc_new _ _) hi HS.out (Hd.arr_one _) ?_; rw [setRow_alloc_new]; obtain ⟨W2, hW2⟩ : ∃ V, V = w1.alloc (.cells (Hd.arr l) 84) := ⟨_, rfl⟩; have hA2 : ArrAt W2 w1.heap.size l := (by rw [hW2]; exact arr_new _ _); have hb2 : Bw W0 W2 := (by rw [hW2]; exact bw_alloc7 hw1 _); rw [← hW2]; clear hW2; have cv := HCV.out _ _ hA2; have hR2 := (hb2.block _ (Array.getElem?_eq_some_iff.1 hR0).1).trans hR0))
  have hdr2 : Bw W2 W2.drew := (Below.refl _ _).drew
  refine wp_region_held_drew (S := fun w' => ArrAt w' w1.heap.size l) (by kernel_rfl) (hA2.keep hdr2) (fun hHeld => ?_)
  refine wpAnyH_take (i := 0) rfl (by kernel_rfl) (by kernel_rfl) (by kernel_rfl) (fun _ _ _ h => h) (yieldsIf_row10 (by rfl) 84 _ (by rfl) w1.heap.size (by rfl) 84 (Hd.arr l) (0, 0) _ (fun _ h => h) Tryz.underlying84 rfl hi) (by assumption) ?_
  try simp only [Act.put, List.setIfInBounds_toArray, List.set_cons_zero, List.set_cons_succ, List.getElem_toArray, List.getElem_cons_succ, List.getElem_cons_zero]
  refine wpAnyH_take (i := 2) rfl (by kernel_rfl) (by kernel_rfl) (by kernel_rfl) (fun _ _ _ h => h) (yieldsIf_row10 (by rfl) 84 _ (by rfl) w1.heap.size (by rfl) 84 (Hd.arr l) (0, 0) _ (fun _ h => h) Tryz.underlying84 rfl hi) (by assumption) ?_
  try simp only [Act.put, List.setIfInBounds_toArray, List.set_cons_zero, List.set_cons_succ, List.getElem_toArray, List.getElem_cons_succ, List.getElem_cons_zero]
  refine wpAnyH_ready (rs := [1]) (by kernel_rfl) (by simp) ?_
  refine AllReadyH.cons rfl (fun K hK => ?_) AllReadyH.nil
  go_simp
  refine (hsealed_any l HL.out _).mono ?_
  rintro e w3 ⟨rfl, hw3⟩
  have hb3 : Bw W2 w3 := hdr2.trans hw3
  have hA3 := hA2.keep hb3
  have hR3 := (hb3.block _ (Array.getElem?_eq_some_iff.1 hR2).1).trans hR2
  refine hK.out _ _ (hA3) (fun hHeld => ?_)
  clear hK K
  try simp only [Act.put, List.setIfInBounds_toArray, List.set_cons_zero, List.set_cons_succ, List.getElem_toArray, List.getElem_cons_succ, List.getElem_cons_zero]
  have hq : ∀ W, (Op.equalIn 10000 84 (.agg (Hd.arr (Hd.sealB l))) (.agg (Hd.arr l))).run Tryz.prog W = .ok false W := fun W => by rw [equal_raw HSL.out HL.out W, HSE.out]
  refine wpAnyH_ready (rs := [3]) (by kernel_rfl) (by simp) ?_
  refine AllReadyH.cons rfl (fun K hK => ?_) AllReadyH.nil
  go_simp
  refine hK.out _ _ (hA3) (fun hHeld => ?_)
  clear hK K
  try simp only [Act.put, List.setIfInBounds_toArray, List.set_cons_zero, List.set_cons_succ, List.getElem_toArray, List.getElem_cons_succ, List.getElem_cons_zero]
  refine wpAnyH_done (by kernel_rfl) ?_ _
  clear hq hdr2 hw3 cv
  clear hz7
  go_wp2_with (first
    | (refine wpList_store_row rfl 61 _ _ rfl w.heap.size Hd.none7 rfl rfl 61 N hR3 hi7 hN7.out hO7.out ?_))
  refine bodyPost_ret (results_row_tmp10 (p := 2) (u := 3) (by rfl) _ _ w.heap.size 61 Hd.none7 (0, 0) _ rfl (setRow_heap _ w.heap.size _ _ _ _ hR3) Tryz.underlying61 rfl hi7) rfl ⟨⟨Hd.none, 101, by rw [Hd.hv_none]; rfl, HR.out⟩, bw_of_bx ((hb0.trans hb2).trans hb3) (bx_set _ w.heap.size _ rfl) (fun k e => by omega)⟩
set_option maxRecDepth 100000 in
set_option maxHeartbeats 8000000 in
theorem hget_rest (A : Option Addr) (ca : Nat) (l : Hd.B) (hl : l.length = 512) (hm : (Hd.mark l == Hd.ustar) = true) (hs : (Hd.sealB l == l) = true) (w : World) (hr : RowAt w A 512 (Hd.rowF l)) : Calls Tryz.prog 24 #[.slice A 512 ca] w fun e w' => GetSays10 l e ∧ Bw w w' := by
  have hz := zero_raw
  have hz7 := zero_head
  have hgr := guard_raw
  have hzs : Hid ((Hd.arr Hd.zeros).size = 512) := by show _ = _; rw [Hd.arr_size, zeros_len]
  have hih := info_head Hd.none
  rw [Hd.hv_none] at hih
  obtain ⟨Z, hZ⟩ : ∃ Z, Hid (Z = Hd.arr Hd.zeros) := ⟨_, rfl⟩
  obtain ⟨N, hN⟩ : ∃ N, Hid (N = Hd.none7) := ⟨_, rfl⟩
  have hN1 : Hid (N.all (·.oneCell') = true) := by show _ = _; rw [hN.out]; exact Hd.hv_one Hd.none
  rw [← hZ.out] at hz hzs
  have hi7 := info_head Hd.none
  rw [Hd.hv_none] at hi7
  have hN7 : Hid (N.size = Hd.none7.size) := by show _ = _; rw [hN.out]
  have hO7 : Hid (Hd.none7.all (·.oneCell') = true) := Hd.hv_one Hd.none
  rw [← hN.out] at hz7 hih
  have HL : Hid (l.length = 512) := hl
  have hi := info_raw hl
  have HS : Hid (Z.size = (Hd.arr l).size) := by show _ = _; rw [hzs.out, Hd.arr_size, HL.out]
  obtain ⟨W0, hW0⟩ : ∃ V, V = w.alloc (.cells N 61) := ⟨_, rfl⟩
  have hR0 : W0.heap[w.heap.size]? = some (.cells N 61 (0, 0)) := by rw [hW0]; exact heap_alloc_new _ _
  have hb0 : Bw w W0 := by rw [hW0]; exact bw_alloc7 (Bw.refl _) _
  have hr0 := hr.keep hb0
  have HX : Hid (∀ W, ArrAt W W.heap.size l → True) := fun _ _ => trivial
  obtain ⟨X, hX⟩ : ∃ X, Hid (X = Hd.S (Hd.mark l)) := ⟨_, rfl⟩
  have HCV : Hid (∀ W g, ArrAt W g l → (convert 24 9 (.slice (some ⟨g, 257, none⟩) 8 255)).run Tryz.prog W = .ok (.string X) W) := fun W g h => by
    have := conv_row (C := 255) (h.row 257 8 (by rw [HL.out]; omega))
    have e := Hd.str_S (Hd.mark l)
    rw [Hd.mark_len HL.out] at e
    rw [hX.out, ← e]
    exact this
  clear hl hr
  have HM : Hid (Hd.mark l = Hd.ustar) := eq_of_beq hm
  have HSS : Hid (Hd.sealB l = l) := eq_of_beq hs
  have m1 : (X.toList == [117, 115, 116, 97, 114, 0, 48, 48]) = true := by rw [hX.out, Hd.toList_S]; exact hm
  have m2 : (X.toList == (ByteArray.mk #[117, 115, 116, 97, 114, 0, 48, 48]).toList) = true := by
    rw [show (ByteArray.mk #[117, 115, 116, 97, 114, 0, 48, 48]).toList = [117, 115, 116, 97, 114, 0, 48, 48] from ByteArray.toList_mk _]
    exact m1
  clear hm
  have HSL : Hid ((Hd.sealB l).length = 512) := by show _ = _; rw [Hd.seal_len (by rw [HL.out]; omega), HL.out]
  have HSE : Hid ((Hd.sealB l == l) = true) := hs
  clear hs
  go_enter Tryz.func24, Tryz.ntmps24
  go_wp2_with (first
    | (go_at_call 40; rw [← hW0]; clear hW0; refine (htaken_yes A ca l HL.out _ hr0).mono ?_; rintro e w1 ⟨rfl, hw1⟩)
    | (refine wpList_store_row rfl 84 _ _ rfl w1.heap.size (Hd.arr l) rfl rfl 84 Z (heap_alloc_new _ _) hi HS.out (Hd.arr_one _) ?_; rw [setRow_alloc_new]; obtain ⟨W2, hW2⟩ : ∃ V, V = w1.alloc (.cells (Hd.arr l) 84) := ⟨_, rfl⟩; have hA2 : ArrAt W2 w1.heap.size l := (by rw [hW2]; exact arr_new _ _); have hb2 : Bw W0 W2 := (by rw [hW2]; exact bw_alloc7 hw1 _); rw [← hW2]; clear hW2; have cv := HCV.out _ _ hA2; have hR2 := (hb2.block _ (Array.getElem?_eq_some_iff.1 hR0).1).trans hR0))
  have hdr2 : Bw W2 W2.drew := (Below.refl _ _).drew
  refine wp_region_held_drew (S := fun w' => ArrAt w' w1.heap.size l) (by kernel_rfl) (hA2.keep hdr2) (fun hHeld => ?_)
  refine wpAnyH_take (i := 0) rfl (by kernel_rfl) (by kernel_rfl) (by kernel_rfl) (fun _ _ _ h => h) (yieldsIf_row10 (by rfl) 84 _ (by rfl) w1.heap.size (by rfl) 84 (Hd.arr l) (0, 0) _ (fun _ h => h) Tryz.underlying84 rfl hi) (by assumption) ?_
  try simp only [Act.put, List.setIfInBounds_toArray, List.set_cons_zero, List.set_cons_succ, List.getElem_toArray, List.getElem_cons_succ, List.getElem_cons_zero]
  refine wpAnyH_take (i := 2) rfl (by kernel_rfl) (by kernel_rfl) (by kernel_rfl) (fun _ _ _ h => h) (yieldsIf_row10 (by rfl) 84 _ (by rfl) w1.heap.size (by rfl) 84 (Hd.arr l) (0, 0) _ (fun _ h => h) Tryz.underlying84 rfl hi) (by assumption) ?_
  try simp only [Act.put, List.setIfInBounds_toArray, List.set_cons_zero, List.set_cons_succ, List.getElem_toArray, List.getElem_cons_succ, List.getElem_cons_zero]
  refine wpAnyH_ready (rs := [1]) (by kernel_rfl) (by simp) ?_
  refine AllReadyH.cons rfl (fun K hK => ?_) AllReadyH.nil
  go_simp
  refine (hsealed_any l HL.out _).mono ?_
  rintro e w3 ⟨rfl, hw3⟩
  have hb3 : Bw W2 w3 := hdr2.trans hw3
  have hA3 := hA2.keep hb3
  have hR3 := (hb3.block _ (Array.getElem?_eq_some_iff.1 hR2).1).trans hR2
  refine hK.out _ _ (hA3) (fun hHeld => ?_)
  clear hK K
  try simp only [Act.put, List.setIfInBounds_toArray, List.set_cons_zero, List.set_cons_succ, List.getElem_toArray, List.getElem_cons_succ, List.getElem_cons_zero]
  have hq : ∀ W, (Op.equalIn 10000 84 (.agg (Hd.arr (Hd.sealB l))) (.agg (Hd.arr l))).run Tryz.prog W = .ok true W := fun W => by rw [equal_raw HSL.out HL.out W, HSE.out]
  refine wpAnyH_ready (rs := [3]) (by kernel_rfl) (by simp) ?_
  refine AllReadyH.cons rfl (fun K hK => ?_) AllReadyH.nil
  go_simp
  refine hK.out _ _ (hA3) (fun hHeld => ?_)
  clear hK K
  try simp only [Act.put, List.setIfInBounds_toArray, List.set_cons_zero, List.set_cons_succ, List.getElem_toArray, List.getElem_cons_succ, List.getElem_cons_zero]
  refine wpAnyH_done (by kernel_rfl) ?_ _
  clear hq hdr2 hw3 cv
  go_wp2_with (first
    | (refine wpList_load_row rfl 84 _ rfl w1.heap.size rfl 84 (Hd.arr l) (0, 0) _ hA3 Tryz.underlying84 rfl hi ?_)
    | (go_at_call 42; refine (htold_any l HL.out _).mono ?_; rintro e w4 ⟨⟨h, rfl, ht⟩, hw4⟩; have hik := info_head h; have HNS : Hid (N.size = (Hd.hv h).size) := (by show _ = _; rw [hN.out]; rfl))
    | (refine wpList_store_row rfl 61 _ _ rfl w4.heap.size (Hd.hv h) rfl rfl 61 N (heap_alloc_new _ _) hik HNS.out (Hd.hv_one h) ?_; rw [setRow_alloc_new]; obtain ⟨W5, hW5⟩ : ∃ V, V = w4.alloc (.cells (Hd.hv h) 61) := ⟨_, rfl⟩; have hH5 : HeadAt W5 w4.heap.size h := (by rw [hW5]; exact heap_alloc_new _ _); have hb5 : Bw w3 W5 := (by rw [hW5]; exact bw_alloc7 hw4 _); rw [← hW5]; clear hW5; have hA5 := hA3.keep hb5; have hR5 := (hb5.block _ (Array.getElem?_eq_some_iff.1 hR3).1).trans hR3))
  have HT : Hid (Hd.Told l h) := ht
  obtain ⟨M, hM⟩ : ∃ M, Hid (M = Hd.may h) := ⟨_, rfl⟩
  clear ht hA2 hR2 hA3 hR3 hz hz7
  have hdr5 : Bw W5 W5.drew := (Below.refl _ _).drew
  by_cases hm0 : M = 0
  rotate_left
  · have e1 : ((M : Int) != 0) = true := by rw [bne_iff_ne]; omega
    have HR : Hid (Hd.Reads l Hd.none 100) := ⟨fun h => absurd HL.out h, fun _ h => absurd HM.out h, fun _ _ h => absurd HSS.out h, fun _ _ _ k gk ek => by have := Hd.told_lay HT.out gk ek; subst this; exact absurd (hM.out.trans (Hd.good_may gk)) hm0, fun _ _ _ _ => ⟨rfl, rfl⟩⟩
    refine wp_region_held_drew (S := fun w' => ArrAt w' w1.heap.size l ∧ HeadAt w' w4.heap.size h) (by kernel_rfl) ⟨hA5.keep hdr5, hH5.keep hdr5⟩ (fun hHeld => ?_)
    refine wpAnyH_take (i := 0) rfl (by kernel_rfl) (by kernel_rfl) (by kernel_rfl) (fun _ _ _ h => h) (yieldsIf_row10 (by rfl) 61 _ (by rfl) w4.heap.size (by rfl) 61 (Hd.hv h) (0, 0) _ (fun _ h => h.2) Tryz.underlying61 rfl hik) (by assumption) ?_
    try simp only [Act.put, List.setIfInBounds_toArray, List.set_cons_zero, List.set_cons_succ, List.getElem_toArray, List.getElem_cons_succ, List.getElem_cons_zero]
    refine wpAnyH_ready (rs := [1]) (by kernel_rfl) (by simp) ?_
    refine AllReadyH.cons rfl (fun K hK => ?_) AllReadyH.nil
    go_simp
    refine (hmay_any h _).mono ?_
    rintro e w6 ⟨rfl, hw6⟩
    rw [← hM.out]
    have hb6 : Bw W5 w6 := hdr5.trans hw6
    refine hK.out _ _ (⟨hA5.keep hb6, hH5.keep hb6⟩) (fun hHeld => ?_)
    clear hK K
    try simp only [Act.put, List.setIfInBounds_toArray, List.set_cons_zero, List.set_cons_succ, List.getElem_toArray, List.getElem_cons_succ, List.getElem_cons_zero]
    refine wpAnyH_take (i := 2) (v := ?_) rfl (by kernel_rfl) (by kernel_rfl) (by kernel_rfl) (fun _ _ _ h => h) (Or.inl ⟨by rfl, ?_⟩) (by assumption) ?_
    rotate_left
    · intro w hSw; (try dsimp only at hSw); go_simp; all_goals (with_reducible rfl)
    try simp only [Act.put, List.setIfInBounds_toArray, List.set_cons_zero, List.set_cons_succ, List.getElem_toArray, List.getElem_cons_succ, List.getElem_cons_zero]
    refine wpAnyH_take (i := 3) (v := ?_) rfl (by kernel_rfl) (by kernel_rfl) (by kernel_rfl) (fun _ _ _ h => h) (Or.inl ⟨by rfl, ?_⟩) (by assumption) ?_
    rotate_left
    · intro w hSw; (try dsimp only at hSw); go_simp; all_goals (with_reducible rfl)
    try simp only [Act.put, List.setIfInBounds_toArray, List.set_cons_zero, List.set_cons_succ, List.getElem_toArray, List.getElem_cons_succ, List.getElem_cons_zero]
    refine wpAnyH_take (i := 4) (v := undef) rfl (by kernel_rfl) (by kernel_rfl) (by kernel_rfl) (fun _ _ _ h => h) (Or.inr ⟨by rfl, rfl⟩) (by assumption) ?_
    try simp only [Act.put, List.setIfInBounds_toArray, List.set_cons_zero, List.set_cons_succ, List.getElem_toArray, List.getElem_cons_succ, List.getElem_cons_zero]
    refine wpAnyH_take (i := 5) (v := undef) rfl (by kernel_rfl) (by kernel_rfl) (by kernel_rfl) (fun _ _ _ h => h) (Or.inr ⟨by rfl, rfl⟩) (by assumption) ?_
    try simp only [Act.put, List.setIfInBounds_toArray, List.set_cons_zero, List.set_cons_succ, List.getElem_toArray, List.getElem_cons_succ, List.getElem_cons_zero]
    refine wpAnyH_take (i := 6) (v := undef) rfl (by kernel_rfl) (by kernel_rfl) (by kernel_rfl) (fun _ _ _ h => h) (Or.inr ⟨by rfl, rfl⟩) (by assumption) ?_
    try simp only [Act.put, List.setIfInBounds_toArray, List.set_cons_zero, List.set_cons_succ, List.getElem_toArray, List.getElem_cons_succ, List.getElem_cons_zero]
    refine wpAnyH_take (i := 7) (v := undef) rfl (by kernel_rfl) (by kernel_rfl) (by kernel_rfl) (fun _ _ _ h => h) (Or.inr ⟨by rfl, rfl⟩) (by assumption) ?_
    try simp only [Act.put, List.setIfInBounds_toArray, List.set_cons_zero, List.set_cons_succ, List.getElem_toArray, List.getElem_cons_succ, List.getElem_cons_zero]
    refine wpAnyH_take (i := 8) (v := ?_) rfl (by kernel_rfl) (by kernel_rfl) (by kernel_rfl) (fun _ _ _ h => h) (Or.inl ⟨by rfl, ?_⟩) (by assumption) ?_
    rotate_left
    · intro w hSw; (try dsimp only at hSw); go_simp; all_goals (with_reducible rfl)
    try simp only [Act.put, List.setIfInBounds_toArray, List.set_cons_zero, List.set_cons_succ, List.getElem_toArray, List.getElem_cons_succ, List.getElem_cons_zero]
    refine wpAnyH_done (by kernel_rfl) ?_ _
    have hR6 := (hb6.block _ (Array.getElem?_eq_some_iff.1 hR5).1).trans hR5
    clear hm0 e1
    go_wp2_with (first
      | (refine wpList_store_row rfl 61 _ _ rfl w.heap.size Hd.none7 rfl rfl 61 N hR6 hi7 hN7.out hO7.out ?_))
    refine bodyPost_ret (results_row_tmp10 (p := 2) (u := 3) (by rfl) _ _ w.heap.size 61 Hd.none7 (0, 0) _ rfl (setRow_heap _ w.heap.size _ _ _ _ hR6) Tryz.underlying61 rfl hi7) rfl ⟨⟨Hd.none, 100, by rw [Hd.hv_none]; rfl, HR.out⟩, bw_of_bx ((((hb0.trans hb2).trans hb3).trans hb5).trans hb6) (bx_set _ w.heap.size _ rfl) (fun k e => by omega)⟩
  · have g := Hd.may_good (h := h) (by rw [← hM.out]; exact hm0)
    have HG : Hid (Hd.Good h) := g
    have HLL : Hid ((Hd.layB h).length = 512) := Hd.lay_len g
    subst hm0
    clear g
    cases hle : (Hd.layB h == l) with
    | true =>
      have HEQ : Hid ((Hd.layB h == l) = true) := hle
      have HR : Hid (Hd.Reads l h 0) := by
        have e := eq_of_beq hle
        rw [← e]
        exact Hd.lay_reads HG.out
      clear hle
      refine wp_region_held_drew (S := fun w' => ArrAt w' w1.heap.size l ∧ HeadAt w' w4.heap.size h) (by kernel_rfl) ⟨hA5.keep hdr5, hH5.keep hdr5⟩ (fun hHeld => ?_)
      refine wpAnyH_take (i := 0) rfl (by kernel_rfl) (by kernel_rfl) (by kernel_rfl) (fun _ _ _ h => h) (yieldsIf_row10 (by rfl) 61 _ (by rfl) w4.heap.size (by rfl) 61 (Hd.hv h) (0, 0) _ (fun _ h => h.2) Tryz.underlying61 rfl hik) (by assumption) ?_
      try simp only [Act.put, List.setIfInBounds_toArray, List.set_cons_zero, List.set_cons_succ, List.getElem_toArray, List.getElem_cons_succ, List.getElem_cons_zero]
      refine wpAnyH_ready (rs := [1]) (by kernel_rfl) (by simp) ?_
      refine AllReadyH.cons rfl (fun K hK => ?_) AllReadyH.nil
      go_simp
      refine (hmay_any h _).mono ?_
      rintro e w6 ⟨rfl, hw6⟩
      rw [← hM.out]
      have hb6 : Bw W5 w6 := hdr5.trans hw6
      refine hK.out _ _ (⟨hA5.keep hb6, hH5.keep hb6⟩) (fun hHeld => ?_)
      clear hK K
      try simp only [Act.put, List.setIfInBounds_toArray, List.set_cons_zero, List.set_cons_succ, List.getElem_toArray, List.getElem_cons_succ, List.getElem_cons_zero]
      refine wpAnyH_take (i := 2) (v := ?_) rfl (by kernel_rfl) (by kernel_rfl) (by kernel_rfl) (fun _ _ _ h => h) (Or.inl ⟨by rfl, ?_⟩) (by assumption) ?_
      rotate_left
      · intro w hSw; (try dsimp only at hSw); go_simp; all_goals (with_reducible rfl)
      try simp only [Act.put, List.setIfInBounds_toArray, List.set_cons_zero, List.set_cons_succ, List.getElem_toArray, List.getElem_cons_succ, List.getElem_cons_zero]
      refine wpAnyH_take (i := 3) (v := ?_) rfl (by kernel_rfl) (by kernel_rfl) (by kernel_rfl) (fun _ _ _ h => h) (Or.inl ⟨by rfl, ?_⟩) (by assumption) ?_
      rotate_left
      · intro w hSw; (try dsimp only at hSw); go_simp; all_goals (with_reducible rfl)
      try simp only [Act.put, List.setIfInBounds_toArray, List.set_cons_zero, List.set_cons_succ, List.getElem_toArray, List.getElem_cons_succ, List.getElem_cons_zero]
      refine wpAnyH_take (i := 4) rfl (by kernel_rfl) (by kernel_rfl) (by kernel_rfl) (fun _ _ _ h => h) (yieldsIf_row10 (by rfl) 61 _ (by rfl) w4.heap.size (by rfl) 61 (Hd.hv h) (0, 0) _ (fun _ h => h.2) Tryz.underlying61 rfl hik) (by assumption) ?_
      try simp only [Act.put, List.setIfInBounds_toArray, List.set_cons_zero, List.set_cons_succ, List.getElem_toArray, List.getElem_cons_succ, List.getElem_cons_zero]
      refine wpAnyH_take (i := 6) rfl (by kernel_rfl) (by kernel_rfl) (by kernel_rfl) (fun _ _ _ h => h) (yieldsIf_row10 (by rfl) 84 _ (by rfl) w1.heap.size (by rfl) 84 (Hd.arr l) (0, 0) _ (fun _ h => h.1) Tryz.underlying84 rfl hi) (by assumption) ?_
      try simp only [Act.put, List.setIfInBounds_toArray, List.set_cons_zero, List.set_cons_succ, List.getElem_toArray, List.getElem_cons_succ, List.getElem_cons_zero]
      refine wpAnyH_ready (rs := [5]) (by kernel_rfl) (by simp) ?_
      refine AllReadyH.cons rfl (fun K hK => ?_) AllReadyH.nil
      go_simp
      refine (hlaid_any h HG.out _).mono ?_
      rintro e w7 ⟨rfl, hw7⟩
      have hb7 : Bw W5 w7 := hb6.trans hw7
      refine hK.out _ _ (⟨hA5.keep hb7, hH5.keep hb7⟩) (fun hHeld => ?_)
      clear hK K
      try simp only [Act.put, List.setIfInBounds_toArray, List.set_cons_zero, List.set_cons_succ, List.getElem_toArray, List.getElem_cons_succ, List.getElem_cons_zero]
      have hq : ∀ W, (Op.equalIn 10000 84 (.agg (Hd.arr (Hd.layB h))) (.agg (Hd.arr l))).run Tryz.prog W = .ok true W := fun W => by rw [equal_raw HLL.out HL.out W, HEQ.out]
      refine wpAnyH_ready (rs := [7]) (by kernel_rfl) (by simp) ?_
      refine AllReadyH.cons rfl (fun K hK => ?_) AllReadyH.nil
      go_simp
      refine hK.out _ _ (⟨hA5.keep hb7, hH5.keep hb7⟩) (fun hHeld => ?_)
      clear hK K
      try simp only [Act.put, List.setIfInBounds_toArray, List.set_cons_zero, List.set_cons_succ, List.getElem_toArray, List.getElem_cons_succ, List.getElem_cons_zero]
      refine wpAnyH_take (i := 8) (v := ?_) rfl (by kernel_rfl) (by kernel_rfl) (by kernel_rfl) (fun _ _ _ h => h) (Or.inl ⟨by rfl, ?_⟩) (by assumption) ?_
      rotate_left
      · intro w hSw; (try dsimp only at hSw); go_simp; all_goals (with_reducible rfl)
      try simp only [Act.put, List.setIfInBounds_toArray, List.set_cons_zero, List.set_cons_succ, List.getElem_toArray, List.getElem_cons_succ, List.getElem_cons_zero]
      refine wpAnyH_done (by kernel_rfl) ?_ _
      have hR7 := (hb7.block _ (Array.getElem?_eq_some_iff.1 hR5).1).trans hR5
      have hH7 := hH5.keep hb7
      clear hq
      go_wp2_with (first
        | (refine wpList_load_row rfl 61 _ rfl w4.heap.size rfl 61 (Hd.hv h) (0, 0) _ hH7 Tryz.underlying61 rfl hik ?_)
        | (refine wpList_store_row rfl 61 _ _ rfl w.heap.size (Hd.hv h) rfl rfl 61 N hR7 hik HNS.out (Hd.hv_one h) ?_))
      refine bodyPost_ret (results_row_tmp10 (p := 2) (u := 3) (by rfl) _ _ w.heap.size 61 (Hd.hv h) (0, 0) _ rfl (setRow_heap _ w.heap.size _ _ _ _ hR7) Tryz.underlying61 rfl hik) rfl ⟨⟨h, 0, rfl, HR.out⟩, bw_of_bx ((((hb0.trans hb2).trans hb3).trans hb5).trans hb7) (bx_set _ w.heap.size _ rfl) (fun k e => by omega)⟩
    | false =>
      have HEQ : Hid ((Hd.layB h == l) = false) := hle
      have HR : Hid (Hd.Reads l Hd.none 100) := ⟨fun h => absurd HL.out h, fun _ h => absurd HM.out h, fun _ _ h => absurd HSS.out h, fun _ _ _ k gk ek => by have := Hd.told_lay HT.out gk ek; subst this; exact absurd ek (beq_eq_false_iff_ne.1 hle), fun _ _ _ _ => ⟨rfl, rfl⟩⟩
      clear hle
      refine wp_region_held_drew (S := fun w' => ArrAt w' w1.heap.size l ∧ HeadAt w' w4.heap.size h) (by kernel_rfl) ⟨hA5.keep hdr5, hH5.keep hdr5⟩ (fun hHeld => ?_)
      refine wpAnyH_take (i := 0) rfl (by kernel_rfl) (by kernel_rfl) (by kernel_rfl) (fun _ _ _ h => h) (yieldsIf_row10 (by rfl) 61 _ (by rfl) w4.heap.size (by rfl) 61 (Hd.hv h) (0, 0) _ (fun _ h => h.2) Tryz.underlying61 rfl hik) (by assumption) ?_
      try simp only [Act.put, List.setIfInBounds_toArray, List.set_cons_zero, List.set_cons_succ, List.getElem_toArray, List.getElem_cons_succ, List.getElem_cons_zero]
      refine wpAnyH_ready (rs := [1]) (by kernel_rfl) (by simp) ?_
      refine AllReadyH.cons rfl (fun K hK => ?_) AllReadyH.nil
      go_simp
      refine (hmay_any h _).mono ?_
      rintro e w6 ⟨rfl, hw6⟩
      rw [← hM.out]
      have hb6 : Bw W5 w6 := hdr5.trans hw6
      refine hK.out _ _ (⟨hA5.keep hb6, hH5.keep hb6⟩) (fun hHeld => ?_)
      clear hK K
      try simp only [Act.put, List.setIfInBounds_toArray, List.set_cons_zero, List.set_cons_succ, List.getElem_toArray, List.getElem_cons_succ, List.getElem_cons_zero]
      refine wpAnyH_take (i := 2) (v := ?_) rfl (by kernel_rfl) (by kernel_rfl) (by kernel_rfl) (fun _ _ _ h => h) (Or.inl ⟨by rfl, ?_⟩) (by assumption) ?_
      rotate_left
      · intro w hSw; (try dsimp only at hSw); go_simp; all_goals (with_reducible rfl)
      try simp only [Act.put, List.setIfInBounds_toArray, List.set_cons_zero, List.set_cons_succ, List.getElem_toArray, List.getElem_cons_succ, List.getElem_cons_zero]
      refine wpAnyH_take (i := 3) (v := ?_) rfl (by kernel_rfl) (by kernel_rfl) (by kernel_rfl) (fun _ _ _ h => h) (Or.inl ⟨by rfl, ?_⟩) (by assumption) ?_
      rotate_left
      · intro w hSw; (try dsimp only at hSw); go_simp; all_goals (with_reducible rfl)
      try simp only [Act.put, List.setIfInBounds_toArray, List.set_cons_zero, List.set_cons_succ, List.getElem_toArray, List.getElem_cons_succ, List.getElem_cons_zero]
      refine wpAnyH_take (i := 4) rfl (by kernel_rfl) (by kernel_rfl) (by kernel_rfl) (fun _ _ _ h => h) (yieldsIf_row10 (by rfl) 61 _ (by rfl) w4.heap.size (by rfl) 61 (Hd.hv h) (0, 0) _ (fun _ h => h.2) Tryz.underlying61 rfl hik) (by assumption) ?_
      try simp only [Act.put, List.setIfInBounds_toArray, List.set_cons_zero, List.set_cons_succ, List.getElem_toArray, List.getElem_cons_succ, List.getElem_cons_zero]
      refine wpAnyH_take (i := 6) rfl (by kernel_rfl) (by kernel_rfl) (by kernel_rfl) (fun _ _ _ h => h) (yieldsIf_row10 (by rfl) 84 _ (by rfl) w1.heap.size (by rfl) 84 (Hd.arr l) (0, 0) _ (fun _ h => h.1) Tryz.underlying84 rfl hi) (by assumption) ?_
      try simp only [Act.put, List.setIfInBounds_toArray, List.set_cons_zero, List.set_cons_succ, List.getElem_toArray, List.getElem_cons_succ, List.getElem_cons_zero]
      refine wpAnyH_ready (rs := [5]) (by kernel_rfl) (by simp) ?_
      refine AllReadyH.cons rfl (fun K hK => ?_) AllReadyH.nil
      go_simp
      refine (hlaid_any h HG.out _).mono ?_
      rintro e w7 ⟨rfl, hw7⟩
      have hb7 : Bw W5 w7 := hb6.trans hw7
      refine hK.out _ _ (⟨hA5.keep hb7, hH5.keep hb7⟩) (fun hHeld => ?_)
      clear hK K
      try simp only [Act.put, List.setIfInBounds_toArray, List.set_cons_zero, List.set_cons_succ, List.getElem_toArray, List.getElem_cons_succ, List.getElem_cons_zero]
      have hq : ∀ W, (Op.equalIn 10000 84 (.agg (Hd.arr (Hd.layB h))) (.agg (Hd.arr l))).run Tryz.prog W = .ok false W := fun W => by rw [equal_raw HLL.out HL.out W, HEQ.out]
      refine wpAnyH_ready (rs := [7]) (by kernel_rfl) (by simp) ?_
      refine AllReadyH.cons rfl (fun K hK => ?_) AllReadyH.nil
      go_simp
      refine hK.out _ _ (⟨hA5.keep hb7, hH5.keep hb7⟩) (fun hHeld => ?_)
      clear hK K
      try simp only [Act.put, List.setIfInBounds_toArray, List.set_cons_zero, List.set_cons_succ, List.getElem_toArray, List.getElem_cons_succ, List.getElem_cons_zero]
      refine wpAnyH_take (i := 8) (v := ?_) rfl (by kernel_rfl) (by kernel_rfl) (by kernel_rfl) (fun _ _ _ h => h) (Or.inl ⟨by rfl, ?_⟩) (by assumption) ?_
      rotate_left
      · intro w hSw; (try dsimp only at hSw); go_simp; all_goals (with_reducible rfl)
      try simp only [Act.put, List.setIfInBounds_toArray, List.set_cons_zero, List.set_cons_succ, List.getElem_toArray, List.getElem_cons_succ, List.getElem_cons_zero]
      refine wpAnyH_done (by kernel_rfl) ?_ _
      have hR7 := (hb7.block _ (Array.getElem?_eq_some_iff.1 hR5).1).trans hR5
      have hH7 := hH5.keep hb7
      clear hq
      go_wp2_with (first
        | (refine wpList_store_row rfl 61 _ _ rfl w.heap.size Hd.none7 rfl rfl 61 N hR7 hi7 hN7.out hO7.out ?_))
      refine bodyPost_ret (results_row_tmp10 (p := 2) (u := 3) (by rfl) _ _ w.heap.size 61 Hd.none7 (0, 0) _ rfl (setRow_heap _ w.heap.size _ _ _ _ hR7) Tryz.underlying61 rfl hi7) rfl ⟨⟨Hd.none, 100, by rw [Hd.hv_none]; rfl, HR.out⟩, bw_of_bx ((((hb0.trans hb2).trans hb3).trans hb5).trans hb7) (bx_set _ w.heap.size _ rfl) (fun k e => by omega)⟩
set_option maxRecDepth 100000 in
theorem hget_arg (A : Option Addr) (n ca : Nat) (hn : n ≠ 512) (w : World) : Calls Tryz.prog 24 #[.slice A n ca] w fun e w' => e = .returned (.tuple #[.agg (Hd.hv Hd.none), .int .i64 1]) ∧ Bw w w' := by
  have hz := zero_raw
  have hz7 := zero_head
  have hbt := built_head
  have hz1 := Hd.arr_one Hd.zeros
  have hiz := info_raw zeros_len
  have hih := info_head Hd.none
  rw [Hd.hv_none] at hih ⊢
  obtain ⟨Z, hZ⟩ : ∃ Z, Hid (Z = Hd.arr Hd.zeros) := ⟨_, rfl⟩
  obtain ⟨N, hN⟩ : ∃ N, Hid (N = Hd.none7) := ⟨_, rfl⟩
  have hN1 : Hid (N.all (·.oneCell') = true) := by show _ = _; rw [hN.out]; exact Hd.hv_one Hd.none
  rw [← hZ.out] at hz hz1 hiz
  have HZ1 : Hid (Z.all (·.oneCell') = true) := hz1
  rw [← hN.out] at hz7 hbt hih ⊢
  have HN : Hid (n ≠ 512) := hn
  obtain ⟨W0, hW0⟩ : ∃ V, V = w.alloc (.cells N 61) := ⟨_, rfl⟩
  have hR0 : W0.heap[w.heap.size]? = some (.cells N 61 (0, 0)) := by rw [hW0]; exact heap_alloc_new _ _
  have hb0 : Bw w W0 := by rw [hW0]; exact bw_alloc7 (Bw.refl _) _
  clear hn hz1
  go_enter Tryz.func24, Tryz.ntmps24
  go_wp2_with (first
    | (go_at_call 40; rw [← hW0]; clear hW0; refine (htaken_no A n ca HN.out _).mono ?_; rintro e w1 ⟨rfl, hw1⟩; rw [← hZ.out])
    | (refine wpList_store_row rfl 84 _ _ rfl w1.heap.size Z rfl rfl 84 Z (heap_alloc_new _ _) hiz rfl HZ1.out ?_; rw [setRow_alloc_new]; obtain ⟨W2, hW2⟩ : ∃ V, V = w1.alloc (.cells Z 84) := ⟨_, rfl⟩; have hb2 : Bw W0 W2 := (by rw [hW2]; exact bw_alloc7 hw1 _); rw [← hW2]; clear hW2; have hR2 := (hb2.block _ (Array.getElem?_eq_some_iff.1 hR0).1).trans hR0)
    | (refine wpList_built10 rfl 61 _ rfl N hbt ?_)
    | (refine wpList_store_row rfl 61 _ _ rfl w.heap.size N rfl rfl 61 N hR2 hih rfl hN1.out ?_))
  exact bodyPost_ret (results_row_tmp10 (p := 2) (u := 3) (by rfl) _ _ w.heap.size 61 N (0, 0) _ rfl (setRow_heap _ w.heap.size _ _ _ _ hR2) Tryz.underlying61 rfl hih) rfl ⟨rfl, bw_of_bx (hb0.trans hb2) (bx_set _ w.heap.size _ rfl) (fun k e => by omega)⟩
theorem hGet_any (A : Option Addr) (n ca : Nat) (l : Hd.B) (hl : l.length = n) (w : World) (hr : RowAt w A n (Hd.rowF l)) : Calls Tryz.prog 24 #[.slice A n ca] w fun e w' => GetSays10 l e ∧ Bw w w' := by
  by_cases hn : n = 512
  · subst hn
    cases hm : (Hd.mark l == Hd.ustar) with
    | false => exact hget_mark A ca l hl hm w hr
    | true =>
      cases hs : (Hd.sealB l == l) with
      | false => exact hget_sum A ca l hl hm hs w hr
      | true => exact hget_rest A ca l hl hm hs w hr
  · refine (hget_arg A n ca hn w).mono ?_
    rintro e w' ⟨rfl, hw⟩
    have hln : l.length ≠ 512 := by rw [hl]; exact hn
    exact ⟨⟨Hd.none, 1, rfl, ⟨fun _ => ⟨rfl, rfl⟩, fun h => absurd h hln, fun h => absurd h hln, fun h => absurd h hln, fun h => absurd h hln⟩⟩, hw⟩
end Go.Proofs.YtldkhbkgmiicbaaGreatDoor
