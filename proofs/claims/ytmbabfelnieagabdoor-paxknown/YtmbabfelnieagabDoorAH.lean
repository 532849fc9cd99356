/- Layer 9: two records, there and back (the statements' awake); written bytes. -/
import Derived.Test.YtmbabfelnieagabDoorBV
import Derived.Great.BuildSlice
import Derived.Lib.SlBytesConst
namespace Go.Proofs.YtmbabfelnieagabDoor
open Go.RowKit Go.Deep
set_option linter.unusedVariables false
set_option linter.unusedSimpArgs false

theorem parts_eval9 (a : Act) (parts : Array (Nat × Operand)) (vs : List Value) (hparts : parts.toList = (vs.zipIdx 0).map fun x => (x.2, Operand.const x.1)) :
    (parts.map fun (i, x) => (i, a.eval x)).toList = (vs.zipIdx 0).map fun x => (x.2, x.1) := by
  rw [Array.toList_map, hparts, List.map_map]
  rfl
/-- written bytes -/
theorem wpList_lit9 {ops : Array Oper} {rest : List Oper} {o : Oper} {a : Act} {w : World} {Q : Exit → Act → World → Prop} (hgd : o.guard = none) (len : Nat) (parts : Array (Nat × Operand)) (ho : o.op = .buildSlice 27 len parts)
    (b : Px.B) (hlen : len = b.length) (hpos : 0 < len) (hsmall : len ≤ 2 ^ 24)
    (hparts : parts.toList = ((Px.cellsB b).zipIdx 0).map fun x => (x.2, Operand.const x.1))
    (h : wpList Tryd.prog ops Q rest (a.put o.dst (.slice (some ⟨w.heap.size, 0, none⟩) len len)) (w.alloc (.cells (Px.cellsB b).toArray 5))) : wpList Tryd.prog ops Q (o :: rest) a w := by
  obtain ⟨i0, hi0, hz0, hz1, hz2⟩ := info_parts info_u8
  refine wpList_buildSlice hgd 27 5 len parts ho _ i0 _ Tryd.underlying27 hi0 hz0 (by rw [hz1]; omega) (by rw [hz1]; omega) ?_ h
  rw [parts_eval9 a parts (Px.cellsB b) hparts, hz1]
  exact Great.fill_flat _ _ (fun v hv => by unfold Px.cellsB at hv; obtain ⟨n, _, rfl⟩ := List.mem_map.1 hv; rfl) (by rw [hlen]; simp [Px.cellsB])
theorem row_lit9 (W : World) (b : Px.B) (fr : Nat × Nat) : RowAt (W.alloc (.cells (Px.cellsB b).toArray 5 fr)) (some ⟨W.heap.size, 0, none⟩) b.length (Px.rowF b) := by
  refine ⟨.inr ⟨W.heap.size, 0, rfl, fun i hi => ?_⟩, Px.rowF_bd _⟩
  rw [Nat.zero_add, cell_of_row _ _ i _ _ _ (World.alloc_heap_new W _), List.getElem?_toArray, Px.rowF_at (List.getElem?_eq_getElem hi)]
  unfold Px.cellsB
  rw [List.getElem?_map, List.getElem?_eq_getElem hi]; rfl
namespace Px
theorem size_lt10 {r : Nat} (h : r + 1 < 10) : size r = r + 1 := by
  unfold size
  rw [dl_one (show r < 10 by omega), dl_one h]; rfl
theorem dl_two {n : Nat} (h1 : 10 ≤ n) (h2 : n < 100) : dl n = 2 := by rw [dl_more (by omega), dl_one (by omega)]
theorem dl_three {n : Nat} (h1 : 100 ≤ n) (h2 : n < 1000) : dl n = 3 := by rw [dl_more (by omega), dl_two (by omega) (by omega)]
theorem size_two {r : Nat} (h1 : 10 ≤ r) (h2 : r + 2 < 100) : size r = r + 2 := by
  unfold size
  rw [dl_two h1 (by omega), dl_two (by omega) h2]; rfl
theorem dec_two {n : Nat} (h1 : 10 ≤ n) (h2 : n < 100) : dec n = [UInt8.ofNat (48 + n / 10), UInt8.ofNat (48 + n % 10)] := by rw [dec_more (by omega), dec_one (by omega)]; rfl
theorem rcd_ab : rcd ([97], [98]) = [54, 32, 97, 61, 98, 10] := by
  unfold rcd psize
  rw [size_lt10 (by decide), dec_one (by decide)]; rfl
theorem rcd_cd : rcd ([99], [100]) = [54, 32, 99, 61, 100, 10] := by
  unfold rcd psize
  rw [size_lt10 (by decide), dec_one (by decide)]; rfl
theorem rcd_path : rcd ([112, 97, 116, 104], [97, 47, 98]) = [49, 50, 32, 112, 97, 116, 104, 61, 97, 47, 98, 10] := by
  unfold rcd psize
  rw [size_two (by decide) (by decide), dec_two (by decide) (by decide)]; rfl
theorem get_two : getF [54, 32, 97, 61, 98, 10, 54, 32, 99, 61, 100, 10] 0 [] = ([([97], [98]), ([99], [100])], 0, 0) := by
  have h := get_put [([97], [98]), ([99], [100])] [] 0 (by decide) (by decide) (by unfold Srt; decide)
  have e : all9 [([97], [98]), ([99], [100])] = [54, 32, 97, 61, 98, 10, 54, 32, 99, 61, 100, 10] := by
    show rcd ([97], [98]) ++ (rcd ([99], [100]) ++ []) = _
    rw [rcd_ab, rcd_cd]; rfl
  rw [e] at h
  exact h
theorem get_x : getF [54, 32, 97, 61, 98, 10, 120] 0 [] = ([], 6, 90) := by
  have h1 : oneF [54, 32, 97, 61, 98, 10, 120] = (([97], [98]), 6, 0) := by
    have := one_rcd ([97], [98]) (by decide) [120]
    rw [rcd_ab] at this
    rw [show psize ([97], [98]) = 6 by unfold psize; exact size_lt10 (by decide)] at this
    exact this
  have h2 : oneF [120] = (([], []), 0, 90) := one_bad1 (.inl (by decide))
  rw [getF_at (by simp), h1]
  simp only [List.length_nil, if_neg, ne_eq, not_true_eq_false, if_false, behind, List.getLast?_nil, Option.map_none, Bool.true_eq_false]
  rw [if_neg (by decide), if_neg (by decide)]
  show getF [120] 6 [([97], [98])] = _
  rw [getF_at (by simp), h2]
  rfl
theorem rec_path : recF ([112, 97, 116, 104], [97, 47, 98]) = ([49, 50, 32, 112, 97, 116, 104, 61, 97, 47, 98, 10], 0) := by
  unfold recF
  rw [if_neg (by decide), rcd_path]
end Px
theorem conv_list {u : World} {A : Option Addr} {C : Nat} {b : Px.B} (h : RowAt u A b.length (Px.rowF b)) (hb : 0 < b.length) : (convert 27 9 (.slice A b.length C)).run Tryd.prog u = .ok (.string (Nm.S b)) u := by
  obtain ⟨B, off, rfl, hc⟩ := h.at hb
  have := conv_cut (lo := 0) (hi := b.length) (C := C) h (Nat.le_refl _)
  rw [List.take_length, List.drop_zero] at this
  exact this
set_option maxRecDepth 100000 in
set_option maxHeartbeats 2000000 in
theorem awake9_any (w : World) (hk : KAt w) : Calls Tryd.prog 7 #[] w fun e w' => e = .returned (.bool true) ∧ Bw w w' := by
  have tok1 : Hid (w = w) := rfl
  have HK : Hid (KAt w) := hk
  clear hk
  have HP : Hid (∀ (A B : Option Addr) (ca cb : Nat) (u : World), PrsAt u A [([97], [98]), ([99], [100])] → PrsAt u B [([97], [98]), ([99], [100])] → Calls Tryd.prog 13 #[.slice A 2 ca, .slice B 2 cb] u fun e w' => e = .returned (.bool true) ∧ ∃ q, w' = u.drewN q) := fun A B ca cb u h1 h2 => by
    have := pairs9_any A B ca cb [([97], [98]), ([99], [100])] [([97], [98]), ([99], [100])] (by decide) (by decide) u h1 h2
    rw [decide_eq_true rfl] at this
    exact this
  have HG1 : Hid (∀ u A, KAt u → RowAt u A 12 (Px.rowF [54, 32, 97, 61, 98, 10, 54, 32, 99, 61, 100, 10]) → Calls Tryd.prog 15 #[.slice A 12 12] u fun e w' => (∃ v, e = .returned (.tuple #[v, .int .i64 0, .int .i64 0]) ∧ PrsIs w' v [([97], [98]), ([99], [100])]) ∧ Bw u w') := fun u A hku h => by
    have := pget_any A 12 [54, 32, 97, 61, 98, 10, 54, 32, 99, 61, 100, 10] (by decide) (by decide) u hku h
    unfold GetSays at this
    rw [Px.get_two] at this
    exact this
  have HG2 : Hid (∀ u A, KAt u → RowAt u A 7 (Px.rowF [54, 32, 97, 61, 98, 10, 120]) → Calls Tryd.prog 15 #[.slice A 7 7] u fun e w' => (∃ v, e = .returned (.tuple #[v, .int .i64 6, .int .i64 90]) ∧ PrsIs w' v []) ∧ Bw u w') := fun u A hku h => by
    have := pget_any A 7 [54, 32, 97, 61, 98, 10, 120] (by decide) (by decide) u hku h
    unfold GetSays at this
    rw [Px.get_x] at this
    exact this
  have HR : Hid (∀ u, KAt u → Calls Tryd.prog 10 #[.agg #[.string ⟨#[112, 97, 116, 104]⟩, .string ⟨#[97, 47, 98]⟩]] u fun e w' => (∃ v, e = .returned (.tuple #[v, .int .i64 0]) ∧ RowIs w' v [49, 50, 32, 112, 97, 116, 104, 61, 97, 47, 98, 10]) ∧ Bw u w') := fun u hku => by
    have := precord_any ⟨#[112, 97, 116, 104]⟩ ⟨#[97, 47, 98]⟩ (by decide) (by decide) u hku
    unfold RecSays at this
    rw [show (⟨#[112, 97, 116, 104]⟩ : ByteArray).toList = [112, 97, 116, 104] from Nm.toList_S [112, 97, 116, 104], show (⟨#[97, 47, 98]⟩ : ByteArray).toList = [97, 47, 98] from Nm.toList_S [97, 47, 98], Px.rec_path] at this
    exact this
  have kc := fun (w : World) (C : Array Value) (n c : Nat) => Lib.run_convert_bytes_const (P := Tryd.prog) w 27 5 C n c Tryd.underlying27 Tryd.underlying5
  go_enter Tryd.func7, Tryd.ntmps7
  go_wp2_with (first
    | (refine wpList_lit9 rfl 12 _ rfl [54, 32, 97, 61, 98, 10, 54, 32, 99, 61, 100, 10] rfl (by decide) (by decide) rfl ?_)
    | (go_at_call 15; clear tok1; refine (HG1.out _ _ (HK.out.keep (Below.alloc (Bw.refl _) (Nat.le_refl _) _)) (row_lit9 _ _ _)).mono ?_; rintro e w1 ⟨⟨v, rfl, hv⟩, hw1⟩; obtain ⟨A, ca, rfl, hca, hra⟩ := hv))
  have hb1 : Bw w w1 := Bw.trans (Below.alloc (Bw.refl _) (Nat.le_refl _) _) hw1
  go_wp2_with (first
    | (go_at_call 10; refine (HR.out _ (HK.out.keep hb1)).mono ?_; rintro e w2 ⟨⟨v, rfl, hv⟩, hw2⟩; obtain ⟨B, cb, rfl, hcb, hrb⟩ := hv)
    | (refine wpList_lit9 rfl 7 _ rfl [54, 32, 97, 61, 98, 10, 120] rfl (by decide) (by decide) rfl ?_)
    | (go_at_call 15; refine (HG2.out _ _ (HK.out.keep (hb1.trans (hw2.trans (Below.alloc (Bw.refl _) (Nat.le_refl _) _)))) (row_lit9 _ _ _)).mono ?_; rintro e w3 ⟨⟨v, rfl, hv⟩, hw3⟩; obtain ⟨D, cd, rfl, hcd, hrd⟩ := hv))
  have hb3 : Bw w2 w3 := Bw.trans (Below.alloc (Bw.refl _) (Nat.le_refl _) _) hw3
  go_wp2_with (go_at_call 13; refine (HP.out _ _ _ _ _ ((hra.keep (hw2.trans hb3)).keep (Below.alloc (Bw.refl _) (Nat.le_refl _) _)) (prs_new w3 _ _ rfl)).mono ?_; rintro e w4 ⟨rfl, q4, hq4⟩; have hw4 := bw_of_drew hq4; clear hq4; have hb4 : Bw w3 w4 := Bw.trans (Below.alloc (Bw.refl _) (Nat.le_refl _) _) hw4; have hcv : (convert 27 9 (.slice B 12 cb)).run Tryd.prog w4 = .ok (.string ⟨#[49, 50, 32, 112, 97, 116, 104, 61, 97, 47, 98, 10]⟩) w4 := conv_list (C := cb) (b := [49, 50, 32, 112, 97, 116, 104, 61, 97, 47, 98, 10]) (hrb.keep (hb3.trans hb4)) (by decide))
  go_ret
  exact ⟨rfl, hb1.trans (hw2.trans (hb3.trans hb4))⟩
end Go.Proofs.YtmbabfelnieagabDoor
