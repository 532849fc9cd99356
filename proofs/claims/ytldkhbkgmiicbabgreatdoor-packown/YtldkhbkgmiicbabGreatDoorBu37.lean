/- Texts of mine, put together. -/
import Derived.Test.YtldkhbkgmiicbabGreatDoorBu35
import Derived.Test.YtldkhbkgmiicbabGreatDoorBu36
import Derived.Test.YtldkhbkgmiicbabGreatDoorBu34
import Derived.Deep.MidRow

/- The statements' helpers of layer 12: file, folder, awake. -/
namespace Go.Proofs.YtldkhbkgmiicbabGreatDoor
open Go.RowKit Go.Deep
set_option linter.unusedVariables false
set_option linter.unusedSimpArgs false

namespace Pk
def fileZ (p : B) (n : Nat) : Tr.It := ⟨p, 1, 0, 0, List.replicate n 0, []⟩
def foldZ (p : B) : Tr.It := ⟨p, 2, 0, 0, [], []⟩
def noBody (x : Tr.It) : Tr.Iv := ⟨x, none, 0⟩
theorem v1 : (wr [fileZ [97] 3]).1.length = 2048 ∧ (wr [fileZ [97] 3]).2.2 = 0 := by decide +kernel
theorem v2 : (wr [fileZ [97] 513]).1.length = 2560 ∧ (wr [fileZ [97] 513]).2.2 = 0 := by decide +kernel
theorem v3 : wr [foldZ [97, 47, 98]] = ([], 0, 112) := by decide +kernel
theorem v4 : wr [] = (List.replicate 1024 0, 0, 0) := by decide +kernel
end Pk
theorem own_rowx {w : World} {base : Nat} {v : Value} {l : Pk.B} (h : w.ownsRow base 5 1 v l.length (Lib.byteCells l)) : ∃ A c, v = .slice A l.length c ∧ RowAt w A l.length (Hd.rowF l) ∧ (A = none → c = 0) := by
  rcases h.2 with ⟨rfl, h0⟩ | ⟨g, cap, cur, rfl, _, hc, hn, _, hs, ht⟩
  · exact ⟨none, 0, by rw [h0], ⟨.inl h0, Hd.rowF_bd _⟩, fun _ => rfl⟩
  · refine ⟨some ⟨g, 0, none⟩, cap, rfl, ⟨.inr ⟨g, 0, rfl, fun i hi => ?_⟩, Hd.rowF_bd _⟩, fun e => by cases e⟩
    have e : (Lib.byteCells l)[i]? = cur.toList[i]? := by rw [← ht, List.getElem?_take, if_pos (by omega)]
    rw [Nat.zero_add, cell_of_row w g i _ _ _ hc, ← Hd.arr_row hi, show (Hd.arr l)[i]? = (Lib.byteCells l)[i]? from by unfold Hd.arr; rw [List.getElem?_toArray], e, Array.getElem?_toList]
theorem madeCells_u8 (n : Nat) : madeCells #[.int .u8 0] n = (List.replicate n (Value.int .u8 0)).toArray := by
  unfold madeCells
  apply Array.ext
  · simp
  · intro i h1 h2
    simp [Nat.mod_one]
theorem made_zeros (n : Nat) (h : n ≤ 1000000) (w : World) : (Instr.makeSlice 24 (.int .i64 (n : Int)) (.int .i64 (n : Int))).run Tryz.prog w = .ok (.slice (some ⟨w.heap.size, 0, none⟩) n n) (w.alloc (.cells (Hd.arr (List.replicate n 0)) 5)) := by
  obtain ⟨i0, hi0, hz0, hz1, hz2⟩ := info_parts info_u8
  have hr := run_make (P := Tryz.prog) w 24 5 i0 _ Tryz.underlying24 hi0 hz0 .i64 .i64 (n : Int) (n : Int) (by omega) (by omega) (by rw [hz2]; omega) (by omega)
  rw [Int.toNat_natCast, hz1, Nat.mul_one] at hr
  rw [hr]
  have e : madeCells (Value.int .u8 0).cells n = Hd.arr (List.replicate n 0) := by
    show madeCells #[.int .u8 0] n = _
    rw [madeCells_u8]
    unfold Hd.arr
    rw [byteCells_zeros]
  rw [e]
theorem row_alloc (w : World) (l : Pk.B) (n : Nat) (hn : l.length = n) : RowAt (w.alloc (.cells (Hd.arr l) 5)) (some ⟨w.heap.size, 0, none⟩) n (Hd.rowF l) := by
  refine ⟨.inr ⟨w.heap.size, 0, rfl, fun i hi => ?_⟩, Hd.rowF_bd _⟩
  rw [Nat.zero_add, cell_of_row _ w.heap.size i _ _ _ (heap_alloc_new w _), Hd.arr_row (by omega)]
theorem built_file (p : Pk.B) (n : Nat) (A : Option Addr) : Tryz.prog.built 26 [(0, .string (Nm.S p)), (1, .int .u8 1), (4, .slice A n n)] = some #[.string (Nm.S p), .int .u8 1, .int .i64 0, .int .i64 0, .slice A n n, .string ⟨#[]⟩] := by kernel_rfl
theorem file_arr (p : Pk.B) (n : Nat) (A : Option Addr) : (⟨Pk.fileZ p n, A, n⟩ : Tr.Iv).arr = #[.string (Nm.S p), .int .u8 1, .int .i64 0, .int .i64 0, .slice A n n, .string ⟨#[]⟩] := by
  unfold Tr.Iv.arr Pk.fileZ
  simp only [List.length_replicate]
  rfl
set_option maxRecDepth 100000 in
set_option maxHeartbeats 2000000 in
theorem file12_any (p : Pk.B) (hp : p.length ≤ 1000) (n : Nat) (hn : n ≤ 1000000) (w : World) : Calls Tryz.prog 16 #[.string (Nm.S p), .int .i64 (n : Int)] w fun e w' => (∃ A, e = .returned (.agg (⟨Pk.fileZ p n, A, n⟩ : Tr.Iv).arr) ∧ BodyAt w' ⟨Pk.fileZ p n, A, n⟩) ∧ Bw w w' := by
  have hmk := made_zeros n hn
  have hzi := zero_item12
  obtain ⟨Zi, hZi⟩ : ∃ Z, Hid (Z = zero6) := ⟨_, rfl⟩
  rw [← hZi.out] at hzi
  obtain ⟨R, hR⟩ : ∃ R, Hid (Hd.arr (List.replicate n 0) = R) := ⟨_, rfl⟩
  rw [hR.out] at hmk
  have hbf := built_file p n (some ⟨w.heap.size + 1, 0, none⟩)
  obtain ⟨Y, hY⟩ : ∃ Y, Hid (Y = (#[.string (Nm.S p), .int .u8 1, .int .i64 0, .int .i64 0, .slice (some ⟨w.heap.size + 1, 0, none⟩) n n, .string ⟨#[]⟩] : Array Value)) := ⟨_, rfl⟩
  have HA : Hid (Y = (⟨Pk.fileZ p n, some ⟨w.heap.size + 1, 0, none⟩, n⟩ : Tr.Iv).arr) := by show _ = _; rw [hY.out, file_arr]
  have hYi : (Tryz.prog.info? 26).map (·.size) = some Y.size := by rw [HA.out]; exact info_it _
  have hYo : Y.all (·.oneCell') = true := by rw [HA.out]; exact Tr.arr_one _
  rw [← hY.out] at hbf
  have h0 : ((w.alloc (.cells Zi 26)).alloc (.cells R 5)).heap[w.heap.size]? = some (.cells Zi 26 (0, 0)) := (heap_alloc_old _ _ (by simp)).trans (heap_alloc_new _ _)
  have hrow : RowAt ((w.alloc (.cells Zi 26)).alloc (.cells R 5)) (some ⟨w.heap.size + 1, 0, none⟩) n (Hd.rowF (List.replicate n 0)) := by
    have := row_alloc (w.alloc (.cells Zi 26)) (List.replicate n 0) n List.length_replicate
    rw [World.size_alloc, hR.out] at this
    exact this
  have hbw : Bw w ((w.alloc (.cells Zi 26)).alloc (.cells R 5)) := bw_alloc7 (bw_alloc7 (Bw.refl _) _) _
  obtain ⟨W1, hW1⟩ : ∃ V, V = (w.alloc (.cells Zi 26)).alloc (.cells R 5) := ⟨_, rfl⟩
  rw [← hW1] at h0 hrow hbw
  have hsz : w.heap.size + 1 < W1.heap.size := by rw [hW1]; simp
  go_enter Tryz.func16, Tryz.ntmps16
  go_wp2_with (first
    | (refine wpList_built11 (by rfl) 26 _ (by rfl) Y (by rw [hY.out]; kernel_rfl) ?_)
    | (rw [← hW1]; clear hW1; refine wpList_store_row rfl 26 _ _ rfl w.heap.size Y rfl rfl 26 Zi h0 hYi (by rw [hZi.out, HA.out]; rfl) hYo ?_))
  (try simp only [Exit.inBlock, Exit.then])
  have hbx : Bx (fun b => b = w.heap.size) W1 (W1.setRow w.heap.size Y) := bx_set _ _ _ rfl
  refine bodyPost_ret (results_cell_row Tryz.results16 _ _ w.heap.size 26 Y (0, 0) _ rfl (setRow_heap _ _ _ _ _ _ h0) Tryz.underlying26 rfl hYi) rfl ⟨⟨some ⟨w.heap.size + 1, 0, none⟩, by rw [← HA.out], ⟨?_, ?_, (fun e => by cases e), ?_⟩⟩, bw_of_bx hbw hbx (fun b e => by rw [e]; exact Nat.le_refl _)⟩
  · have : RowAt (W1.setRow w.heap.size Y) (some ⟨w.heap.size + 1, 0, none⟩) n (Hd.rowF (List.replicate n 0)) := rowat_bx hrow hbx (fun b o e h1 => by cases e; exact ⟨hsz, by omega⟩)
    show RowAt _ _ (List.replicate n (0 : UInt8)).length _
    rw [List.length_replicate]
    exact this
  · show (List.replicate n (0 : UInt8)).length ≤ n
    rw [List.length_replicate]; exact Nat.le_refl _
  · exact ⟨by show (1 : Nat) < 256; decide, by show _ ≤ (0 : Int) ∧ (0 : Int) ≤ _; decide, by show _ ≤ (0 : Int) ∧ (0 : Int) ≤ _; decide, by show p.length ≤ _; omega, by show (List.replicate n (0 : UInt8)).length ≤ _; rw [List.length_replicate]; omega, by show (0 : Nat) ≤ _; omega⟩
set_option maxRecDepth 100000 in
theorem folder12_any (p : Pk.B) (w : World) : Calls Tryz.prog 15 #[.string (Nm.S p)] w fun e w' => e = .returned (.agg (Pk.noBody (Pk.foldZ p)).arr) ∧ Bw w w' := by
  have hb : Tryz.prog.built 26 [(0, .string (Nm.S p)), (1, .int .u8 2)] = some (Pk.noBody (Pk.foldZ p)).arr := by kernel_rfl
  go_enter Tryz.func15, Tryz.ntmps15
  go_wp2_with (first
    | refine wpList_built11 rfl 26 _ rfl _ hb ?_
    | (refine wpList_store_row rfl 26 _ _ rfl w.heap.size (Pk.noBody (Pk.foldZ p)).arr rfl rfl 26 _ (heap_alloc_new _ _) (info_it _) rfl (Tr.arr_one _) ?_; rw [setRow_alloc_new]))
  (try simp only [Exit.inBlock, Exit.then])
  exact bodyPost_ret (results_cell_row Tryz.results15 _ _ w.heap.size 26 (Pk.noBody (Pk.foldZ p)).arr (0, 0) _ rfl (heap_alloc_new _ _) Tryz.underlying26 rfl (info_it _)) rfl ⟨rfl, bw_alloc11 (Bw.refl _) _⟩
theorem fold_body (w : World) (p : Pk.B) (hp : p.length ≤ 1000) : BodyAt w (Pk.noBody (Pk.foldZ p)) :=
  ⟨⟨.inl rfl, Tr.rowF_bd _⟩, Nat.le_refl _, fun _ => rfl, ⟨by show (2 : Nat) < 256; decide, by show _ ≤ (0 : Int) ∧ (0 : Int) ≤ _; decide, by show _ ≤ (0 : Int) ∧ (0 : Int) ≤ _; decide, by show p.length ≤ _; omega, by show (0 : Nat) ≤ _; omega, by show (0 : Nat) ≤ _; omega⟩⟩
theorem its_nil12 (w : World) : ItsAt w none [] := ⟨.inl rfl, fun y hy => by cases hy⟩
/-- one item in a slice of its own -/
theorem its_single {w : World} {y : Tr.Iv} (hy : BodyAt w y) : ItsAt (w.alloc (.cells y.arr 26)) (some ⟨w.heap.size, 0, none⟩) [y] := its_one (BoxAt.new _ _) (hy.keep (bw_alloc7 (Bw.refl _) _))
set_option maxRecDepth 100000 in
set_option maxHeartbeats 4000000 in
theorem awake12_any (w : World) (hk : KTAt w) : Calls Tryz.prog 5 #[] w fun e w' => e = .returned (.bool true) ∧ Bw w w' := by
  have HK : Hid (KTAt w) := hk
  clear hk
  have sA : (⟨#[97]⟩ : ByteArray) = Nm.S [97] := rfl
  have HF3 : Hid (∀ u, Calls Tryz.prog 16 #[.string ⟨#[97]⟩, .int .i64 3] u fun e w' => (∃ A, e = .returned (.agg (⟨Pk.fileZ [97] 3, A, 3⟩ : Tr.Iv).arr) ∧ BodyAt w' ⟨Pk.fileZ [97] 3, A, 3⟩) ∧ Bw u w') := fun u => file12_any [97] (by decide) 3 (by decide) u
  have HF5 : Hid (∀ u, Calls Tryz.prog 16 #[.string ⟨#[97]⟩, .int .i64 513] u fun e w' => (∃ A, e = .returned (.agg (⟨Pk.fileZ [97] 513, A, 513⟩ : Tr.Iv).arr) ∧ BodyAt w' ⟨Pk.fileZ [97] 513, A, 513⟩) ∧ Bw u w') := fun u => file12_any [97] (by decide) 513 (by decide) u
  have HFo : Hid (∀ u, Calls Tryz.prog 15 #[.string ⟨#[97, 47, 98]⟩] u fun e w' => e = .returned (.agg (Pk.noBody (Pk.foldZ [97, 47, 98])).arr) ∧ Bw u w') := fun u => folder12_any [97, 47, 98] u
  have HS3 : Hid (∀ u A g, Bw w u → ItsAt u (some ⟨g, 0, none⟩) [⟨Pk.fileZ [97] 3, A, 3⟩] → Calls Tryz.prog 14 #[.slice (some ⟨g, 0, none⟩) 1 1] u fun e w' => e = .returned (.tuple #[.int .i64 2048, .int .i64 0]) ∧ Bw u w') := fun u A g hu hi => by
    have := pksize_any (some ⟨g, 0, none⟩) 1 [⟨Pk.fileZ [97] 3, A, 3⟩] (by show (1 : Nat) ≤ _; decide) (by show (1 : Nat) ≤ _; decide) u hi (HK.out.keep hu)
    rw [show Tr.its [(⟨Pk.fileZ [97] 3, A, 3⟩ : Tr.Iv)] = [Pk.fileZ [97] 3] from rfl, Pk.v1.1, Pk.v1.2] at this
    exact this
  have HS5 : Hid (∀ u A g, Bw w u → ItsAt u (some ⟨g, 0, none⟩) [⟨Pk.fileZ [97] 513, A, 513⟩] → Calls Tryz.prog 14 #[.slice (some ⟨g, 0, none⟩) 1 1] u fun e w' => e = .returned (.tuple #[.int .i64 2560, .int .i64 0]) ∧ Bw u w') := fun u A g hu hi => by
    have := pksize_any (some ⟨g, 0, none⟩) 1 [⟨Pk.fileZ [97] 513, A, 513⟩] (by show (1 : Nat) ≤ _; decide) (by show (1 : Nat) ≤ _; decide) u hi (HK.out.keep hu)
    rw [show Tr.its [(⟨Pk.fileZ [97] 513, A, 513⟩ : Tr.Iv)] = [Pk.fileZ [97] 513] from rfl, Pk.v2.1, Pk.v2.2] at this
    exact this
  have HWf : Hid (∀ u g, Bw w u → ItsAt u (some ⟨g, 0, none⟩) [Pk.noBody (Pk.foldZ [97, 47, 98])] → Calls Tryz.prog 7 #[.slice (some ⟨g, 0, none⟩) 1 1] u fun e w' => (∃ A c, e = .returned (.tuple #[.slice A 0 c, .int .i64 0, .int .i64 112])) ∧ Bw u w') := fun u g hu hi => by
    have := pkwrite_any (some ⟨g, 0, none⟩) 1 [Pk.noBody (Pk.foldZ [97, 47, 98])] (by decide) (by decide) u hi (HK.out.keep hu)
    refine this.mono fun e w' ⟨⟨v, h1, h2⟩, h3⟩ => ⟨?_, h3⟩
    rw [show Tr.its [Pk.noBody (Pk.foldZ [97, 47, 98])] = [Pk.foldZ [97, 47, 98]] from rfl, Pk.v3] at h1 h2
    obtain ⟨A, c, rfl⟩ := own_slice12 h2
    exact ⟨A, c, h1⟩
  have HWn : Hid (∀ u, Bw w u → Calls Tryz.prog 7 #[.slice none 0 0] u fun e w' => (∃ A c, e = .returned (.tuple #[.slice A 1024 c, .int .i64 0, .int .i64 0])) ∧ Bw u w') := fun u hu => by
    have := pkwrite_any none 0 [] (by decide) (by decide) u (its_nil12 u) (HK.out.keep hu)
    refine this.mono fun e w' ⟨⟨v, h1, h2⟩, h3⟩ => ⟨?_, h3⟩
    rw [show Tr.its [] = [] from rfl, Pk.v4] at h1 h2
    dsimp only at h1 h2
    rw [List.length_replicate] at h2
    obtain ⟨A, c, rfl⟩ := own_slice12 h2
    exact ⟨A, c, h1⟩
  have t1 : Hid (w = w) := rfl
  have t2 : Hid (w = w) := rfl
  have t3 : Hid (w = w) := rfl
  have t4 : Hid (w = w) := rfl
  have t5 : Hid (w = w) := rfl
  have t6 : Hid (w = w) := rfl
  go_enter Tryz.func5, Tryz.ntmps5
  go_wp2_with (first
    | (go_at_call 16; clear t1; refine (HF3.out _).mono ?_; rintro e w1 ⟨⟨A1, rfl, hB1⟩, hw1⟩)
    | (refine wpList_build_it (by rfl) (.tmp 12) (by rfl) ⟨Pk.fileZ [97] 3, A1, 3⟩ (by rfl) ?_; have hI1 := its_single hB1; have hb1 : Bw w (w1.alloc (.cells (⟨Pk.fileZ [97] 3, A1, 3⟩ : Tr.Iv).arr 26)) := bw_alloc7 hw1 _; generalize hV1 : w1.alloc (.cells (⟨Pk.fileZ [97] 3, A1, 3⟩ : Tr.Iv).arr 26) = V1 at hI1 hb1 ⊢; clear hV1)
    | (go_at_call 14; clear t2; refine (HS3.out _ A1 _ hb1 hI1).mono ?_; rintro e w2 ⟨rfl, hw2⟩; have hb2 := hb1.trans hw2)
    | (go_at_call 16; clear t3; refine (HF5.out _).mono ?_; rintro e w3 ⟨⟨A3, rfl, hB3⟩, hw3⟩; have hb3 := hb2.trans hw3)
    | (refine wpList_build_it (by rfl) (.tmp 18) (by rfl) ⟨Pk.fileZ [97] 513, A3, 513⟩ (by rfl) ?_; have hI3 := its_single hB3; have hb4 : Bw w (w3.alloc (.cells (⟨Pk.fileZ [97] 513, A3, 513⟩ : Tr.Iv).arr 26)) := bw_alloc7 hb3 _; generalize hV3 : w3.alloc (.cells (⟨Pk.fileZ [97] 513, A3, 513⟩ : Tr.Iv).arr 26) = V3 at hI3 hb4 ⊢; clear hV3)
    | (go_at_call 14; clear t4; refine (HS5.out _ A3 _ hb4 hI3).mono ?_; rintro e w4 ⟨rfl, hw4⟩; have hb5 := hb4.trans hw4)
    | (go_at_call 15; refine (HFo.out _).mono ?_; rintro e w5 ⟨rfl, hw5⟩; have hb6 := hb5.trans hw5)
    | (refine wpList_build_it (by rfl) (.tmp 24) (by rfl) (Pk.noBody (Pk.foldZ [97, 47, 98])) (by rfl) ?_; have hI5 := its_single (fold_body w5 [97, 47, 98] (by decide)); have hb7 : Bw w (w5.alloc (.cells (Pk.noBody (Pk.foldZ [97, 47, 98])).arr 26)) := bw_alloc7 hb6 _; generalize hV5 : w5.alloc (.cells (Pk.noBody (Pk.foldZ [97, 47, 98])).arr 26) = V5 at hI5 hb7 ⊢; clear hV5)
    | (go_at_call 7; clear t5; refine (HWf.out _ _ hb7 hI5).mono ?_; rintro e w6 ⟨⟨A6, c6, rfl⟩, hw6⟩; have hb8 := hb7.trans hw6)
    | (go_at_call 7; clear t6; refine (HWn.out _ hb8).mono ?_; rintro e w7 ⟨⟨A7, c7, rfl⟩, hw7⟩; have hb9 := hb8.trans hw7))
  go_ret
  exact ⟨rfl, hb9⟩
end Go.Proofs.YtldkhbkgmiicbabGreatDoor

/- Layer 12: rows that are written over; what Write answers to a beginning. -/
namespace Go.Proofs.YtldkhbkgmiicbabGreatDoor
open Go.RowKit Go.Deep
set_option linter.unusedVariables false
set_option linter.unusedSimpArgs false

namespace Pk
theorem flat_pre12 (t : List Tr.It) (k : Nat) : flat t = flat (t.take k) ++ flat (t.drop k) := by
  unfold flat
  rw [← List.flatMap_append, List.take_append_drop]
theorem wr_fits12 {t : List Tr.It} (hc : (Tr.chkE t).2 = 0) (hl : (flat t).length + 1024 ≤ 131072) : wr t = (flat t ++ List.replicate 1024 0, 0, 0) := by
  rw [wr_good hc]
  rcases upto_cases t t.length (Nat.le_refl _) with g | ⟨i, x, h1, h2, h3, h4⟩
  · exact upto_end g
  · rw [← flat_take h2] at h4
    have := congrArg List.length (flat_pre12 t (i + 1))
    rw [List.length_append] at this
    omega
theorem chk_ok12 {t : List Tr.It} (h : Tr.Ok t) (hl : t.length ≤ 256) : (Tr.chkE t).2 = 0 := by
  unfold Tr.chkE
  rw [if_neg (by omega), Tr.chkF_good t [] (fun i x hx => by rw [List.nil_append]; exact h i x hx)]
/-- a beginning of a list that has a volume has one -/
theorem wr_pre {t : List Tr.It} (h : (wr t).2.2 = 0) (k : Nat) : wr (t.take k) = (flat (t.take k) ++ List.replicate 1024 0, 0, 0) := by
  rcases wr_cases t with ⟨h1, e⟩ | ⟨_, i, _, e⟩ | ⟨h1, g, e⟩
  · rw [e] at h; exact absurd h h1
  · rw [e] at h; cases h
  · obtain ⟨hl, hok⟩ := Tr.chk_zero h1
    have hr := g.2.2
    rw [List.take_length] at hr
    refine wr_fits12 (chk_ok12 (Tr.ok_take hok k) (by rw [List.length_take]; omega)) ?_
    have := congrArg List.length (flat_pre12 t k)
    rw [List.length_append] at this
    omega
end Pk
theorem body_lowb {w : World} {y : Tr.Iv} (h : BodyAt w y) : ∀ b o, y.ad = some ⟨b, o, none⟩ → 0 < y.it.body.length → b < w.heap.size := fun b o e h0 => by
  rcases h.row.1 with h1 | ⟨b', o', e', hc⟩
  · omega
  · rw [e] at e'
    cases e'
    exact World.block_lt_of_cell? w _ (hc 0 h0)
/-- a row that is somebody's own, whatever it holds -/
def HasRow (w : World) (b : Nat) (e : TypeId) (s g n c : Nat) : Prop := ∃ xs, w.ownsRow b e s (.slice (some ⟨g, 0, none⟩) n c) n xs
namespace HasRow
variable {w w' : World} {b : Nat} {e : TypeId} {s g n c : Nat}
theorem chg (h : HasRow w b e s g n c) (hc : ∀ cur, w.heap[g]? = some (.cells cur e (0, 0)) → ∃ cur', w'.heap[g]? = some (.cells cur' e (0, 0)) ∧ cur'.size = cur.size) : HasRow w' b e s g n c := by
  obtain ⟨xs, hl, hr⟩ := h
  rcases hr with ⟨h0, _⟩ | ⟨g', cap, cur, hv, hb, hg, h1, h2, h3, h4⟩
  · cases h0
  · cases hv
    obtain ⟨cur', hc', hs⟩ := hc cur hg
    refine ⟨cur'.toList.take (n * s), ?_, .inr ⟨g, c, cur', rfl, hb, hc', h1, h2, by omega, rfl⟩⟩
    rw [List.length_take, Array.length_toList]
    have := Nat.mul_le_mul_right s h1
    omega
theorem keepx {S : Nat → Prop} (h : HasRow w b e s g n c) (k : Bx S w w') (hg : ¬ S g) : HasRow w' b e s g n c := h.chg fun cur hc => ⟨cur, (k.block g (Array.getElem?_eq_some_iff.1 hc).1 hg).trans hc, rfl⟩
theorem set (h : HasRow w b e s g n c) (j : Nat) (v : Value) : HasRow (w.setCell ⟨g, j, none⟩ v) b e s g n c := h.chg fun cur hc => ⟨_, heap_setCell_same w g j _ _ v hc, by simp⟩
theorem cell (h : HasRow w b e s g n c) {j : Nat} (hj : j < n * s) : (∃ u, w.cell? ⟨g, j, none⟩ = some u) ∧ w.frozen? ⟨g, j, none⟩ = false := by
  obtain ⟨xs, hl, hr⟩ := h
  rcases hr with ⟨h0, _⟩ | ⟨g', cap, cur, hv, hb, hg, h1, h2, h3, h4⟩
  · cases h0
  · cases hv
    have := Nat.mul_le_mul_right s h1
    refine ⟨⟨cur[j]'(by omega), ?_⟩, frozen_of_row w g j _ _ hg⟩
    rw [cell_of_row w g j _ _ _ hg, Array.getElem?_eq_getElem]
theorem lt (h : HasRow w b e s g n c) : b ≤ g ∧ g < w.heap.size := by
  obtain ⟨xs, h⟩ := h
  exact World.ownsRow.lt h g rfl
end HasRow
theorem HasRow.keep {w w' : World} {b : Nat} {e : TypeId} {s g n c : Nat} (h : HasRow w b e s g n c) (k : Bw w w') : HasRow w' b e s g n c := h.keepx (S := fun _ => False) (Bx.of_bw k) (fun e => e)
theorem row_some {w : World} {b : Nat} {e : TypeId} {s n c : Nat} {A : Option Addr} {xs : List Value} (h : w.ownsRow b e s (.slice A n c) n xs) (hn : 0 < n) : ∃ g, A = some ⟨g, 0, none⟩ ∧ HasRow w b e s g n c := by
  rcases h.2 with ⟨h0, h1⟩ | ⟨g', cap, cur, hv, _⟩
  · omega
  · cases hv
    exact ⟨g', rfl, xs, h⟩
/-- the blocks that are written over: two rows, and the list of them -/
def S3 (ga gc q b : Nat) : Prop := b = ga ∨ b = gc ∨ b = q
/-- two rows are written over, one behind the other; i: how many are through -/
structure PhD (w9 : World) (ba bc ga gc q l ca lc cc : Nat) (i : Nat) (w : World) : Prop where
  bx : Bx (S3 ga gc q) w9 w
  ql : q < w9.heap.size
  q_ : ∃ v0 v1, w.heap[q]? = some (.cells #[v0, v1] 24 (0, 0)) ∧ (i = 0 → v0 = .slice (some ⟨ga, 0, none⟩) l ca) ∧ (i ≤ 1 → v1 = .slice (some ⟨gc, 0, none⟩) lc cc)
  oa : i = 0 → HasRow w ba 5 1 ga l ca
  oc : i ≤ 1 → HasRow w bc 5 1 gc lc cc
  n1 : ga ≠ gc
  n2 : ga ≠ q
  n3 : gc ≠ q
namespace PhD
variable {w9 w : World} {ba bc ga gc q l ca lc cc i : Nat}
theorem q0 (h : PhD w9 ba bc ga gc q l ca lc cc 0 w) : w.cell? ⟨q, 0, none⟩ = some (.slice (some ⟨ga, 0, none⟩) l ca) := by
  obtain ⟨v0, v1, h1, h2, _⟩ := h.q_
  rw [cell_of_row w q 0 _ _ _ h1, h2 rfl]; rfl
theorem q1 (h : PhD w9 ba bc ga gc q l ca lc cc 1 w) : w.cell? ⟨q, 1, none⟩ = some (.slice (some ⟨gc, 0, none⟩) lc cc) := by
  obtain ⟨v0, v1, h1, _, h3⟩ := h.q_
  rw [cell_of_row w q 1 _ _ _ h1, h3 (Nat.le_refl _)]; rfl
theorem setA (h : PhD w9 ba bc ga gc q l ca lc cc 0 w) (t : Nat) (x : Value) : PhD w9 ba bc ga gc q l ca lc cc 0 (w.setCell ⟨ga, t, none⟩ x) := by
  have bx : Bx (fun b => b = ga) w (w.setCell ⟨ga, t, none⟩ x) := Bx.put (Bx.refl _ _) rfl
  obtain ⟨v0, v1, h1, h2⟩ := h.q_
  exact ⟨h.bx.trans (bx.more (fun b e => .inl e)), h.ql, ⟨v0, v1, (bx.block q (Array.getElem?_eq_some_iff.1 h1).1 (fun e => h.n2 e.symm)).trans h1, h2⟩, fun _ => (h.oa rfl).set t x, fun _ => (h.oc (by omega)).keepx bx (fun e => h.n1 e.symm), h.n1, h.n2, h.n3⟩
theorem setC (h : PhD w9 ba bc ga gc q l ca lc cc 1 w) (t : Nat) (x : Value) : PhD w9 ba bc ga gc q l ca lc cc 1 (w.setCell ⟨gc, t, none⟩ x) := by
  have bx : Bx (fun b => b = gc) w (w.setCell ⟨gc, t, none⟩ x) := Bx.put (Bx.refl _ _) rfl
  obtain ⟨v0, v1, h1, h2⟩ := h.q_
  exact ⟨h.bx.trans (bx.more (fun b e => .inr (.inl e))), h.ql, ⟨v0, v1, (bx.block q (Array.getElem?_eq_some_iff.1 h1).1 (fun e => h.n3 e.symm)).trans h1, h2⟩, fun e => by omega, fun _ => (h.oc (Nat.le_refl _)).set t x, h.n1, h.n2, h.n3⟩
/-- behind the append: where the list lies -/
theorem grown {g n c : Nat} (h : PhD w9 ba bc ga gc q l ca lc cc i w) (hg : g = ga ∨ g = gc) {o : Obj} {w6 : World} (hgr : (w.alloc o).grownBy w6 (Value.slice (some ⟨g, 0, none⟩) n c).ownBlock) : Bx (S3 ga gc q) w9 w6 ∧ w6.heap[q]? = w.heap[q]? ∧ (∀ b, b ≠ g → b < w.heap.size → w6.heap[b]? = w.heap[b]?) := by
  have k : Bw w (w.alloc o) := Below.alloc (Bw.refl _) (Nat.le_refl _) _
  have x : Bx (fun b => b = g) (w.alloc o) w6 := ⟨hgr.os, hgr.tape, hgr.output, hgr.size, fun b hb hn => hgr.block b hb (fun e => hn (by cases e; rfl))⟩
  have hql : q < w.heap.size := Nat.lt_of_lt_of_le h.ql h.bx.size
  have hall : ∀ b, b ≠ g → b < w.heap.size → w6.heap[b]? = w.heap[b]? := fun b hb hl => (x.block b (Nat.lt_of_lt_of_le hl k.size) hb).trans (k.block b hl)
  exact ⟨(h.bx.trans (Bx.of_bw k)).trans (x.more (fun b e => by subst e; exact hg.elim .inl (fun e => .inr (.inl e)))), hall q (fun e => hg.elim (fun e2 => h.n2 (e2.symm.trans e.symm)) (fun e2 => h.n3 (e2.symm.trans e.symm))) hql, hall⟩
theorem next0 {n c : Nat} (h : PhD w9 ba bc ga gc q l ca lc cc 0 w) {o : Obj} {w6 : World} (hgr : (w.alloc o).grownBy w6 (Value.slice (some ⟨ga, 0, none⟩) n c).ownBlock) (v : Value) : PhD w9 ba bc ga gc q l ca lc cc 1 (w6.setCell ⟨q, 0, none⟩ v) := by
  obtain ⟨h1, h2, h3⟩ := h.grown (.inl rfl) hgr
  obtain ⟨v0, v1, h4, _, h5⟩ := h.q_
  have bx : Bx (fun b => b = q) w6 (w6.setCell ⟨q, 0, none⟩ v) := Bx.put (Bx.refl _ _) rfl
  have hc := h.oc (by omega)
  have hc6 : HasRow w6 bc 5 1 gc lc cc := hc.chg fun cur hcur => ⟨cur, (h3 gc h.n1.symm hc.lt.2).trans hcur, rfl⟩
  exact ⟨h1.trans (bx.more (fun b e => .inr (.inr e))), h.ql, ⟨v, v1, heap_setCell_same w6 q 0 _ _ v (h2.trans h4), fun e => by omega, fun _ => h5 (by omega)⟩, fun e => by omega, fun _ => hc6.keepx bx h.n3, h.n1, h.n2, h.n3⟩
theorem next1 {n c : Nat} (h : PhD w9 ba bc ga gc q l ca lc cc 1 w) {o : Obj} {w6 : World} (hgr : (w.alloc o).grownBy w6 (Value.slice (some ⟨gc, 0, none⟩) n c).ownBlock) (v : Value) : PhD w9 ba bc ga gc q l ca lc cc 2 (w6.setCell ⟨q, 1, none⟩ v) := by
  obtain ⟨h1, h2, h3⟩ := h.grown (.inr rfl) hgr
  obtain ⟨v0, v1, h4, _, h5⟩ := h.q_
  have bx : Bx (fun b => b = q) w6 (w6.setCell ⟨q, 1, none⟩ v) := Bx.put (Bx.refl _ _) rfl
  exact ⟨h1.trans (bx.more (fun b e => .inr (.inr e))), h.ql, ⟨v0, v, heap_setCell_same w6 q 1 _ _ v (h2.trans h4), fun e => by omega, fun e => by omega⟩, fun e => by omega, fun e => by omega, h.n1, h.n2, h.n3⟩
theorem qrow (h : PhD w9 ba bc ga gc q l ca lc cc i w) : ∃ v0 v1, w.heap[q]? = some (.cells #[v0, v1] 24 (0, 0)) := by
  obtain ⟨v0, v1, h1, _⟩ := h.q_
  exact ⟨v0, v1, h1⟩
end PhD
end Go.Proofs.YtldkhbkgmiicbabGreatDoor

/- Layer 12: what lent lends is in memory of its own (written by mkzl.py out of ZE). -/
namespace Go.Proofs.YtldkhbkgmiicbabGreatDoor
open Go.RowKit Go.Deep
set_option linter.unusedVariables false
set_option linter.unusedSimpArgs false

/-- a Body that was lent, in a block that is not elder than H -/
def MarkF (H : Nat) (w : World) (y : Tr.Iv) : Prop := MarkAt w y ∧ ∀ b o, y.ad = some ⟨b, o, none⟩ → H ≤ b
theorem MarkF.body {H : Nat} {w : World} {y : Tr.Iv} (h : MarkF H w y) : BodyAt w y := h.1.body
theorem MarkF.keep {H : Nat} {w w' : World} {y : Tr.Iv} (h : MarkF H w y) (g : Bw w w') : MarkF H w' y := ⟨h.1.keep g, h.2⟩
theorem MarkF.grown {H : Nat} {w w' : World} {y : Tr.Iv} {base n : Nat} {v : Value} {xs : List Value} (h : MarkF H w y) (g : w.grownBy w' v.ownBlock) (ho : w.ownsRow base 26 6 v n xs) : MarkF H w' y := ⟨h.1.grown g ho, h.2⟩
end Go.Proofs.YtldkhbkgmiicbabGreatDoor
