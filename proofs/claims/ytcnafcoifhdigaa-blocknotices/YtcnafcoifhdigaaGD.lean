/- The statements' own wakes, of layer 6. -/
import Derived.Test.YtcnafcoifhdigaaGC
namespace Go.Proofs.Ytcnafcoifhdigaa
open Go.RowKit Go.Deep
set_option linter.unusedVariables false
set_option linter.unusedSimpArgs false

/-- the two bytes ab -/
def fab (i : Nat) : Int := if i = 0 then 97 else if i = 1 then 98 else 0
theorem fab_bd (i : Nat) : 0 ≤ fab i ∧ fab i < 256 := by unfold fab; split; decide; split <;> decide
theorem rowab (W : World) (fr : Nat × Nat) : RowAt (W.alloc (.cells #[.int .u8 97, .int .u8 98] 5 fr)) (some ⟨W.heap.size, 0, none⟩) 2 fab := by
  refine ⟨Or.inr ⟨W.heap.size, 0, rfl, fun i hi => ?_⟩, fab_bd⟩
  rw [Nat.zero_add, World.cell?_alloc_mark]
  have h : i = 0 ∨ i = 1 := by omega
  rcases h with rfl | rfl <;> rfl
theorem made128 : ∃ M : Array Value, M.size = 128 ∧ (∀ i, i < 128 → M[i]? = some (.int .u8 0)) ∧
    ∀ w, (Instr.makeSlice 24 (.int .i64 128) (.int .i64 128)).run Try.prog w = .ok (.slice (some ⟨w.heap.size, 0, none⟩) 128 128) (w.alloc (.cells M 5)) := made_bytes 128 (by omega)
theorem Bw.past' {w w' : World} {o : Obj} (h : Bw (w.alloc o) w') : Bw w w' := Bw.trans (Below.alloc (Below.refl _ _) (Nat.le_refl _) _) h

set_option maxRecDepth 100000 in
set_option maxHeartbeats 1000000 in
theorem wakes6_any (w : World) : Calls Try.prog 8 #[] w fun e w' => e = .returned (.bool true) ∧ Bw w w' := by
  have kc := fun (w : World) (C : Array Value) (n c : Nat) => Lib.run_convert_bytes_const (P := Try.prog) w 24 5 C n c Try.underlying24 Try.underlying5
  obtain ⟨M, hM, hM0, hmk⟩ := made128
  have HM : Hid (∀ i, i < 128 → M[i]? = some (.int .u8 0)) := hM0
  clear hM0
  have hsb := sealF_bd (Blk.body_bd (key := 1) (stripe := 2) (shard := 3) (len := 2) (by omega) (by omega) fab_bd) 124
  obtain ⟨F, hF⟩ : ∃ F, Hid (F = sealF (Blk.body 1 2 3 2 fab) 124) := ⟨_, rfl⟩
  rw [← hF.out] at hsb
  have e11 : F 11 = 1 := by rw [hF.out]; rfl
  have e15 : F 15 = 2 := by rw [hF.out]; rfl
  have e16 : F 16 = 3 := by rw [hF.out]; rfl
  have e17 : F 17 = 2 := by rw [hF.out]; rfl
  have e28 : F 28 = 97 := by rw [hF.out]; rfl
  have hgood : Hid (IsOf 128 F 1 2 3) := by
    show IsOf _ _ _ _ _
    rw [hF.out]
    have h := pack_good (k := 1) (s := 2) (h := 3) (L := 2) (d := fab) (by decide) (by decide) (by decide)
    exact ⟨h.1, h.2.1, h.2.2.1, h.2.2.2.1⟩
  go_enter Try.func8, Try.ntmps8
  go_wp2_with (first
    | (go_at_call 9; refine (pack_ok 1 2 3 (by decide) (by decide) (by decide) _ 2 _ fab _ (rowab _ _) (by decide)).mono ?_; rintro e w1 ⟨g, cap, rfl, hown, hg, hcap, hcm, hw1⟩; rw [← hF.out] at hown)
    | (go_at_call 12; refine (parse_any _ 128 128 (fun _ => 0) _ (row_new _ _ _ _ _ (fun _ => ⟨Int.le_refl 0, show (0 : Int) < 256 by decide⟩) HM.out) (Nat.le_refl _)).mono ?_; rintro e w2 ⟨er, k, s, h, A2, n2, c2, rfl, hs2, -, -, -, hw2⟩; obtain rfl : er = 60 := hs2.errs.mark rfl (fun hm => absurd hm.1 (by decide)); have hb2 := Bw.past' hw2)
    | (refine wpList_store_row rfl 26 _ _ rfl w2.heap.size (blkCells _ _ _ _ _ _) rfl rfl 26 _ (heap_alloc_new _ _) (blk_info _ _ _ _ _ _) rfl (blk_all _ _ _ _ _ _) ?_; rw [setRow_alloc_new]; have hown3 := (hown.keep hb2).keep (bw_alloc (Bw.refl w2) (.cells (blkCells (k : Int) (s : Int) (h : Int) A2 n2 c2) 26)); have k11 := (hown3.cell (c := 11) (by omega)).1; have k15 := (hown3.cell (c := 15) (by omega)).1; have k16 := (hown3.cell (c := 16) (by omega)).1; have k17 := (hown3.cell (c := 17) (by omega)).1; have k28 := (hown3.cell (c := 28) (by omega)).1; rw [e11] at k11; rw [e15] at k15; rw [e16] at k16; rw [e17] at k17; rw [e28] at k28)
    | (go_at_call 13; refine (is_any _ 128 cap F 1 2 3 _ (hown3.row hsb) hcap).mono ?_; rintro e w4 ⟨⟨x, rfl, hx⟩, hw4⟩; obtain rfl : x = true := hx.2 hgood.out))
  go_ret
  exact ⟨rfl, (Bw.past' hw1).trans (hb2.trans (Bw.past' hw4))⟩
end Go.Proofs.Ytcnafcoifhdigaa
