/- Texts of mine, put together. -/
import Derived.Test.YtldkhbkgmiicbaaGreatDoorBu35
import Derived.Test.YtldkhbkgmiicbaaGreatDoorBu33

/- The document's own Put, Full, Blank and first, of layer 10. -/
namespace Go.Proofs.YtldkhbkgmiicbaaGreatDoor
open Go.RowKit Go.Deep
set_option linter.unusedVariables false
set_option linter.unusedSimpArgs false

/-- texts of a head that are not too long for any machine -/
structure Hd.Small (h : Hd.Hdr) : Prop where
  name : h.name.length ≤ 4611686018427387904
  link : h.link.length ≤ 4611686018427387904
  pre : h.pre.length ≤ 4611686018427387904
set_option maxRecDepth 100000 in
theorem rPut_any (h : Hd.Hdr) (hsm : Hd.Small h) (w : World) : Calls Tryz.prog 51 #[.agg (Hd.hv h)] w fun e w' =>
    (Hd.may h ≠ 0 → e = .returned (.tuple #[.slice none 0 0, .int .i64 ((Hd.may h : Nat) : Int)])) ∧ (Hd.may h = 0 → ∃ v, e = .returned (.tuple #[v, .int .i64 0]) ∧ GB w' w.heap.size v (Hd.layB h)) ∧ Bw w w' := by
  have hih := info_head h
  obtain ⟨W1, hW1⟩ : ∃ V, V = w.alloc (.cells (Hd.hv h) 61) := ⟨_, rfl⟩
  have hH1 : HeadAt W1 w.heap.size h := by rw [hW1]; exact heap_alloc_new _ _
  have hb1 : Bw w W1 := by rw [hW1]; exact bw_alloc7 (Bw.refl _) _
  obtain ⟨M, hM⟩ : ∃ M, Hid (M = Hd.may h) := ⟨_, rfl⟩
  rw [← hM.out]
  by_cases hm : M = 0
  · have HG : Hid (Hd.Good h) := Hd.may_good (h := h) (by rw [← hM.out]; exact hm)
    subst hm
    go_enter Tryz.func51, Tryz.ntmps51
    go_wp2_with (first
      | (rw [← hW1]; clear hW1; refine wpList_load_row rfl 61 _ rfl w.heap.size rfl 61 (Hd.hv h) (0, 0) _ hH1 Tryz.underlying61 rfl hih ?_)
      | (go_at_call 76; refine (rMay_any h hsm.name hsm.link hsm.pre _).mono ?_; rintro e w1 ⟨rfl, hw1⟩; rw [← hM.out]; have hH2 := hH1.keep hw1)
      | (refine wpList_load_row rfl 61 _ rfl w.heap.size rfl 61 (Hd.hv h) (0, 0) _ hH2 Tryz.underlying61 rfl hih ?_)
      | (go_at_call 77; refine (rlay_any h HG.out _).mono ?_; rintro e w2 ⟨v2, rfl, g2, hw2⟩))
    go_ret2
    have hb2 := hb1.trans hw1
    exact ⟨fun h => absurd rfl h, fun _ => ⟨v2, rfl, g2.lower hb2.size⟩, hb2.trans hw2⟩
  · have HM : Hid (M ≠ 0) := hm
    have e1 : ((M : Int) != 0) = true := by rw [bne_iff_ne]; omega
    clear hm
    go_enter Tryz.func51, Tryz.ntmps51
    go_wp2_with (first
      | (rw [← hW1]; clear hW1; refine wpList_load_row rfl 61 _ rfl w.heap.size rfl 61 (Hd.hv h) (0, 0) _ hH1 Tryz.underlying61 rfl hih ?_)
      | (go_at_call 76; refine (rMay_any h hsm.name hsm.link hsm.pre _).mono ?_; rintro e w1 ⟨rfl, hw1⟩; rw [← hM.out]))
    go_ret2
    exact ⟨fun _ => rfl, fun h => absurd h HM.out, hb1.trans hw1⟩
theorem Hd.zeros_at {l : Hd.B} (hl : l.length = 512) (h : ∀ i, i < 512 → Hd.rowF l i = 0) : l = Hd.zeros := by
  apply Hd.rowF_ext
  · rw [hl, zeros_len]
  · intro i hi
    rw [h i (by omega)]
    unfold Hd.rowF Hd.zeros
    rw [List.getD_eq_getElem?_getD, List.getElem?_replicate]
    split <;> rfl
theorem Hd.zeros_row (i : Nat) : Hd.rowF Hd.zeros i = 0 := by
  unfold Hd.rowF Hd.zeros
  rw [List.getD_eq_getElem?_getD, List.getElem?_replicate]
  split <;> rfl
end Go.Proofs.YtldkhbkgmiicbaaGreatDoor
