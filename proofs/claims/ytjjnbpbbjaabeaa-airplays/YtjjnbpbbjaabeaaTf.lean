/- Layer 19: At. -/
import Derived.Test.YtjjnbpbbjaabeaaTe
namespace Go.Proofs.Ytjjnbpbbjaabeaa
open Go.RowKit Go.Deep
set_option linter.unusedVariables false
set_option linter.unusedSimpArgs false

theorem bnd {k n : Nat} (h : k < n) : (0 : Int) ≤ (k : Int) ∧ (k : Int) < (n : Int) := ⟨by omega, by omega⟩
set_option maxRecDepth 100000 in
/-- At of none -/
theorem at_no {w : World} (p : Option Addr) (i : Int) (HH : ∀ u, Bw w u → Calls Try.prog 33 #[.pointer p, .int .i64 i] u fun e w' => e = .returned (.bool false) ∧ w' = u) :
    Calls Try.prog 13 #[.pointer p, .int .i64 i] w fun e w' => e = .returned (.tuple #[.agg #[.int .i64 0, .int .i64 0, .slice none 0 0], .bool false]) ∧ Bw w w' := by
  obtain ⟨z, hz⟩ : ∃ z, Hid (w.heap.size = z) := ⟨_, rfl⟩
  obtain ⟨W1, hW1⟩ : ∃ W, Hid (w.alloc (.cells #[.int .i64 0, .int .i64 0, .slice none 0 0] 35) = W) := ⟨_, rfl⟩
  have kW : Bw w W1 := by rw [← hW1.out]; exact bw_allocx (Bw.refl _)
  have hD : DgAt W1 z 0 0 (.slice none 0 0) := by rw [← hW1.out, ← hz.out]; exact heap_alloc_new _ _
  have HH1 : Hid (Calls Try.prog 33 #[.pointer p, .int .i64 i] W1 fun e w' => e = .returned (.bool false) ∧ w' = W1) := HH W1 kW
  have hz0 : Hid (w.heap.size ≤ z) := Nat.le_of_eq hz.out
  clear HH
  go_enter Try.func13, Try.ntmps13
  go_upto_region 1 with fail
  rw [hW1.out, hz.out]
  go_wp2_with (first
    | (go_at_call 33; refine HH1.out.mono ?_; rintro e w2 ⟨rfl, hw⟩; subst w2)
    | refine wpList_store_row rfl 35 _ _ rfl z (dcs 0 0 (.slice none 0 0)) rfl rfl 35 _ hD (dg_info _ _ _) rfl (dg_all _ _ rfl).out ?_)
  try simp only [Exit.inBlock, Exit.then]
  refine bodyPost_ret (results_row_tmp (p := 4) (u := 5) (by rfl) _ _ z 35 (dcs 0 0 (.slice none 0 0)) (0, 0) _ (by rfl) (setRow_heap _ _ _ _ _ _ hD) Try.underlying35 rfl (dg_info _ _ _)) rfl ?_
  exact ⟨rfl, bw_setRow kW hz0.out _⟩
set_option maxRecDepth 100000 in
theorem at_yes {w : World} {g : Nat} {v : Value} {gm : Nat} {E : List Raw} {S : Ai.St} (h : AirX w g v gm E S) {k : Nat} (hk : k < S.L.length) :
    Calls Try.prog 13 #[.pointer (some ⟨g, 0, none⟩), .int .i64 (k : Int)] w fun e w' => ∃ v', e = .returned (.tuple #[.agg #[.int .i64 S.L[k].src, .int .i64 S.L[k].dst, v'], .bool true]) ∧ RowV w' v' S.L[k].b ∧ VIn (fun b => w.heap.size ≤ b) v' ∧ Bw w w' := by
  obtain ⟨z, hz⟩ : ∃ z, Hid (w.heap.size = z) := ⟨_, rfl⟩
  obtain ⟨W1, hW1⟩ : ∃ W, Hid (w.alloc (.cells #[.int .i64 0, .int .i64 0, .slice none 0 0] 35) = W) := ⟨_, rfl⟩
  have kW : Bw w W1 := by rw [← hW1.out]; exact bw_allocx (Bw.refl _)
  have hD : DgAt W1 z 0 0 (.slice none 0 0) := by rw [← hW1.out, ← hz.out]; exact heap_alloc_new _ _
  have hs : z < W1.heap.size := (Array.getElem?_eq_some_iff.1 hD).1
  have HH1 : Hid (Calls Try.prog 33 #[.pointer (some ⟨g, 0, none⟩), .int .i64 (k : Int)] W1 fun e w' => e = .returned (.bool true) ∧ w' = W1) := by
    have := has_any (h.keep kW) (k : Int)
    rw [Ai.has_of hk] at this
    exact this
  have hz0 : Hid (w.heap.size ≤ z) := Nat.le_of_eq hz.out
  obtain ⟨r, d, hr, hd, e1, e2, hrow⟩ := h.dgs.get hk
  have hd' : S.L[k] = d := by rw [List.getElem?_eq_getElem hk] at hd; exact Option.some.inj hd
  rw [hd', ← e1, ← e2]
  obtain ⟨ub, uc, rfl, hB⟩ := h.und.pos (by rw [h.len]; omega)
  have hkn := bnd hk
  rw [← h.len] at hkn
  obtain ⟨n, hn⟩ : ∃ n, Hid (E.length = n) := ⟨_, rfl⟩
  have c1 : W1.cell? ⟨g, 1, none⟩ = some (.slice (some ⟨ub, 0, none⟩) E.length uc) := (h.keep kW).c1
  rw [hn.out] at hkn c1
  obtain ⟨k0, k1⟩ := hkn
  have hR := (hB.keep kW).range hr
  have HT : Hid (Calls Try.prog 34 #[.agg #[.int .i64 r.src, .int .i64 r.dst, r.v]] W1 fun e w' => ∃ v', e = .returned (.agg #[.int .i64 r.src, .int .i64 r.dst, v']) ∧ RowV w' v' d.b ∧ VIn (fun b => W1.heap.size ≤ b) v' ∧ Bw W1 w') :=
    twin_any r.src r.dst (hrow.keep kW) (by have := (h.ok.dgs d (List.mem_of_getElem? hd)).2; omega)
  clear h hB hr hd hd' e1 e2 hrow hk
  go_enter Try.func13, Try.ntmps13
  go_upto_region 1 with fail
  rw [hW1.out, hz.out]
  go_wp2_with (first
    | (go_at_call 33; refine HH1.out.mono ?_; rintro e w2 ⟨rfl, hw⟩; subst w2)
    | refine wpList_load_mid rfl 35 _ rfl ub (k * 3) (by rfl) r.cells _ hR Try.underlying35 rfl (dg_info _ _ r.v) ?_
    | (go_at_call 34; refine HT.out.mono ?_; rintro e w2 ⟨v1, rfl, hr1, hv1, hb1⟩; have hD1 : DgAt w2 z 0 0 (.slice none 0 0) := (hb1.block z hs).trans hD; have ho := dg_oneCell hr1)
    | refine wpList_store_row rfl 35 _ _ rfl z (dcs r.src r.dst v1) rfl rfl 35 _ hD1 (dg_info _ _ _) rfl (dg_all _ _ ho).out ?_)
  try simp only [Exit.inBlock, Exit.then]
  refine bodyPost_ret (results_row_tmp (p := 4) (u := 5) (by rfl) _ _ z 35 (dcs r.src r.dst v1) (0, 0) _ (by rfl) (setRow_heap _ _ _ _ _ _ hD1) Try.underlying35 rfl (dg_info _ _ _)) rfl ?_
  exact ⟨v1, rfl, hr1.keepx (P := (· = z)) (bx_setRow (S := (· = z)) (Bx.refl _ _) rfl _) (fun b o n c e h0 e' => by have := hv1 b o n c e h0; have e2 : b = z := e'; omega), hv1.mono (fun b hb => Nat.le_trans kW.size hb), bw_setRow (kW.trans hb1) hz0.out _⟩
end Go.Proofs.Ytjjnbpbbjaabeaa
