/- The tree of the chapter's examples; the statements' awake, of layer 11. -/
import Derived.Test.YtjifdoneejofiabY9
import Derived.Test.YtjifdoneejofiabY7
namespace Go.Proofs.Ytjifdoneejofiab
open Go.RowKit Go.Deep
set_option linter.unusedVariables false
set_option linter.unusedSimpArgs false

namespace Tr
def s0 : It := ⟨[97], 2, 0, 0, [], []⟩
def s1 : It := ⟨[97, 47, 102], 1, 0, 0, [1, 2, 3], []⟩
def s2 : It := ⟨[97, 47, 104], 3, 0, 0, [], [97, 47, 102]⟩
def s3 : It := ⟨[97, 47, 115], 4, 0, 0, [], [102]⟩
def s4 : It := ⟨[108], 4, 0, 0, [], [97]⟩
theorem fit_s1 : Fit s1 := ⟨by decide, by decide, by decide, by decide, by decide, by decide⟩
def smI : List It := [s0, s1, s2, s3, s4]
def sm (g : Nat) : List Iv := [⟨s0, none, 0⟩, ⟨s1, some ⟨g, 0, none⟩, 3⟩, ⟨s2, none, 0⟩, ⟨s3, none, 0⟩, ⟨s4, none, 0⟩]
theorem its_sm (g : Nat) : its (sm g) = smI := rfl
theorem sm_chk : chkE smI = (0, 0) := by decide +kernel
theorem sm_chk1 : chkE (smI.drop 1) = (0, 112) := by decide +kernel
theorem sm_find : findE smI [97, 47, 104] = (2, 0) := by decide +kernel
theorem sm_ben : (smI.filter (fun x => bnB [97] x.path)).length = 3 := by decide +kernel
theorem sm_real : realE smI [108, 47, 115] = ([97, 47, 102], 0) := by
  unfold realE
  rw [sm_chk, if_neg (by decide), if_neg (by decide), if_neg (by decide +kernel)]
  rw [show Nm.pieces [108, 47, 115] = [[108], [115]] by decide +kernel]
  rw [real_soft (i := 4) (x := s4) (by decide +kernel) rfl rfl (by decide), show pts (Nm.lead s4.path s4.to).1 ++ [[115]] = [[97], [115]] by decide +kernel]
  rw [real_step (i := 0) (x := s0) (by decide +kernel) rfl (by decide), show pts (endOf s0) = [[97]] by decide +kernel]
  rw [real_soft (i := 3) (x := s3) (by decide +kernel) rfl rfl (by decide), show pts (Nm.lead s3.path s3.to).1 ++ [] = [[97], [102]] by decide +kernel]
  rw [real_step (i := 0) (x := s0) (by decide +kernel) rfl (by decide), show pts (endOf s0) = [[97]] by decide +kernel]
  rw [real_step (i := 1) (x := s1) (by decide +kernel) rfl (by decide), show pts (endOf s1) = [[97], [102]] by decide +kernel]
  rw [real_nil]; rfl
end Tr
theorem its_alloc {W : World} {L : List Tr.Iv} (hb : ∀ y ∈ L, BodyAt (W.alloc (.cells (Tr.cellsI L).toArray 26)) y) : ItsAt (W.alloc (.cells (Tr.cellsI L).toArray 26)) (some ⟨W.heap.size, 0, none⟩) L := by
  refine ⟨.inr ⟨W.heap.size, 0, rfl, fun i y hy => ItAt.of fun k v hv => ?_⟩, hb⟩
  have hk : k < 6 := (List.getElem?_eq_some_iff.1 hv).1
  rw [Nat.zero_add, cell_of_row _ _ _ _ _ _ (heap_alloc_new W _), List.getElem?_toArray, Tr.cellsI_get L i y k hy hk]
  exact hv
theorem bt0 : Try.prog.built 26 [(0, .string ⟨#[97]⟩), (1, .int .u8 2)] = some (Tr.Iv.arr ⟨Tr.s0, none, 0⟩) := by kernel_rfl
theorem bt1 (g : Nat) : Try.prog.built 26 [(0, .string ⟨#[97, 47, 102]⟩), (1, .int .u8 1), (4, .slice (some ⟨g, 0, none⟩) 3 3)] = some (Tr.Iv.arr ⟨Tr.s1, some ⟨g, 0, none⟩, 3⟩) := by kernel_rfl
theorem bt2 : Try.prog.built 26 [(0, .string ⟨#[97, 47, 104]⟩), (1, .int .u8 3), (5, .string ⟨#[97, 47, 102]⟩)] = some (Tr.Iv.arr ⟨Tr.s2, none, 0⟩) := by kernel_rfl
theorem bt3 : Try.prog.built 26 [(0, .string ⟨#[97, 47, 115]⟩), (1, .int .u8 4), (5, .string ⟨#[102]⟩)] = some (Tr.Iv.arr ⟨Tr.s3, none, 0⟩) := by kernel_rfl
theorem bt4 : Try.prog.built 26 [(0, .string ⟨#[108]⟩), (1, .int .u8 4), (5, .string ⟨#[97]⟩)] = some (Tr.Iv.arr ⟨Tr.s4, none, 0⟩) := by kernel_rfl
theorem wpList_b123 {ops : Array Oper} {rest : List Oper} {o : Oper} {a : Act} {w : World} {Q : Exit → Act → World → Prop} (hgd : o.guard = none) (ho : o.op = .buildSlice 24 3 #[(0, .const (.int .u8 1)), (1, .const (.int .u8 2)), (2, .const (.int .u8 3))])
    (h : wpList Try.prog ops Q rest (a.put o.dst (.slice (some ⟨w.heap.size, 0, none⟩) 3 3)) (w.alloc (.cells #[.int .u8 1, .int .u8 2, .int .u8 3] 5))) : wpList Try.prog ops Q (o :: rest) a w := by
  obtain ⟨i0, hi0, hz0, hz1, hz2⟩ := info_parts info_u8
  refine wpList_buildSlice hgd 24 5 3 _ ho _ i0 _ Try.underlying24 hi0 hz0 (by rw [hz1]; omega) (by rw [hz1]; omega) ?_ h
  rw [hz1]
  kernel_rfl
theorem wpList_small5 {ops : Array Oper} {rest : List Oper} {o : Oper} {a : Act} {w : World} {Q : Exit → Act → World → Prop} (hgd : o.guard = none) (p0 p1 p2 p3 p4 : Operand) (ho : o.op = .buildSlice 22 5 #[(0, p0), (1, p1), (2, p2), (3, p3), (4, p4)])
    (y0 y1 y2 y3 y4 : Tr.Iv) (h0 : a.eval p0 = .agg y0.arr) (h1 : a.eval p1 = .agg y1.arr) (h2 : a.eval p2 = .agg y2.arr) (h3 : a.eval p3 = .agg y3.arr) (h4 : a.eval p4 = .agg y4.arr)
    (h : wpList Try.prog ops Q rest (a.put o.dst (.slice (some ⟨w.heap.size, 0, none⟩) 5 5)) (w.alloc (.cells (Tr.cellsI [y0, y1, y2, y3, y4]).toArray 26))) : wpList Try.prog ops Q (o :: rest) a w := by
  obtain ⟨i0, hi0, hz0, hz1, hz2⟩ := info_parts info_item
  refine wpList_buildSlice hgd 22 26 5 _ ho _ i0 _ Try.underlying22 hi0 hz0 (by rw [hz1]; omega) (by rw [hz1]; omega) ?_ h
  rw [hz1]
  simp only [Array.toList_map, List.map_cons, List.map_nil, h0, h1, h2, h3, h4]
  kernel_rfl
def SmallEnds (e : Ending) (w' : World) : Prop := ∃ k g, e = .returned (.slice (some ⟨k, 0, none⟩) 5 5) ∧ ItsAt w' (some ⟨k, 0, none⟩) (Tr.sm g)
set_option maxRecDepth 100000 in
set_option maxHeartbeats 1000000 in
theorem small_any (w : World) : Calls Try.prog 24 #[] w fun e w' => SmallEnds e w' ∧ Bw w w' := by
  have b0 := bt0
  have b1 := bt1 w.heap.size
  have b2 := bt2
  have b3 := bt3
  have b4 := bt4
  obtain ⟨W, hW⟩ : ∃ V, V = w.alloc (.cells #[.int .u8 1, .int .u8 2, .int .u8 3] 5) := ⟨_, rfl⟩
  have hbw : Bw w W := by rw [hW]; exact bw_alloc11 (Bw.refl _) _
  have hrow : RowAt W (some ⟨w.heap.size, 0, none⟩) 3 (Tr.rowF [1, 2, 3]) := by
    rw [hW]
    refine row_new w _ _ 3 _ (Tr.rowF_bd _) (fun i hi => ?_)
    rcases (show i = 0 ∨ i = 1 ∨ i = 2 by omega) with rfl | rfl | rfl <;> rfl
  go_enter Try.func24, Try.ntmps24
  go_wp2_with (first
    | refine wpList_built11 rfl 26 _ rfl _ b0 ?_
    | (refine wpList_b123 rfl rfl ?_; rw [← hW]; clear hW)
    | refine wpList_built11 rfl 26 _ rfl _ b1 ?_
    | refine wpList_built11 rfl 26 _ rfl _ b2 ?_
    | refine wpList_built11 rfl 26 _ rfl _ b3 ?_
    | refine wpList_built11 rfl 26 _ rfl _ b4 ?_
    | refine wpList_small5 rfl (.tmp 1) (.tmp 3) (.tmp 4) (.tmp 5) (.tmp 6) rfl _ _ _ _ _ rfl rfl rfl rfl rfl ?_)
  go_ret
  refine ⟨⟨W.heap.size, w.heap.size, rfl, its_alloc (L := Tr.sm w.heap.size) fun y hy => ?_⟩, bw_alloc11 hbw _⟩
  simp only [Tr.sm, List.mem_cons, List.not_mem_nil, or_false] at hy
  rcases hy with rfl | rfl | rfl | rfl | rfl
  · exact ⟨⟨.inl rfl, Tr.rowF_bd _⟩, Nat.le_refl _, fun _ => rfl, ⟨by decide, by decide, by decide, by decide, by decide, by decide⟩⟩
  · exact ⟨hrow.keep (bw_alloc11 (Bw.refl _) _), Nat.le_refl _, (fun e => by cases e), Tr.fit_s1⟩
  · exact ⟨⟨.inl rfl, Tr.rowF_bd _⟩, Nat.le_refl _, fun _ => rfl, ⟨by decide, by decide, by decide, by decide, by decide, by decide⟩⟩
  · exact ⟨⟨.inl rfl, Tr.rowF_bd _⟩, Nat.le_refl _, fun _ => rfl, ⟨by decide, by decide, by decide, by decide, by decide, by decide⟩⟩
  · exact ⟨⟨.inl rfl, Tr.rowF_bd _⟩, Nat.le_refl _, fun _ => rfl, ⟨by decide, by decide, by decide, by decide, by decide, by decide⟩⟩
set_option maxRecDepth 100000 in
set_option maxHeartbeats 2000000 in
theorem awake11_any (w : World) : Calls Try.prog 7 #[] w fun e w' => e = .returned (.bool true) ∧ Bw w w' := by
  have HC0 : Hid (∀ u k g, ItsAt u (some ⟨k, 0, none⟩) (Tr.sm g) → Calls Try.prog 9 #[.slice (some ⟨k, 0, none⟩) 5 5] u fun e w' => e = .returned (.tuple #[.int .i64 0, .int .i64 0]) ∧ Bw u w') := fun u k g h => by
    have := tcheck_any (some ⟨k, 0, none⟩) 5 (Tr.sm g) (show 5 ≤ _ by decide) (Nat.le_refl _) u h
    rw [Tr.its_sm, Tr.sm_chk] at this
    exact this
  have HC1 : Hid (∀ u k g, ItsAt u (some ⟨k, 0, none⟩) (Tr.sm g) → Calls Try.prog 9 #[.slice (some ⟨k, 6, none⟩) 4 4] u fun e w' => e = .returned (.tuple #[.int .i64 0, .int .i64 112]) ∧ Bw u w') := fun u k g h => by
    have := tcheck_any (some ⟨k, 6, none⟩) 4 ((Tr.sm g).drop 1) (show 4 ≤ _ by decide) (Nat.le_refl _) u (h.drop 1)
    rw [Tr.its_drop, Tr.its_sm, Tr.sm_chk1] at this
    exact this
  have HRe : Hid (∀ u k g, ItsAt u (some ⟨k, 0, none⟩) (Tr.sm g) → Calls Try.prog 15 #[.slice (some ⟨k, 0, none⟩) 5 5, .string ⟨#[108, 47, 115]⟩] u fun e w' => e = .returned (.tuple #[.string ⟨#[97, 47, 102]⟩, .int .i64 0]) ∧ Bw u w') := fun u k g h => by
    have := treal_any (some ⟨k, 0, none⟩) 5 (Tr.sm g) [108, 47, 115] (show 5 ≤ _ by decide) (Nat.le_refl _) (by decide) u h
    rw [Tr.its_sm, Tr.sm_real] at this
    exact this
  have HFi : Hid (∀ u k g, ItsAt u (some ⟨k, 0, none⟩) (Tr.sm g) → Calls Try.prog 10 #[.slice (some ⟨k, 0, none⟩) 5 5, .string ⟨#[97, 47, 104]⟩] u fun e w' => e = .returned (.tuple #[.int .i64 2, .int .i64 0]) ∧ Bw u w') := fun u k g h => by
    have := tfind_any (some ⟨k, 0, none⟩) 5 (Tr.sm g) [97, 47, 104] (show 5 ≤ _ by decide) u h
    rw [Tr.its_sm, Tr.sm_find] at this
    exact this
  have HBe : Hid (∀ u k g, ItsAt u (some ⟨k, 0, none⟩) (Tr.sm g) → Calls Try.prog 14 #[.slice (some ⟨k, 0, none⟩) 5 5, .string ⟨#[97]⟩] u fun e w' => (∃ A c, e = .returned (.slice A 3 c)) ∧ Bw u w') := fun u k g h => by
    refine (tbeneath_any (some ⟨k, 0, none⟩) 5 (Tr.sm g) [97] (show 5 * 80 ≤ _ by decide) (by decide) u h).mono fun e w' h2 => ⟨?_, h2.2⟩
    obtain ⟨v, M, e1, e2, e3⟩ := h2.1
    obtain ⟨A, c, hv, -, -, -, -⟩ := e3.its
    have hl : M.length = 3 := by rw [← Tr.its_len, e2, Tr.its_sm, Tr.sm_ben]
    exact ⟨A, c, by rw [e1, hv, hl]⟩
  have tok1 : Hid (w = w) := rfl
  go_enter Try.func7, Try.ntmps7
  go_wp2_with (first
    | (go_at_call 24; refine (small_any _).mono ?_; rintro e wS ⟨⟨kS, gS, rfl, hIS⟩, hwS⟩)
    | (go_at_call 9; clear tok1; refine (HC0.out _ kS gS hIS).mono ?_; rintro e wC ⟨rfl, hwC⟩)
    | (go_at_call 9; refine (HC1.out _ kS gS hIS).mono ?_; rintro e wD ⟨rfl, hwD⟩)
    | (go_at_call 15; refine (HRe.out _ kS gS hIS).mono ?_; rintro e wR ⟨rfl, hwR⟩)
    | (go_at_call 10; refine (HFi.out _ kS gS hIS).mono ?_; rintro e wF ⟨rfl, hwF⟩)
    | (go_at_call 14; refine (HBe.out _ kS gS hIS).mono ?_; rintro e wB ⟨⟨AB, cB, rfl⟩, hwB⟩))
  go_ret
  exact ⟨rfl, by repeat (first | assumption | (apply Bw.trans; assumption))⟩
end Go.Proofs.Ytjifdoneejofiab
