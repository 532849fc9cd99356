/- The program's own Check: what is wrong with a text, and where. -/
import Derived.Test.YtpkdnockbbppiaaND
namespace Go.Proofs.Ytpkdnockbbppiaa
open Go.RowKit Go.Deep Go.Shelf
set_option linter.unusedVariables false
set_option linter.unusedSimpArgs false
attribute [local go_sem] Oper.semAt_some

namespace Nm
theorem all_mem {l : B} {x : Nat × B} (h : x ∈ all l) : x.1 ≤ l.length ∧ x.2 ∈ pieces l := by
  obtain ⟨j, hj⟩ := List.getElem?_of_mem h
  unfold all at hj
  have hlt : j < (pieces l).length := by
    have := (List.getElem?_eq_some_iff.1 hj).1
    rwa [ats_length] at this
  rw [ats_get 0 _ j hlt, Option.some.injEq] at hj
  subst hj
  refine ⟨?_, List.getElem_mem hlt⟩
  show 0 + tot ((pieces l).take j) ≤ l.length
  have h1 := tot_append ((pieces l).take j) ((pieces l).drop j)
  rw [List.take_append_drop, tot_joined _ (pieces_ne l), joined_pieces] at h1
  have h2 : (pieces l).drop j ≠ [] := by simp; omega
  have h3 := tot_joined _ h2
  omega
/-- whether all of these are parts -/
def okP (pre : List (Nat × B)) : Prop := ∀ x ∈ pre, (partE x.2).2 = 0
theorem okP_snoc {pre : List (Nat × B)} {x : Nat × B} (h : okP pre) (hx : (partE x.2).2 = 0) : okP (pre ++ [x]) := by
  intro y hy
  rcases List.mem_append.1 hy with hy | hy
  · exact h y hy
  · rw [List.mem_singleton.1 hy]; exact hx
theorem chk_good {l : B} (h : okP (all l)) : chk 0 (pieces l) = (0, 0) := by
  refine chk_all 0 _ fun p hp => ?_
  obtain ⟨j, hj, rfl⟩ := List.getElem_of_mem hp
  have hg := ats_get 0 (pieces l) j hj
  exact h _ (List.mem_of_getElem? hg)
theorem chk_bad {l : B} {pre : List (Nat × B)} {x : Nat × B} (hp : pre ++ [x] <+: all l) (h : okP pre) (hx : (partE x.2).2 ≠ 0) : chk 0 (pieces l) = (((x.1 + (partE x.2).1 : Nat) : Int), (partE x.2).2) := by
  obtain ⟨t, ht⟩ := hp
  have hlen : pre.length < (pieces l).length := by
    have := congrArg List.length ht
    unfold all at this
    rw [ats_length] at this
    simp only [List.length_append, List.length_cons, List.length_nil] at this
    omega
  have hget : (all l)[pre.length]? = some x := by rw [← ht]; simp
  unfold all at hget
  rw [ats_get 0 _ _ hlen, Option.some.injEq] at hget
  have hat : ∀ i, i < (pieces l).length → i < pre.length → ∃ y ∈ pre, (pieces l)[i]? = some y.2 := by
    intro i hi hlt
    refine ⟨pre[i], List.getElem_mem hlt, ?_⟩
    have hg : (all l)[i]? = some pre[i] := by
      rw [← ht, List.append_assoc, List.getElem?_append_left hlt, List.getElem?_eq_getElem hlt]
    unfold all at hg
    rw [ats_get 0 _ _ hi, Option.some.injEq] at hg
    rw [← hg, List.getElem?_eq_getElem hi]
  subst hget
  have := chk_at 0 (pieces l) pre.length hlen (fun i hi hlt => by
    obtain ⟨y, hy, e⟩ := hat i hi hlt
    rw [List.getElem?_eq_getElem hi, Option.some.injEq] at e
    rw [e]
    exact h y hy) hx
  exact this
end Nm
set_option maxRecDepth 100000 in
set_option maxHeartbeats 2000000 in
theorem ncheck_short (s : ByteArray) (hs : s.size ≤ 400) (w : World) :
    CallsIn Fence.wide 10 Try.prog 9 #[.string s] w fun e w' => e = .returned (.tuple #[.int .i64 (Nm.chk 0 (Nm.pieces s.toList)).1, .int .i64 (Nm.chk 0 (Nm.pieces s.toList)).2]) ∧ Bw w w' := by
  have HSZ : Hid (s.toList.length = s.size) := Nm.size_toList s
  obtain ⟨rA, rE, hAE⟩ : ∃ a b, Hid (Nm.chk 0 (Nm.pieces s.toList) = (a, b)) := ⟨_, _, show Nm.chk 0 (Nm.pieces s.toList) = _ from rfl⟩
  rw [hAE.out]
  refine callsIn_of_wp_marks Try.func9 rfl trivial ?_ rfl
  simp only [Try.ntmps9, List.size_toArray, List.length_cons, List.length_nil, Nat.reduceAdd, Nat.reduceSub, Array.replicate_succ, Array.replicate_zero, List.push_toArray, List.append_toArray, List.nil_append, List.cons_append]
  gi_wp2_with (refine ⟨trivial, ?_⟩; gi_at_call 16; refine (callsIn_wide.2 (neach_any s _)).mono ?_; rintro e w2 ⟨rfl, hbx, hw2⟩)
  have c0 := new_cell8 w (.int .i64 0) 3
  have c1 := new_cell8 (w.alloc (.cells #[.int .i64 0] 3)) (.int .i64 0) 22
  rw [World.size_alloc] at c1
  rw [World.size_alloc, World.size_alloc] at hbx
  have z1 : w.heap.size + 2 < w2.heap.size := block_lt_of_cell hbx
  have HR0 : Hid (w2.cell? ⟨w.heap.size, 0, none⟩ = some (.int .i64 0)) := by
    show _ = _
    rw [hw2.cell (p := ⟨w.heap.size, 0, none⟩) (by simp; omega)]
    exact kept_cell8 _ c0.1
  have HF0 : Hid (w2.frozen? ⟨w.heap.size, 0, none⟩ = false) := by
    show _ = _
    rw [hw2.frozen (p := ⟨w.heap.size, 0, none⟩) (by simp; omega)]
    exact kept_froz8 _ c0.1 c0.2
  have HR1 : Hid (w2.cell? ⟨w.heap.size + 1, 0, none⟩ = some (.int .i64 0)) := by
    show _ = _
    rw [hw2.cell (p := ⟨w.heap.size + 1, 0, none⟩) (by simp)]
    exact c1.1
  have HF1 : Hid (w2.frozen? ⟨w.heap.size + 1, 0, none⟩ = false) := by
    show _ = _
    rw [hw2.frozen (p := ⟨w.heap.size + 1, 0, none⟩) (by simp)]
    exact c1.2
  have HB0 : Hid (Below w.heap.size w w2) := (((Below.refl _ w).alloc (Nat.le_refl _) _).alloc (by simp) _).trans (hw2.mono (by simp; omega))
  have hbx2 : Hid (w2.cell? ⟨w.heap.size + 2, 0, none⟩ = some (.string s)) := hbx
  clear hbx c0 c1 hw2
  refine' wpIn_rangeFunc_ownF rfl (by omega) (gf := 29) (lb := #[.pointer (some ⟨w.heap.size + 2, 0, none⟩)]) rfl trivial (enters_of Try.func29 (by kernel_rfl) rfl)
    (each_stopsX 9 (by omega) (w.heap.size + 2) w2.heap.size s (by omega) z1 w2 hbx2.out) belowK_t (belowK_b (by omega)) (Below.refl _ _) (fun _ => rfl)
    (fun pre W => Nm.okP (pre.map (fun x => x.1)) ∧ Below w2.heap.size w2 W)
    (fun c pre W => (c = .ret ∧ ∃ (ys : List (Px s.toList)) (x : Px s.toList), pre = ys ++ [x] ∧ Nm.okP (ys.map (fun x => x.1)) ∧ (Nm.partE x.1.2).2 ≠ 0 ∧ W.cell? ⟨w.heap.size, 0, none⟩ = some (.int .i64 ((x.1.1 + (Nm.partE x.1.2).1 : Nat) : Int)) ∧ W.cell? ⟨w.heap.size + 1, 0, none⟩ = some (.int .i64 (Nm.partE x.1.2).2)) ∧ Below w.heap.size w W)
    (OwnFrom.and (fun s A B row hs hg hr => hs) (ownFrom_below (Nat.le_refl _) (by omega)))
    (fun c => OwnFrom.and (Own.from (fun s A B row hs hg hr => ⟨hs.1, by
      obtain ⟨ys, x, h1, h2, h3, h4, h5⟩ := hs.2
      exact ⟨ys, x, h1, h2, h3, cell_kept h4 hg hr, cell_kept h5 hg hr⟩⟩) _) (ownFrom_below (Nat.le_refl _) (by omega)))
    ⟨fun x hx => (by simp at hx), Below.refl _ _⟩
    _ ?assign ?body ?done ?stop
  case assign =>
    intro l x W K hK
    unfold encP
    gi_wp2
    exact hK
  case body =>
    rintro l pre x W ⟨hok, hB⟩ hlt
    have q0 := HR0.out
    have q1 := HF0.out
    have q2 := HR1.out
    have q3 := HF1.out
    rw [← hB.cell (p := ⟨w.heap.size, 0, none⟩) (show w.heap.size < _ by omega)] at q0
    rw [← hB.frozen (p := ⟨w.heap.size, 0, none⟩) (show w.heap.size < _ by omega)] at q1
    rw [← hB.cell (p := ⟨w.heap.size + 1, 0, none⟩) (show w.heap.size + 1 < _ by omega)] at q2
    rw [← hB.frozen (p := ⟨w.heap.size + 1, 0, none⟩) (show w.heap.size + 1 < _ by omega)] at q3
    have hmem := Nm.all_mem x.2
    have hpl := piece_len hmem.2
    rw [HSZ.out] at hpl hmem
    have hbd := partE_bd (p := x.1.2) (by omega)
    obtain ⟨at_, hat⟩ : ∃ a, Hid (x.1.1 = a) := ⟨_, rfl⟩
    obtain ⟨P, hP⟩ : ∃ a, Hid (x.1.2 = a) := ⟨_, rfl⟩
    obtain ⟨i, er, hE⟩ : ∃ a b, Hid (Nm.partE x.1.2 = (a, b)) := ⟨_, _, show Nm.partE x.1.2 = _ from rfl⟩
    have hE2 : Hid (Nm.partE (Nm.S P).toList = (i, er)) := by show _ = _; rw [Nm.toList_S, ← hP.out]; exact hE.out
    rw [hE.out] at hbd
    dsimp only at hbd
    have hx1 := hmem.1
    rw [hat.out] at hx1
    rw [hat.out, hP.out]
    obtain ⟨b1, b2, b3⟩ := hbd
    clear hmem hpl
    have a0 : (0 : Int) ≤ (at_ : Int) := Int.natCast_nonneg _
    have i0 : (0 : Int) ≤ (i : Int) := Int.natCast_nonneg _
    show Code.wpIn _ _ _ _ _ _ _
    gi_wp2_with (refine ⟨trivial, ?_⟩; gi_at_call 23; refine (CallsIn.inRound l (callsIn_wide.2 (cpart_any (Nm.S P) _))).mono ?_; rintro e w3 ⟨rfl, hw3⟩; subst w3; rw [hE2.out])
    · rename_i hne
      have hne2 : er ≠ 0 := by simpa using hne
      refine ⟨(KeepsOthers.setCell _ _ _).trans (KeepsOthers.setCell _ _ _), ⟨rfl, pre, x, rfl, hok, ?_, ?_, ?_⟩, ?_⟩
      · rw [hE.out]; exact hne2
      · rw [World.cell?_setCell_other _ _ _ _ (by simp), World.cell?_setCell_same' _ _ _ (by rw [q0]; rfl), hE.out, hat.out]
        simp
      · rw [World.cell?_setCell_same' _ _ _ (by rw [World.cell?_setCell_other _ _ _ _ (by simp), q2]; rfl), hE.out]
      · exact ((HB0.out.trans (hB.mono (by omega))).setCell (p := ⟨w.heap.size, 0, none⟩) (Nat.le_refl _) _).setCell (p := ⟨w.heap.size + 1, 0, none⟩) (by simp) _
    · rename_i hne
      refine ⟨KeepsOthers.refl _, Below.refl _ _, ?_, hB⟩
      rw [List.map_append]
      refine Nm.okP_snoc hok ?_
      rw [hE.out]
      simpa using hne
  case done =>
    rintro D ys W hD hys ⟨hok, hB⟩ hK
    rw [hys] at hok
    have hch := hAE.out.symm.trans (Nm.chk_good hok)
    simp only [Prod.mk.injEq] at hch
    obtain ⟨rfl, rfl⟩ := hch
    have q0 := HR0.out
    have q1 := HF0.out
    have q2 := HR1.out
    have q3 := HF1.out
    rw [← hB.cell (p := ⟨w.heap.size, 0, none⟩) (show w.heap.size < _ by omega)] at q0
    rw [← hB.frozen (p := ⟨w.heap.size, 0, none⟩) (show w.heap.size < _ by omega)] at q1
    rw [← hB.cell (p := ⟨w.heap.size + 1, 0, none⟩) (show w.heap.size + 1 < _ by omega)] at q2
    rw [← hB.frozen (p := ⟨w.heap.size + 1, 0, none⟩) (show w.heap.size + 1 < _ by omega)] at q3
    obtain ⟨V, hV⟩ : ∃ V, Hid (V = (W.setCell ⟨w.heap.size, 0, none⟩ (.int .i64 0)).setCell ⟨w.heap.size + 1, 0, none⟩ (.int .i64 0)) := ⟨_, rfl⟩
    have r0 : V.cell? ⟨w.heap.size, 0, none⟩ = some (.int .i64 0) := by
      rw [hV.out, World.cell?_setCell_other _ _ _ _ (by simp), World.cell?_setCell_same' _ _ _ (by rw [q0]; rfl)]
    have r1 : V.cell? ⟨w.heap.size + 1, 0, none⟩ = some (.int .i64 0) := by
      rw [hV.out, World.cell?_setCell_same' _ _ _ (by rw [World.cell?_setCell_other _ _ _ _ (by simp), q2]; rfl)]
    have hVB : Below w.heap.size w V := by
      rw [hV.out]
      exact ((HB0.out.trans (hB.mono (by omega))).setCell (p := ⟨w.heap.size, 0, none⟩) (Nat.le_refl _) _).setCell (p := ⟨w.heap.size + 1, 0, none⟩) (by simp) _
    have hVD : V.heap[D]? = some (.deferred (some [])) := by
      rw [hV.out]
      exact (Below.heap_setCell _ ⟨w.heap.size + 1, 0, none⟩ _ D (by show D ≠ w.heap.size + 1; omega)).trans ((Below.heap_setCell W ⟨w.heap.size, 0, none⟩ _ D (by show D ≠ w.heap.size; omega)).trans hK)
    gi_wp2
    rw [← hV.out]
    have r2 := cell_kept r0 (grownBy_putObj' _ D (.deferred none)) (fun r e => by cases e; exact ⟨_, hVD, rfl⟩)
    have r3 := cell_kept r1 (grownBy_putObj' _ D (.deferred none)) (fun r e => by cases e; exact ⟨_, hVD, rfl⟩)
    refine ⟨by simp, .inl ⟨_, _, rfl, run_takeDeferred hVD, ?_⟩⟩
    refine ⟨.tuple #[.int .i64 0, .int .i64 0], ?_, rfl, hVB.trans (belowK_b (w := w) (Nat.le_refl _) _ D _ (.deferred none) (by omega) hVD rfl rfl)⟩
    simp [results, Try.f9, go_sem, r2, r3]
  case stop =>
    rintro D c pre W hD hpre ⟨⟨rfl, ys, x, rfl, hok, hne, h0, h1⟩, hB⟩ hK
    rw [List.map_append] at hpre
    have hch := hAE.out.symm.trans (Nm.chk_bad hpre hok hne)
    simp only [Prod.mk.injEq] at hch
    rw [← hch.1] at h0
    rw [← hch.2] at h1
    clear hch
    gi_wp2
    have r2 := cell_kept h0 (grownBy_putObj' _ D (.deferred none)) (fun r e => by cases e; exact ⟨_, hK, rfl⟩)
    have r3 := cell_kept h1 (grownBy_putObj' _ D (.deferred none)) (fun r e => by cases e; exact ⟨_, hK, rfl⟩)
    refine ⟨by simp, .inl ⟨_, _, rfl, run_takeDeferred hK, ?_⟩⟩
    refine ⟨.tuple #[.int .i64 rA, .int .i64 rE], ?_, rfl, hB.trans (belowK_b (w := w) (Nat.le_refl _) _ D _ (.deferred none) (by omega) hK rfl rfl)⟩
    simp [results, Try.f9, go_sem, r2, r3]
set_option maxRecDepth 100000 in
set_option maxHeartbeats 2000000 in
theorem ncheck_long (s : ByteArray) (hs : 400 < s.size) (w : World) :
    Calls Try.prog 9 #[.string s] w fun e w' => e = .returned (.tuple #[.int .i64 0, .int .i64 2]) ∧ Bw w w' := by
  have t1 : (400 : Int) < (s.size : Int) := by omega
  go_enter Try.func9, Try.ntmps9
  go_wp2
  refine bodyPost_ret (v := .tuple #[.int .i64 0, .int .i64 2]) (by simp [results, Try.f9, go_sem]) rfl ?_
  exact ⟨rfl, ((Below.refl _ w).alloc (Nat.le_refl _) _).alloc (by simp) _⟩
theorem ncheck_any (s : ByteArray) (hs : s.size ≤ 4611686018427387904) (w : World) :
    Calls Try.prog 9 #[.string s] w fun e w' => e = .returned (.tuple #[.int .i64 (Nm.check s.toList).1, .int .i64 (Nm.check s.toList).2]) ∧ Bw w w' := by
  unfold Nm.check
  rw [Nm.size_toList]
  by_cases h : 400 < s.size
  · rw [if_pos h]; exact ncheck_long s h w
  · rw [if_neg h]; exact (callsIn_wide (n := 10)).1 (ncheck_short s (by omega) w)
end Go.Proofs.Ytpkdnockbbppiaa
