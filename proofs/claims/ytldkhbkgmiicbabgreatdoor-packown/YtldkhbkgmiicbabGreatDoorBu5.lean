/- Texts of mine, put together. -/
import Derived.Test.YtldkhbkgmiicbabGreatDoorBu4

/- The program's own Check: what is wrong with a text, and where. -/
namespace Go.Proofs.YtldkhbkgmiicbabGreatDoor
open Go.RowKit Go.Deep Go.Shelf
set_option linter.unusedVariables false
set_option linter.unusedSimpArgs false
attribute [local go_sem] Oper.semAt_some

namespace Nm
theorem all_mem {l : B} {x : Nat × B} (h : x ∈ all l) : x.1 ≤ l.length ∧ x.2 ∈ pieces l := by
  obtain ⟨j, hj⟩ := List.getElem?_of_mem h
  unfold all at hj
  have hlt : j < (pieces l).length := by
    have := (List.getElem?_eq_some_iff.1 hj).1
    rwa [ats_length] at this
  rw [ats_get 0 _ j hlt, Option.some.injEq] at hj
  subst hj
  refine ⟨?_, List.getElem_mem hlt⟩
  show 0 + tot ((pieces l).take j) ≤ l.length
  have h1 := tot_append ((pieces l).take j) ((pieces l).drop j)
  rw [List.take_append_drop, tot_joined _ (pieces_ne l), joined_pieces] at h1
  have h2 : (pieces l).drop j ≠ [] := by simp; omega
  have h3 := tot_joined _ h2
  omega
/-- whether all of these are parts -/
def okP (pre : List (Nat × B)) : Prop := ∀ x ∈ pre, (partE x.2).2 = 0
theorem okP_snoc {pre : List (Nat × B)} {x : Nat × B} (h : okP pre) (hx : (partE x.2).2 = 0) : okP (pre ++ [x]) := by
  intro y hy
  rcases List.mem_append.1 hy with hy | hy
  · exact h y hy
  · rw [List.mem_singleton.1 hy]; exact hx
theorem chk_good {l : B} (h : okP (all l)) : chk 0 (pieces l) = (0, 0) := by
  refine chk_all 0 _ fun p hp => ?_
  obtain ⟨j, hj, rfl⟩ := List.getElem_of_mem hp
  have hg := ats_get 0 (pieces l) j hj
  exact h _ (List.mem_of_getElem? hg)
theorem chk_bad {l : B} {pre : List (Nat × B)} {x : Nat × B} (hp : pre ++ [x] <+: all l) (h : okP pre) (hx : (partE x.2).2 ≠ 0) : chk 0 (pieces l) = (((x.1 + (partE x.2).1 : Nat) : Int), (partE x.2).2) := by
  obtain ⟨t, ht⟩ := hp
  have hlen : pre.length < (pieces l).length := by
    have := congrArg List.length ht
    unfold all at this
    rw [ats_length] at this
    simp only [List.length_append, List.length_cons, List.length_nil] at this
    omega
  have hget : (all l)[pre.length]? = some x := by rw [← ht]; simp
  unfold all at hget
  rw [ats_get 0 _ _ hlen, Option.some.injEq] at hget
  have hat : ∀ i, i < (pieces l).length → i < pre.length → ∃ y ∈ pre, (pieces l)[i]? = some y.2 := by
    intro i hi hlt
    refine ⟨pre[i], List.getElem_mem hlt, ?_⟩
    have hg : (all l)[i]? = some pre[i] := by
      rw [← ht, List.append_assoc, List.getElem?_append_left hlt, List.getElem?_eq_getElem hlt]
    unfold all at hg
    rw [ats_get 0 _ _ hi, Option.some.injEq] at hg
    rw [← hg, List.getElem?_eq_getElem hi]
  subst hget
  have := chk_at 0 (pieces l) pre.length hlen (fun i hi hlt => by
    obtain ⟨y, hy, e⟩ := hat i hi hlt
    rw [List.getElem?_eq_getElem hi, Option.some.injEq] at e
    rw [e]
    exact h y hy) hx
  exact this
end Nm
set_option maxRecDepth 100000 in
set_option maxHeartbeats 2000000 in
theorem ncheck_short (s : ByteArray) (hs : s.size ≤ 400) (w : World) :
    CallsIn Fence.wide 10 Tryz.prog 35 #[.string s] w fun e w' => e = .returned (.tuple #[.int .i64 (Nm.chk 0 (Nm.pieces s.toList)).1, .int .i64 (Nm.chk 0 (Nm.pieces s.toList)).2]) ∧ Bw w w' := by
  have HSZ : Hid (s.toList.length = s.size) := Nm.size_toList s
  obtain ⟨rA, rE, hAE⟩ : ∃ a b, Hid (Nm.chk 0 (Nm.pieces s.toList) = (a, b)) := ⟨_, _, show Nm.chk 0 (Nm.pieces s.toList) = _ from rfl⟩
  rw [hAE.out]
  refine callsIn_of_wp_marks Tryz.func35 rfl trivial ?_ rfl
  simp only [Tryz.ntmps35, List.size_toArray, List.length_cons, List.length_nil, Nat.reduceAdd, Nat.reduceSub, Array.replicate_succ, Array.replicate_zero, List.push_toArray, List.append_toArray, List.nil_append, List.cons_append]
  gi_wp2_with (refine ⟨trivial, ?_⟩; gi_at_call 48; refine (callsIn_wide.2 (neach_any s _)).mono ?_; rintro e w2 ⟨rfl, hbx, hw2⟩)
  have c0 := new_cell8 w (.int .i64 0) 3
  have c1 := new_cell8 (w.alloc (.cells #[.int .i64 0] 3)) (.int .i64 0) 29
  rw [World.size_alloc] at c1
  rw [World.size_alloc, World.size_alloc] at hbx
  have z1 : w.heap.size + 2 < w2.heap.size := block_lt_of_cell hbx
  have HR0 : Hid (w2.cell? ⟨w.heap.size, 0, none⟩ = some (.int .i64 0)) := by
    show _ = _
    rw [hw2.cell (p := ⟨w.heap.size, 0, none⟩) (by simp; omega)]
    exact kept_cell8 _ c0.1
  have HF0 : Hid (w2.frozen? ⟨w.heap.size, 0, none⟩ = false) := by
    show _ = _
    rw [hw2.frozen (p := ⟨w.heap.size, 0, none⟩) (by simp; omega)]
    exact kept_froz8 _ c0.1 c0.2
  have HR1 : Hid (w2.cell? ⟨w.heap.size + 1, 0, none⟩ = some (.int .i64 0)) := by
    show _ = _
    rw [hw2.cell (p := ⟨w.heap.size + 1, 0, none⟩) (by simp)]
    exact c1.1
  have HF1 : Hid (w2.frozen? ⟨w.heap.size + 1, 0, none⟩ = false) := by
    show _ = _
    rw [hw2.frozen (p := ⟨w.heap.size + 1, 0, none⟩) (by simp)]
    exact c1.2
  have HB0 : Hid (Below w.heap.size w w2) := (((Below.refl _ w).alloc (Nat.le_refl _) _).alloc (by simp) _).trans (hw2.mono (by simp; omega))
  have hbx2 : Hid (w2.cell? ⟨w.heap.size + 2, 0, none⟩ = some (.string s)) := hbx
  clear hbx c0 c1 hw2
  refine' wpIn_rangeFunc_ownF rfl (by omega) (gf := 65) (lb := #[.pointer (some ⟨w.heap.size + 2, 0, none⟩)]) rfl trivial (enters_of Tryz.func65 (by kernel_rfl) rfl)
    (each_stopsX 9 (by omega) (w.heap.size + 2) w2.heap.size s (by omega) z1 w2 hbx2.out) belowK_t (belowK_b (by omega)) (Below.refl _ _) (fun _ => rfl)
    (fun pre W => Nm.okP (pre.map (fun x => x.1)) ∧ Below w2.heap.size w2 W)
    (fun c pre W => (c = .ret ∧ ∃ (ys : List (Px s.toList)) (x : Px s.toList), pre = ys ++ [x] ∧ Nm.okP (ys.map (fun x => x.1)) ∧ (Nm.partE x.1.2).2 ≠ 0 ∧ W.cell? ⟨w.heap.size, 0, none⟩ = some (.int .i64 ((x.1.1 + (Nm.partE x.1.2).1 : Nat) : Int)) ∧ W.cell? ⟨w.heap.size + 1, 0, none⟩ = some (.int .i64 (Nm.partE x.1.2).2)) ∧ Below w.heap.size w W)
    (OwnFrom.and (fun s A B row hs hg hr => hs) (ownFrom_below (Nat.le_refl _) (by omega)))
    (fun c => OwnFrom.and (Own.from (fun s A B row hs hg hr => ⟨hs.1, by
      obtain ⟨ys, x, h1, h2, h3, h4, h5⟩ := hs.2
      exact ⟨ys, x, h1, h2, h3, cell_kept h4 hg hr, cell_kept h5 hg hr⟩⟩) _) (ownFrom_below (Nat.le_refl _) (by omega)))
    ⟨fun x hx => (by simp at hx), Below.refl _ _⟩
    _ ?assign ?body ?done ?stop
  case assign =>
    intro l x W K hK
    unfold encP
    gi_wp2
    exact hK
  case body =>
    rintro l pre x W ⟨hok, hB⟩ hlt
    have q0 := HR0.out
    have q1 := HF0.out
    have q2 := HR1.out
    have q3 := HF1.out
    rw [← hB.cell (p := ⟨w.heap.size, 0, none⟩) (show w.heap.size < _ by omega)] at q0
    rw [← hB.frozen (p := ⟨w.heap.size, 0, none⟩) (show w.heap.size < _ by omega)] at q1
    rw [← hB.cell (p := ⟨w.heap.size + 1, 0, none⟩) (show w.heap.size + 1 < _ by omega)] at q2
    rw [← hB.frozen (p := ⟨w.heap.size + 1, 0, none⟩) (show w.heap.size + 1 < _ by omega)] at q3
    have hmem := Nm.all_mem x.2
    have hpl := piece_len hmem.2
    rw [HSZ.out] at hpl hmem
    have hbd := partE_bd (p := x.1.2) (by omega)
    obtain ⟨at_, hat⟩ : ∃ a, Hid (x.1.1 = a) := ⟨_, rfl⟩
    obtain ⟨P, hP⟩ : ∃ a, Hid (x.1.2 = a) := ⟨_, rfl⟩
    obtain ⟨i, er, hE⟩ : ∃ a b, Hid (Nm.partE x.1.2 = (a, b)) := ⟨_, _, show Nm.partE x.1.2 = _ from rfl⟩
    have hE2 : Hid (Nm.partE (Nm.S P).toList = (i, er)) := by show _ = _; rw [Nm.toList_S, ← hP.out]; exact hE.out
    rw [hE.out] at hbd
    dsimp only at hbd
    have hx1 := hmem.1
    rw [hat.out] at hx1
    rw [hat.out, hP.out]
    obtain ⟨b1, b2, b3⟩ := hbd
    clear hmem hpl
    have a0 : (0 : Int) ≤ (at_ : Int) := Int.natCast_nonneg _
    have i0 : (0 : Int) ≤ (i : Int) := Int.natCast_nonneg _
    show Code.wpIn _ _ _ _ _ _ _
    gi_wp2_with (refine ⟨trivial, ?_⟩; gi_at_call 49; refine (CallsIn.inRound l (callsIn_wide.2 (cpart_any (Nm.S P) _))).mono ?_; rintro e w3 ⟨rfl, hw3⟩; subst w3; rw [hE2.out])
    · rename_i hne
      have hne2 : er ≠ 0 := by simpa using hne
      refine ⟨(KeepsOthers.setCell _ _ _).trans (KeepsOthers.setCell _ _ _), ⟨rfl, pre, x, rfl, hok, ?_, ?_, ?_⟩, ?_⟩
      · rw [hE.out]; exact hne2
      · rw [World.cell?_setCell_other _ _ _ _ (by simp), World.cell?_setCell_same' _ _ _ (by rw [q0]; rfl), hE.out, hat.out]
        simp
      · rw [World.cell?_setCell_same' _ _ _ (by rw [World.cell?_setCell_other _ _ _ _ (by simp), q2]; rfl), hE.out]
      · exact ((HB0.out.trans (hB.mono (by omega))).setCell (p := ⟨w.heap.size, 0, none⟩) (Nat.le_refl _) _).setCell (p := ⟨w.heap.size + 1, 0, none⟩) (by simp) _
    · rename_i hne
      refine ⟨KeepsOthers.refl _, Below.refl _ _, ?_, hB⟩
      rw [List.map_append]
      refine Nm.okP_snoc hok ?_
      rw [hE.out]
      simpa using hne
  case done =>
    rintro D ys W hD hys ⟨hok, hB⟩ hK
    rw [hys] at hok
    have hch := hAE.out.symm.trans (Nm.chk_good hok)
    simp only [Prod.mk.injEq] at hch
    obtain ⟨rfl, rfl⟩ := hch
    have q0 := HR0.out
    have q1 := HF0.out
    have q2 := HR1.out
    have q3 := HF1.out
    rw [← hB.cell (p := ⟨w.heap.size, 0, none⟩) (show w.heap.size < _ by omega)] at q0
    rw [← hB.frozen (p := ⟨w.heap.size, 0, none⟩) (show w.heap.size < _ by omega)] at q1
    rw [← hB.cell (p := ⟨w.heap.size + 1, 0, none⟩) (show w.heap.size + 1 < _ by omega)] at q2
    rw [← hB.frozen (p := ⟨w.heap.size + 1, 0, none⟩) (show w.heap.size + 1 < _ by omega)] at q3
    obtain ⟨V, hV⟩ : ∃ V, Hid (V = (W.setCell ⟨w.heap.size, 0, none⟩ (.int .i64 0)).setCell ⟨w.heap.size + 1, 0, none⟩ (.int .i64 0)) := ⟨_, rfl⟩
    have r0 : V.cell? ⟨w.heap.size, 0, none⟩ = some (.int .i64 0) := by
      rw [hV.out, World.cell?_setCell_other _ _ _ _ (by simp), World.cell?_setCell_same' _ _ _ (by rw [q0]; rfl)]
    have r1 : V.cell? ⟨w.heap.size + 1, 0, none⟩ = some (.int .i64 0) := by
      rw [hV.out, World.cell?_setCell_same' _ _ _ (by rw [World.cell?_setCell_other _ _ _ _ (by simp), q2]; rfl)]
    have hVB : Below w.heap.size w V := by
      rw [hV.out]
      exact ((HB0.out.trans (hB.mono (by omega))).setCell (p := ⟨w.heap.size, 0, none⟩) (Nat.le_refl _) _).setCell (p := ⟨w.heap.size + 1, 0, none⟩) (by simp) _
    have hVD : V.heap[D]? = some (.deferred (some [])) := by
      rw [hV.out]
      exact (Below.heap_setCell _ ⟨w.heap.size + 1, 0, none⟩ _ D (by show D ≠ w.heap.size + 1; omega)).trans ((Below.heap_setCell W ⟨w.heap.size, 0, none⟩ _ D (by show D ≠ w.heap.size; omega)).trans hK)
    gi_wp2
    rw [← hV.out]
    have r2 := cell_kept r0 (grownBy_putObj' _ D (.deferred none)) (fun r e => by cases e; exact ⟨_, hVD, rfl⟩)
    have r3 := cell_kept r1 (grownBy_putObj' _ D (.deferred none)) (fun r e => by cases e; exact ⟨_, hVD, rfl⟩)
    refine ⟨by simp, .inl ⟨_, _, rfl, run_takeDeferred hVD, ?_⟩⟩
    refine ⟨.tuple #[.int .i64 0, .int .i64 0], ?_, rfl, hVB.trans (belowK_b (w := w) (Nat.le_refl _) _ D _ (.deferred none) (by omega) hVD rfl rfl)⟩
    simp [results, Tryz.f35, go_sem, r2, r3]
  case stop =>
    rintro D c pre W hD hpre ⟨⟨rfl, ys, x, rfl, hok, hne, h0, h1⟩, hB⟩ hK
    rw [List.map_append] at hpre
    have hch := hAE.out.symm.trans (Nm.chk_bad hpre hok hne)
    simp only [Prod.mk.injEq] at hch
    rw [← hch.1] at h0
    rw [← hch.2] at h1
    clear hch
    gi_wp2
    have r2 := cell_kept h0 (grownBy_putObj' _ D (.deferred none)) (fun r e => by cases e; exact ⟨_, hK, rfl⟩)
    have r3 := cell_kept h1 (grownBy_putObj' _ D (.deferred none)) (fun r e => by cases e; exact ⟨_, hK, rfl⟩)
    refine ⟨by simp, .inl ⟨_, _, rfl, run_takeDeferred hK, ?_⟩⟩
    refine ⟨.tuple #[.int .i64 rA, .int .i64 rE], ?_, rfl, hB.trans (belowK_b (w := w) (Nat.le_refl _) _ D _ (.deferred none) (by omega) hK rfl rfl)⟩
    simp [results, Tryz.f35, go_sem, r2, r3]
set_option maxRecDepth 100000 in
set_option maxHeartbeats 2000000 in
theorem ncheck_long (s : ByteArray) (hs : 400 < s.size) (w : World) :
    Calls Tryz.prog 35 #[.string s] w fun e w' => e = .returned (.tuple #[.int .i64 0, .int .i64 2]) ∧ Bw w w' := by
  have t1 : (400 : Int) < (s.size : Int) := by omega
  go_enter Tryz.func35, Tryz.ntmps35
  go_wp2
  refine bodyPost_ret (v := .tuple #[.int .i64 0, .int .i64 2]) (by simp [results, Tryz.f35, go_sem]) rfl ?_
  exact ⟨rfl, ((Below.refl _ w).alloc (Nat.le_refl _) _).alloc (by simp) _⟩
theorem ncheck_any (s : ByteArray) (hs : s.size ≤ 4611686018427387904) (w : World) :
    Calls Tryz.prog 35 #[.string s] w fun e w' => e = .returned (.tuple #[.int .i64 (Nm.check s.toList).1, .int .i64 (Nm.check s.toList).2]) ∧ Bw w w' := by
  unfold Nm.check
  rw [Nm.size_toList]
  by_cases h : 400 < s.size
  · rw [if_pos h]; exact ncheck_long s h w
  · rw [if_neg h]; exact (callsIn_wide (n := 10)).1 (ncheck_short s (by omega) w)
end Go.Proofs.YtldkhbkgmiicbabGreatDoor

/- The program's own Compare: the order of two texts. -/
namespace Go.Proofs.YtldkhbkgmiicbabGreatDoor
open Go.RowKit Go.Deep Go.Shelf
set_option linter.unusedVariables false
set_option linter.unusedSimpArgs false
attribute [local go_sem] Oper.semAt_some

namespace Nm
/-- these pieces stand at these places of a text, too -/
def sameP (b : B) (pre : List (Nat × B)) : Prop := ∀ x ∈ pre, x.1 ≤ b.length ∧ cmpS x.2 (fst (b.drop x.1)) = 0
theorem sameP_snoc {b : B} {pre : List (Nat × B)} {x : Nat × B} (h : sameP b pre) (h1 : x.1 ≤ b.length) (h2 : cmpS x.2 (fst (b.drop x.1)) = 0) : sameP b (pre ++ [x]) := by
  intro y hy
  rcases List.mem_append.1 hy with hy | hy
  · exact h y hy
  · rw [List.mem_singleton.1 hy]; exact ⟨h1, h2⟩
theorem cmpS_eq {a b : B} (h : cmpS a b = 0) : a = b := by
  unfold cmpS at h
  cases h1 : less a b with
  | true => rw [h1] at h; simp at h
  | false =>
    cases h2 : less b a with
    | true => rw [h1, h2] at h; simp at h
    | false => exact less_tot _ _ h1 h2
theorem pre_get {l : B} {pre : List (Nat × B)} (hp : pre <+: all l) (i : Nat) (hi : i < pre.length) : ∃ h : i < (pieces l).length, pre[i] = (tot ((pieces l).take i), (pieces l)[i]) := by
  obtain ⟨t, ht⟩ := hp
  have hlen : i < (pieces l).length := by
    have := congrArg List.length ht
    unfold all at this
    rw [ats_length, List.length_append] at this
    omega
  refine ⟨hlen, ?_⟩
  have hg : (all l)[i]? = some pre[i] := by rw [← ht, List.getElem?_append_left hi, List.getElem?_eq_getElem hi]
  unfold all at hg
  rw [ats_get 0 _ _ hlen, Option.some.injEq, Nat.zero_add] at hg
  exact hg.symm
theorem along {a b : B} {pre : List (Nat × B)} (hp : pre <+: all a) (h : sameP b pre) : ∀ k, k ≤ pre.length →
    (tot ((pieces a).take k) ≤ b.length ∧ Past b (tot ((pieces a).take k)) ((pieces a).take k)) ∨ (tot ((pieces a).take k) = b.length + 1 ∧ pieces b = (pieces a).take k)
  | 0, _ => .inl ⟨Nat.zero_le _, past_start b⟩
  | k + 1, hk => by
    have hlt : k < pre.length := by omega
    obtain ⟨hl, hg⟩ := pre_get hp k hlt
    obtain ⟨h1, h2⟩ := h _ (List.getElem_mem hlt)
    rw [hg] at h1 h2
    have h3 := cmpS_eq h2
    dsimp only at h1 h3
    have et : (pieces a).take (k + 1) = (pieces a).take k ++ [(pieces a)[k]] := by rw [List.take_add_one, List.getElem?_eq_getElem hl]; rfl
    have ett : tot ((pieces a).take (k + 1)) = tot ((pieces a).take k) + ((pieces a)[k].length + 1) := by rw [et, tot_append]; rfl
    rcases along hp h k (by omega) with ⟨h4, h5⟩ | ⟨h4, _⟩
    · by_cases hm : (47 : UInt8) ∈ b.drop (tot ((pieces a).take k))
      · have := past_next h5 hm
        rw [← h3, ← et, ← ett] at this
        exact .inl ⟨this.1, this⟩
      · have := past_end h5 hm
        rw [← h3, ← et] at this
        refine .inr ⟨?_, this⟩
        rw [← this, tot_joined _ (pieces_ne b), joined_pieces]
    · omega
theorem cmp_done {a b : B} (h : sameP b (all a)) : cmp a b = Lib.compareInt (a.length : Int) (b.length : Int) := by
  have hl : (all a).length = (pieces a).length := ats_length _ _
  have ht : tot (pieces a) = a.length + 1 := by rw [tot_joined _ (pieces_ne a), joined_pieces]
  have := along (List.prefix_refl _) h (pieces a).length (by omega)
  rw [List.take_length, ht] at this
  unfold cmp Lib.compareInt
  rcases this with ⟨h1, h2⟩ | ⟨h1, h2⟩
  · have h3 := h2.2.2
    have h4 : (pieces a).length < (pieces b).length := by
      rw [h3, List.length_append]
      have := List.length_pos_iff.2 (pieces_ne (b.drop (a.length + 1)))
      omega
    rw [cmpP_end _ _ (fun i h1 h2 => by
      have e : (pieces b)[i]? = (pieces a)[i]? := by rw [h3, List.getElem?_append_left h1]
      rw [List.getElem?_eq_getElem h1, List.getElem?_eq_getElem h2, Option.some.injEq] at e
      exact e.symm), if_pos h4, if_pos (by omega)]
  · have e : a = b := pieces_inj h2.symm
    subst e
    rw [cmpP_end _ _ (fun i h1 h2 => rfl), if_neg (by omega), if_neg (by omega), if_neg (by omega), if_neg (by omega)]
theorem cmp_stop {a b : B} {pre : List (Nat × B)} {x : Nat × B} (hp : pre ++ [x] <+: all a) (h : sameP b pre) :
    (b.length < x.1 → cmp a b = 1) ∧ (x.1 ≤ b.length → cmpS x.2 (fst (b.drop x.1)) ≠ 0 → cmp a b = cmpS x.2 (fst (b.drop x.1))) := by
  have hp2 : pre <+: all a := (List.prefix_append _ _).trans hp
  have hal := along hp2 h pre.length (Nat.le_refl _)
  obtain ⟨hl, hg⟩ := pre_get hp pre.length (by simp)
  simp only [List.getElem_concat_length] at hg
  subst hg
  dsimp only
  unfold cmp
  constructor
  · intro hlt
    rcases hal with ⟨h1, _⟩ | ⟨h1, h2⟩
    · omega
    · have h4 : (pieces b).length = pre.length := by rw [h2, List.length_take]; omega
      rw [cmpP_end _ _ (fun i h1 h3 => by
        have e : (pieces b)[i]? = (pieces a)[i]? := by rw [h2, List.getElem?_take, if_pos (by omega)]
        rw [List.getElem?_eq_getElem h1, List.getElem?_eq_getElem h3, Option.some.injEq] at e
        exact e.symm), if_neg (by omega), if_pos (by omega)]
  · intro hle hne
    rcases hal with ⟨h1, h2⟩ | ⟨h1, h2⟩
    · obtain ⟨r, hr⟩ := pieces_head (b.drop (tot ((pieces a).take pre.length)))
      have h3 := h2.2.2
      rw [hr] at h3
      have hlt : ((pieces a).take pre.length).length = pre.length := by rw [List.length_take]; omega
      have h5 : pre.length < (pieces b).length := by rw [h3, List.length_append, hlt, List.length_cons]; omega
      have h6 : (pieces b)[pre.length] = fst (b.drop (tot ((pieces a).take pre.length))) := by
        have e : (pieces b)[pre.length]? = some (fst (b.drop (tot ((pieces a).take pre.length)))) := by
          rw [h3, List.getElem?_append_right (by omega), hlt, Nat.sub_self]; rfl
        rw [List.getElem?_eq_getElem h5, Option.some.injEq] at e
        exact e
      have hsame : ∀ i (h1 : i < (pieces a).length) (h2 : i < (pieces b).length), i < pre.length → (pieces a)[i] = (pieces b)[i] := fun i q1 q2 q3 => by
        have e : (pieces b)[i]? = (pieces a)[i]? := by rw [h3, List.getElem?_append_left (by omega), List.getElem?_take, if_pos q3]
        rw [List.getElem?_eq_getElem q1, List.getElem?_eq_getElem q2, Option.some.injEq] at e
        exact e.symm
      rw [← h6] at hne ⊢
      unfold cmpS at hne ⊢
      cases g1 : less (pieces a)[pre.length] (pieces b)[pre.length] with
      | true => rw [cmpP_less _ _ _ hl h5 hsame g1]; rfl
      | false =>
        cases g2 : less (pieces b)[pre.length] (pieces a)[pre.length] with
        | true => rw [cmpP_more _ _ _ hl h5 hsame g2]; rfl
        | false => rw [g1, g2] at hne; exact absurd rfl hne
    · omega
end Nm
theorem lx_cmpint (x y : Int) (w : World) : Calls Tryz.prog 56 #[.int .i64 x, .int .i64 y] w fun e w' => e = .returned (.int .i64 (Lib.compareInt x y)) ∧ w' = w := Any.cmp_Compare_int sx122 x y w
theorem keeps_drewN8 (W : World) : ∀ n, KeepsOthers W (W.drewN n)
  | 0 => KeepsOthers.refl W
  | n + 1 => (keeps_drewN8 W n).trans (KeepsOthers.drew _)
theorem below_drewN8 {n₀ : Nat} {w w' : World} (h : Below n₀ w w') : ∀ n, Below n₀ w (w'.drewN n)
  | 0 => h
  | n + 1 => (below_drewN8 h n).drew
theorem frozen_drewN8 (w : World) (n : Nat) (a : Addr) : (w.drewN n).frozen? a = w.frozen? a := by
  induction n with
  | zero => rfl
  | succ n ih => exact ih
set_option maxRecDepth 100000 in
set_option maxHeartbeats 2000000 in
theorem ncompare_in (s t : ByteArray) (hs : s.size ≤ 4611686018427387904) (ht : t.size ≤ 4611686018427387904) (w : World) :
    CallsIn Fence.wide 10 Tryz.prog 40 #[.string s, .string t] w fun e w' => e = .returned (.int .i64 (Nm.cmp s.toList t.toList)) ∧ Bw w w' := by
  have HSZ : Hid (s.toList.length = s.size) := Nm.size_toList s
  have HTZ : Hid (t.toList.length = t.size) := Nm.size_toList t
  obtain ⟨rA, hA⟩ : ∃ a, Hid (Nm.cmp s.toList t.toList = a) := ⟨_, rfl⟩
  rw [hA.out]
  refine callsIn_of_wp_marks Tryz.func40 rfl trivial ?_ rfl
  simp only [Tryz.ntmps40, List.size_toArray, List.length_cons, List.length_nil, Nat.reduceAdd, Nat.reduceSub, Array.replicate_succ, Array.replicate_zero, List.push_toArray, List.append_toArray, List.nil_append, List.cons_append]
  gi_wp2_with (refine ⟨trivial, ?_⟩; gi_at_call 48; refine (callsIn_wide.2 (neach_any s _)).mono ?_; rintro e w2 ⟨rfl, hbx, hw2⟩)
  have c0 := new_cell8 w (.string t) 9
  have c1 := new_cell8 (w.alloc (.cells #[.string t] 9)) (.int .i64 0) 3
  rw [World.size_alloc] at c1
  rw [World.size_alloc, World.size_alloc] at hbx
  have z1 : w.heap.size + 2 < w2.heap.size := block_lt_of_cell hbx
  have HR0 : Hid (w2.cell? ⟨w.heap.size, 0, none⟩ = some (.string t)) := by
    show _ = _
    rw [hw2.cell (p := ⟨w.heap.size, 0, none⟩) (by simp; omega)]
    exact kept_cell8 _ c0.1
  have HR1 : Hid (w2.cell? ⟨w.heap.size + 1, 0, none⟩ = some (.int .i64 0)) := by
    show _ = _
    rw [hw2.cell (p := ⟨w.heap.size + 1, 0, none⟩) (by simp)]
    exact c1.1
  have HF1 : Hid (w2.frozen? ⟨w.heap.size + 1, 0, none⟩ = false) := by
    show _ = _
    rw [hw2.frozen (p := ⟨w.heap.size + 1, 0, none⟩) (by simp)]
    exact c1.2
  have HB0 : Hid (Below w.heap.size w w2) := (((Below.refl _ w).alloc (Nat.le_refl _) _).alloc (by simp) _).trans (hw2.mono (by simp; omega))
  have hbx2 : Hid (w2.cell? ⟨w.heap.size + 2, 0, none⟩ = some (.string s)) := hbx
  clear hbx c0 c1 hw2
  refine' wpIn_rangeFunc_ownF rfl (by omega) (gf := 65) (lb := #[.pointer (some ⟨w.heap.size + 2, 0, none⟩)]) rfl trivial (enters_of Tryz.func65 (by kernel_rfl) rfl)
    (each_stopsX 9 (by omega) (w.heap.size + 2) w2.heap.size s (by omega) z1 w2 hbx2.out) belowK_t (belowK_b (by omega)) (Below.refl _ _) (fun _ => rfl)
    (fun pre W => Nm.sameP t.toList (pre.map (fun x => x.1)) ∧ Below w2.heap.size w2 W)
    (fun c pre W => (c = .ret ∧ ∃ (ys : List (Px s.toList)) (x : Px s.toList) (r : Int), pre = ys ++ [x] ∧ Nm.sameP t.toList (ys.map (fun x => x.1)) ∧ ((t.toList.length < x.1.1 ∧ r = 1) ∨ (x.1.1 ≤ t.toList.length ∧ r ≠ 0 ∧ r = Nm.cmpS x.1.2 (Nm.fst (t.toList.drop x.1.1)))) ∧ W.cell? ⟨w.heap.size + 1, 0, none⟩ = some (.int .i64 r)) ∧ Below w.heap.size w W)
    (OwnFrom.and (fun s A B row hs hg hr => hs) (ownFrom_below (Nat.le_refl _) (by omega)))
    (fun c => OwnFrom.and (Own.from (fun s A B row hs hg hr => ⟨hs.1, by
      obtain ⟨ys, x, r, h1, h2, h3, h4⟩ := hs.2
      exact ⟨ys, x, r, h1, h2, h3, cell_kept h4 hg hr⟩⟩) _) (ownFrom_below (Nat.le_refl _) (by omega)))
    ⟨fun x hx => (by simp at hx), Below.refl _ _⟩
    _ ?assign ?body ?done ?stop
  case assign =>
    intro l x W K hK
    unfold encP
    gi_wp2
    exact hK
  case body =>
    rintro l pre x W ⟨hok, hB⟩ hlt
    have q0 := HR0.out
    have q2 := HR1.out
    have q3 := HF1.out
    rw [← hB.cell (p := ⟨w.heap.size, 0, none⟩) (show w.heap.size < _ by omega)] at q0
    rw [← hB.cell (p := ⟨w.heap.size + 1, 0, none⟩) (show w.heap.size + 1 < _ by omega)] at q2
    rw [← hB.frozen (p := ⟨w.heap.size + 1, 0, none⟩) (show w.heap.size + 1 < _ by omega)] at q3
    obtain ⟨at_, hat⟩ : ∃ a, Hid (x.1.1 = a) := ⟨_, rfl⟩
    obtain ⟨P, hP⟩ : ∃ a, Hid (x.1.2 = a) := ⟨_, rfl⟩
    rw [hat.out, hP.out]
    have a0 : (0 : Int) ≤ (at_ : Int) := Int.natCast_nonneg _
    have hex : Hid ((t.extract at_ t.size).toList = t.toList.drop at_) := by show _ = _; rw [Nm.extract_from, Nm.toList_S]
    have hes : Hid ((t.extract at_ t.size).size ≤ 4611686018427387904) := by show _ ≤ _; rw [← Nm.size_toList, hex.out, List.length_drop, HTZ.out]; omega
    obtain ⟨Q, hQ⟩ : ∃ a, Hid (Nm.fst (t.toList.drop at_) = a) := ⟨_, rfl⟩
    obtain ⟨M, hM⟩ : ∃ a, Hid (decide ((47 : UInt8) ∈ t.toList.drop at_) = a) := ⟨_, rfl⟩
    obtain ⟨r, hr⟩ : ∃ a, Hid (Nm.cmpS P Q = a) := ⟨_, rfl⟩
    have hr2 : Hid (Nm.cmpS (Nm.S P).toList (Nm.S Q).toList = r) := by show _ = _; rw [Nm.toList_S, Nm.toList_S]; exact hr.out
    have hrb : -1 ≤ r ∧ r ≤ 1 := by
      rw [← hr.out]; unfold Nm.cmpS
      split
      · exact ⟨Int.le_refl _, by decide⟩
      · split
        · exact ⟨by decide, Int.le_refl _⟩
        · exact ⟨by decide, by decide⟩
    show Code.wpIn _ _ _ _ _ _ _
    gi_wp2_with (first
      | (refine ⟨trivial, ?_⟩; gi_at_call 54; refine (CallsIn.inRound l (callsIn_wide.2 (fpiece_any (t.extract at_ t.size) _ hes.out))).mono ?_; rintro e w3 ⟨rfl, m, hw3⟩; rw [hex.out, hQ.out, hM.out]; have hw4 : Hid (w3 = W.drewN m) := hw3; have q4 : w3.cell? ⟨w.heap.size + 1, 0, none⟩ = some (.int .i64 0) := (by rw [hw3, cell_drewN8]; exact q2); have q5 : w3.frozen? ⟨w.heap.size + 1, 0, none⟩ = false := (by rw [hw3, frozen_drewN8]; exact q3); clear hw3)
      | (refine ⟨trivial, ?_⟩; gi_at_call 55; refine (CallsIn.inRound l (callsIn_wide.2 (cmps_any (Nm.S P) (Nm.S Q) _))).mono ?_; rintro e w5 ⟨rfl, hw5⟩; subst w5; rw [hr2.out]))
    · rename_i hlt2
      refine ⟨KeepsOthers.setCell _ _ _, ⟨rfl, pre, x, 1, rfl, hok, .inl ⟨by rw [HTZ.out, hat.out]; exact hlt2, rfl⟩, World.cell?_setCell_same' _ _ _ (by rw [q2]; rfl)⟩, ?_⟩
      exact (HB0.out.trans (hB.mono (by omega))).setCell (p := ⟨w.heap.size + 1, 0, none⟩) (by simp) _
    · rename_i hle2 hne
      have hne2 : r ≠ 0 := by simpa using hne
      have hB3 : Below w2.heap.size w2 w3 := by rw [hw4.out]; exact below_drewN8 hB m
      refine ⟨KeepsOthers.trans (by rw [hw4.out]; exact keeps_drewN8 W m) (KeepsOthers.setCell _ _ _), ⟨rfl, pre, x, r, rfl, hok, .inr ⟨by rw [HTZ.out, hat.out]; exact Nat.le_of_not_lt hle2, hne2, by rw [hat.out, hP.out, hQ.out, hr.out]⟩, World.cell?_setCell_same' _ _ _ (by rw [q4]; rfl)⟩, ?_⟩
      exact (HB0.out.trans (hB3.mono (by omega))).setCell (p := ⟨w.heap.size + 1, 0, none⟩) (by simp) _
    · rename_i hle2 hne
      have hne2 : r = 0 := by simpa using hne
      refine ⟨by rw [hw4.out]; exact keeps_drewN8 W m, by rw [hw4.out]; exact below_drewN8 (Below.refl _ _) m, ?_, by rw [hw4.out]; exact below_drewN8 hB m⟩
      rw [List.map_append]
      refine Nm.sameP_snoc hok (by rw [HTZ.out, hat.out]; exact Nat.le_of_not_lt hle2) ?_
      rw [hat.out, hP.out, hQ.out, hr.out, hne2]
  case done =>
    rintro D ys W hD hys ⟨hok, hB⟩ hK
    rw [hys] at hok
    have hci : Hid (Lib.compareInt (s.size : Int) (t.size : Int) = rA) := by
      show _ = _
      rw [← hA.out, Nm.cmp_done hok, HSZ.out, HTZ.out]
    have q0 := HR0.out
    have q2 := HR1.out
    have q3 := HF1.out
    rw [← hB.cell (p := ⟨w.heap.size, 0, none⟩) (show w.heap.size < _ by omega)] at q0
    rw [← hB.cell (p := ⟨w.heap.size + 1, 0, none⟩) (show w.heap.size + 1 < _ by omega)] at q2
    rw [← hB.frozen (p := ⟨w.heap.size + 1, 0, none⟩) (show w.heap.size + 1 < _ by omega)] at q3
    obtain ⟨V, hV⟩ : ∃ V, Hid (V = W.setCell ⟨w.heap.size + 1, 0, none⟩ (.int .i64 rA)) := ⟨_, rfl⟩
    have r1 : V.cell? ⟨w.heap.size + 1, 0, none⟩ = some (.int .i64 rA) := by
      rw [hV.out, World.cell?_setCell_same' _ _ _ (by rw [q2]; rfl)]
    have hVB : Below w.heap.size w V := by
      rw [hV.out]
      exact (HB0.out.trans (hB.mono (by omega))).setCell (p := ⟨w.heap.size + 1, 0, none⟩) (by simp) _
    have hVD : V.heap[D]? = some (.deferred (some [])) := by
      rw [hV.out]
      exact (Below.heap_setCell W ⟨w.heap.size + 1, 0, none⟩ _ D (by show D ≠ w.heap.size + 1; omega)).trans hK
    gi_wp2_with (refine ⟨trivial, ?_⟩; gi_at_call 56; refine (callsIn_wide.2 (lx_cmpint _ _ _)).mono ?_; rintro e w5 ⟨rfl, hw5⟩; subst w5; rw [hci.out])
    rw [← hV.out]
    have r3 := cell_kept r1 (grownBy_putObj' _ D (.deferred none)) (fun r e => by cases e; exact ⟨_, hVD, rfl⟩)
    refine ⟨by simp, .inl ⟨_, _, rfl, run_takeDeferred hVD, ?_⟩⟩
    refine ⟨.int .i64 rA, ?_, rfl, hVB.trans (belowK_b (w := w) (Nat.le_refl _) _ D _ (.deferred none) (by omega) hVD rfl rfl)⟩
    simp [results, Tryz.f40, go_sem, r3]
  case stop =>
    rintro D c pre W hD hpre ⟨⟨rfl, ys, x, r, rfl, hok, hor, h1⟩, hB⟩ hK
    rw [List.map_append] at hpre
    have hcs := Nm.cmp_stop hpre hok
    have hrA : r = rA := by
      rw [← hA.out]
      rcases hor with ⟨g1, rfl⟩ | ⟨g1, g2, rfl⟩
      · exact (hcs.1 g1).symm
      · exact (hcs.2 g1 g2).symm
    subst hrA
    clear hor hcs
    gi_wp2
    have r3 := cell_kept h1 (grownBy_putObj' _ D (.deferred none)) (fun r e => by cases e; exact ⟨_, hK, rfl⟩)
    refine ⟨by simp, .inl ⟨_, _, rfl, run_takeDeferred hK, ?_⟩⟩
    refine ⟨.int .i64 r, ?_, rfl, hB.trans (belowK_b (w := w) (Nat.le_refl _) _ D _ (.deferred none) (by omega) hK rfl rfl)⟩
    simp [results, Tryz.f40, go_sem, r3]
theorem ncompare_any (s t : ByteArray) (hs : s.size ≤ 4611686018427387904) (ht : t.size ≤ 4611686018427387904) (w : World) :
    Calls Tryz.prog 40 #[.string s, .string t] w fun e w' => e = .returned (.int .i64 (Nm.cmp s.toList t.toList)) ∧ Bw w w' :=
  (callsIn_wide (n := 10)).1 (ncompare_in s t hs ht w)
end Go.Proofs.YtldkhbkgmiicbabGreatDoor
