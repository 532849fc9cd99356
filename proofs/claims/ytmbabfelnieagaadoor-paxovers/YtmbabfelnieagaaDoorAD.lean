/- The document's own Over (of tabularyref09). -/
import Derived.Test.YtmbabfelnieagaaDoorAC
namespace Go.Proofs.YtmbabfelnieagaaDoor
open Go.RowKit Go.Deep
set_option linter.unusedVariables false
set_option linter.unusedSimpArgs false

namespace Px
/-- Over's answer -/
def overF (l m : List Pr) : List Pr × Nat := if (putF l).2.2 ≠ 0 then ([], (putF l).2.2) else if (putF m).2.2 ≠ 0 then ([], (putF m).2.2) else if 64 < (over l m).length then ([], 3) else (over l m, 0)
theorem put_er (l : List Pr) : (putF l).2.2 ≤ 100 := by
  have h : ∀ (l : List Pr) (o : Option B) (i : Nat), (putE o l i).2 ≤ 100 := by
    intro l
    induction l with
    | nil => intro o i; exact Nat.zero_le _
    | cons p l ih =>
      intro o i
      unfold putE
      have := fits_vals p
      split
      · show fits p ≤ 100; omega
      · split
        · exact (by decide : (92 : Nat) ≤ 100)
        · exact ih _ _
  unfold putF
  split
  · exact (by decide : (3 : Nat) ≤ 100)
  · split
    · exact h l none 0
    · exact Nat.zero_le _
theorem over_take_l {L M : List Pr} {i k : Nat} {p : Pr} (hi : L[i]? = some p) (hk : M.length ≤ k) : over (L.drop i) (M.drop k) = p :: over (L.drop (i + 1)) (M.drop k) := by
  obtain ⟨h, e⟩ := List.getElem?_eq_some_iff.1 hi
  rw [List.drop_of_length_le hk, over_nil_r, over_nil_r, List.drop_eq_getElem_cons h, e]
theorem over_less_l {L M : List Pr} {i k : Nat} {p q : Pr} (hi : L[i]? = some p) (hk : M[k]? = some q) (hl : Nm.less p.1 q.1 = true) : over (L.drop i) (M.drop k) = p :: over (L.drop (i + 1)) (M.drop k) := by
  obtain ⟨h, e⟩ := List.getElem?_eq_some_iff.1 hi
  obtain ⟨h', e'⟩ := List.getElem?_eq_some_iff.1 hk
  rw [List.drop_eq_getElem_cons h, List.drop_eq_getElem_cons h', e, e', over_less _ _ hl]
theorem over_same_m {L M : List Pr} {i k : Nat} {p q : Pr} (hi : L[i]? = some p) (hk : M[k]? = some q) (hl : p.1 = q.1) : over (L.drop i) (M.drop k) = q :: over (L.drop (i + 1)) (M.drop (k + 1)) := by
  obtain ⟨h, e⟩ := List.getElem?_eq_some_iff.1 hi
  obtain ⟨h', e'⟩ := List.getElem?_eq_some_iff.1 hk
  rw [List.drop_eq_getElem_cons h, List.drop_eq_getElem_cons h', e, e', over_same _ _ hl]
theorem over_more_m {L M : List Pr} {i k : Nat} {p q : Pr} (hi : L[i]? = some p) (hk : M[k]? = some q) (hl : Nm.less p.1 q.1 = false) (hn : p.1 ≠ q.1) : over (L.drop i) (M.drop k) = q :: over (L.drop i) (M.drop (k + 1)) := by
  obtain ⟨h, e⟩ := List.getElem?_eq_some_iff.1 hi
  obtain ⟨h', e'⟩ := List.getElem?_eq_some_iff.1 hk
  have hm : Nm.less q.1 p.1 = true := by
    rcases three p.1 q.1 with g | g | g
    · rw [hl] at g; cases g
    · exact absurd g hn
    · exact g
  rw [List.drop_eq_getElem_cons h, List.drop_eq_getElem_cons h', e, e', over_more _ _ hm]
theorem over_take_m {L M : List Pr} {i k : Nat} {q : Pr} (hi : L.length ≤ i) (hk : M[k]? = some q) : over (L.drop i) (M.drop k) = q :: over (L.drop i) (M.drop (k + 1)) := by
  obtain ⟨h', e'⟩ := List.getElem?_eq_some_iff.1 hk
  rw [List.drop_of_length_le hi, over_nil_l, over_nil_l, List.drop_eq_getElem_cons h', e']
end Px
/-- what Over answers -/
def OverEnds (base : Nat) (L M : List Px.Pr) (e : Ending) (w' : World) : Prop :=
  ((Px.overF L M).2 ≠ 0 ∧ e = .returned (.tuple #[.slice none 0 0, .int .i64 ((Px.overF L M).2 : Int)])) ∨
  ((Px.overF L M).2 = 0 ∧ ∃ v, e = .returned (.tuple #[v, .int .i64 0]) ∧ w'.ownsRow base 23 2 v (Px.overF L M).1.length (Px.cellsPr (Px.overF L M).1))
set_option maxRecDepth 100000 in
set_option maxHeartbeats 2000000 in
theorem rover_any (A B : Option Addr) (ca cb : Nat) (L M : List Px.Pr) (hn : L.length ≤ 4611686018427387904) (hm : M.length ≤ 4611686018427387904) (hSL : ∀ p ∈ L, p.1.length ≤ 140737488355328 ∧ p.2.length ≤ 140737488355328) (hSM : ∀ p ∈ M, p.1.length ≤ 140737488355328 ∧ p.2.length ≤ 140737488355328) (w : World) (ha : PrsAt w A L) (hb : PrsAt w B M) :
    Calls Tryd.prog 21 #[.slice A L.length ca, .slice B M.length cb] w fun e w' => OverEnds w.heap.size L M e w' ∧ Bw w w' := by
  have HA : Hid (PrsAt w A L) := ha
  have HB : Hid (PrsAt w B M) := hb
  obtain ⟨n, hnn⟩ : ∃ n, Hid (L.length = n) := ⟨_, rfl⟩
  obtain ⟨m, hmm⟩ : ∃ m, Hid (M.length = m) := ⟨_, rfl⟩
  have HPL : Hid (∀ u, PrsAt u A L → Calls Tryd.prog 15 #[.slice A n ca] u fun e w' => PutEnds u.heap.size L e w' ∧ Bw u w') := fun u h => by
    have := rput_any A ca L hn hSL u h
    rw [hnn.out] at this
    exact this
  have HPM : Hid (∀ u, PrsAt u B M → Calls Tryd.prog 15 #[.slice B m cb] u fun e w' => PutEnds u.heap.size M e w' ∧ Bw u w') := fun u h => by
    have := rput_any B cb M hm hSM u h
    rw [hmm.out] at this
    exact this
  rw [hnn.out] at hn
  rw [hmm.out] at hm
  rw [hnn.out, hmm.out]
  clear ha hb hSL hSM
  obtain ⟨i0, hi0, hz0, hz1, hz2⟩ := info_parts info_pair
  obtain ⟨eL, hEL⟩ : ∃ e, Hid ((Px.putF L).2.2 = e) := ⟨_, rfl⟩
  obtain ⟨eM, hEM⟩ : ∃ e, Hid ((Px.putF M).2.2 = e) := ⟨_, rfl⟩
  have hLb : eL ≤ 100 := by rw [← hEL.out]; exact Px.put_er L
  have hMb : eM ≤ 100 := by rw [← hEM.out]; exact Px.put_er M
  by_cases h0 : eL = 0
  · subst h0
    by_cases h0 : eM = 0
    · subst h0
      have hOF : Hid (Px.overF L M = if 64 < (Px.over L M).length then ([], 3) else (Px.over L M, 0)) := by show _ = _; unfold Px.overF; rw [hEL.out, hEM.out, if_neg (by simp), if_neg (by simp)]
      have hL64 : n ≤ 64 := by rw [← hnn.out]; exact ((Px.put_ok L).1 hEL.out).1
      have hM64 : m ≤ 64 := by rw [← hmm.out]; exact ((Px.put_ok M).1 hEM.out).1
      have tok1 : Hid (w = w) := rfl
      have tok2 : Hid (w = w) := rfl
      go_enter Tryd.func21, Tryd.ntmps21
      go_wp2_with (go_at_call 15; clear tok1; refine (HPL.out _ HA.out).mono ?_; rintro e w1 ⟨hor, hw1⟩; unfold PutEnds at hor; rcases hor with ⟨h, -⟩ | ⟨-, v1, rfl, -⟩; exact absurd hEL.out h)
      go_wp2_with (go_at_call 15; clear tok2; refine (HPM.out _ (HB.out.keep hw1)).mono ?_; rintro e w2 ⟨hor, hw2⟩; unfold PutEnds at hor; rcases hor with ⟨h, -⟩ | ⟨-, v2, rfl, -⟩; exact absurd hEM.out h)
      have hb2 : Bw w w2 := hw1.trans hw2
      go_wp2
      go_loopw [9, 10, 11] (fun v i k wr => ∃ (i' k' : Nat) (out : List Px.Pr), i' ≤ n ∧ k' ≤ m ∧ i = .int .i64 (i' : Int) ∧ k = .int .i64 (k' : Int) ∧ Hid (Px.over L M = out ++ Px.over (L.drop i') (M.drop k')) ∧ out.length ≤ i' + k' ∧ wr.ownsRow w.heap.size 23 2 v out.length (Px.cellsPr out) ∧ Bw w wr) (fun _ i k _ => (n - (intOf i).toNat) + (m - (intOf k).toNat))
      case atStart => exact ⟨0, 0, [], Nat.zero_le _, Nat.zero_le _, rfl, rfl, by show _ = _; rfl, by simp, World.ownsRow_nil _ _ _ _, hb2⟩
      case round =>
        obtain ⟨i, k, out, hi, hk, rfl, rfl, hst, hol, hown, hbw⟩ := hrel
        have i0' : (0 : Int) ≤ (i : Int) := Int.natCast_nonneg _
        have k0' : (0 : Int) ≤ (k : Int) := Int.natCast_nonneg _
        have szr := hbw.size
        obtain ⟨O, capO, rfl, hcO, hprs, hnil⟩ := prs_of_own hown
        obtain ⟨o, ho⟩ : ∃ o, Hid (out.length = o) := ⟨_, rfl⟩
        rw [ho.out] at hol hown hcO ⊢
        have hown0 := fun (W : World) (h : Bw wr W) => own_keep hown h
        have HOW : Hid _ := hown0
        clear hown0 hprs
        have hbwr : Bw wr wr := Bw.refl _
        by_cases hin : i < n
        · have i1 : (i : Int) < (n : Int) := by omega
          obtain ⟨p, hp⟩ : ∃ p, Hid (L[i]? = some p) := ⟨_, List.getElem?_eq_getElem (by rw [hnn.out]; exact hin)⟩
          obtain ⟨ba, oa, rfl, hca⟩ := HA.out.at (by rw [hnn.out]; omega)
          have HCL : Hid (∀ V, Bw wr V → ∀ (i : Nat) (p : Px.Pr), L[i]? = some p → V.cell? ⟨ba, oa + i * 2, none⟩ = some (.string (Nm.S p.1)) ∧ V.cell? ⟨ba, oa + i * 2 + 1, none⟩ = some (.string (Nm.S p.2))) := fun V h i p hp => by
            obtain ⟨g1, g2⟩ := hca i p hp
            have hlt := block_lt_of_cell g1
            have hbb := hbw.trans h
            rw [hbb.cell (p := ⟨ba, oa + i * 2, none⟩) hlt, hbb.cell (p := ⟨ba, oa + i * 2 + 1, none⟩) hlt]
            exact ⟨g1, g2⟩
          clear hca
          by_cases hkm : k < m
          · have k1 : (k : Int) < (m : Int) := by omega
            have ek : ((k : Int) == (m : Int)) = false := by rw [beq_eq_false_iff_ne]; omega
            obtain ⟨q, hq⟩ : ∃ q, Hid (M[k]? = some q) := ⟨_, List.getElem?_eq_getElem (by rw [hmm.out]; exact hkm)⟩
            obtain ⟨bm, om, rfl, hcm⟩ := HB.out.at (by rw [hmm.out]; omega)
            have HCM : Hid (∀ V, Bw wr V → ∀ (i : Nat) (p : Px.Pr), M[i]? = some p → V.cell? ⟨bm, om + i * 2, none⟩ = some (.string (Nm.S p.1)) ∧ V.cell? ⟨bm, om + i * 2 + 1, none⟩ = some (.string (Nm.S p.2))) := fun V h i p hp => by
              obtain ⟨g1, g2⟩ := hcm i p hp
              have hlt := block_lt_of_cell g1
              have hbb := hbw.trans h
              rw [hbb.cell (p := ⟨bm, om + i * 2, none⟩) hlt, hbb.cell (p := ⟨bm, om + i * 2 + 1, none⟩) hlt]
              exact ⟨g1, g2⟩
            clear hcm
            cases hls : Nm.less p.1 q.1 with
            | true =>
              have hnext : Hid (Px.over (L.drop i) (M.drop k) = p :: Px.over (L.drop (i + 1)) (M.drop k)) := Px.over_less_l hp.out hq.out hls
              have hls2 : Op.bytesLess (Nm.S p.1).toList (Nm.S q.1).toList = true := by rw [Nm.toList_S, Nm.toList_S]; exact hls
              clear hls
              obtain ⟨a1, a2⟩ := (HCL.out wr hbwr) i p hp.out
              obtain ⟨b1, b2⟩ := (HCM.out wr hbwr) k q hq.out
              go_wp2
              go_quiet (fail)
              obtain ⟨V, hV⟩ : ∃ Y, Y = wr.drewN nq := ⟨_, rfl⟩
              have hbV : Bw wr V := by rw [hV]; exact hbwr.trans (Bw.drewN wr nq)
              rw [← hV]
              clear hV
              clear a1 a2 b1 b2
              obtain ⟨x1, x2⟩ := (HCL.out V hbV) i p hp.out
              go_wp2_with (at_builtin; refine wpList_append_lies _ (by rfl) (.tmp 63) (.tmp 68) _ (by rfl) w.heap.size 23 i0 _ 2 32 Tryd.underlying33 hi0 hz0 hz1 hz2 rfl (by omega) _ _ _ (by rfl) ((HOW.out V hbV).alloc _) ⟨V.heap.size, 0, none⟩ 1 1 [_, _] (by rfl) (by rfl) (World.news_of_block (cs := #[_, _]) (t := 23) (fr := (0, 0)) (heap_alloc_new V _)) (by simp [Value.oneCell']) (by omega) (by unfold maxLen; omega) (by omega) (by have := hbV.size; simp; omega) (V.heap.size + 1) (by simp) ?_; intro g4 c4 w4 hown4 hgrow4 hat4 hlt4)
              have hb4 : Bw w w4 := bw_grow hgrow4 ((hbw.trans hbV).alloc (Nat.le_trans szr hbV.size) _) (by have := hbV.size; rw [size_alloc]; omega) ((HOW.out V hbV).alloc _)
              have hown5 : w4.ownsRow w.heap.size 23 2 (.slice (some ⟨g4, 0, none⟩) (o + 1) c4) (out ++ [p]).length (Px.cellsPr (out ++ [p])) := by
                rw [List.length_append, ho.out, Px.cellsPr_append]; exact hown4
              have hst2 : Hid (Px.over L M = (out ++ [p]) ++ Px.over (L.drop (i + 1)) (M.drop (k))) := by show _ = _; rw [hst.out, hnext.out, List.append_assoc]; rfl
              go_wp2
              go_roundw
              case rel => exact ⟨i + 1, k, out ++ [p], by omega, by omega, by go_num, by go_num, hst2, by rw [List.length_append, ho.out]; simp; omega, hown5, hb4⟩
              case measure => simp [intOf]; omega
            | false =>
              have hls2 : Op.bytesLess (Nm.S p.1).toList (Nm.S q.1).toList = false := by rw [Nm.toList_S, Nm.toList_S]; exact hls
              have es := Px.S_eql p.1 q.1
              by_cases heq : p.1 = q.1
              · rw [decide_eq_true heq] at es
                have hnext : Hid (Px.over (L.drop i) (M.drop k) = q :: Px.over (L.drop (i + 1)) (M.drop (k + 1))) := Px.over_same_m hp.out hq.out heq
                clear hls heq
                obtain ⟨a1, a2⟩ := (HCL.out wr hbwr) i p hp.out
                obtain ⟨b1, b2⟩ := (HCM.out wr hbwr) k q hq.out
                go_wp2
                go_quiet (fail)
                obtain ⟨V, hV⟩ : ∃ Y, Y = wr.drewN nq := ⟨_, rfl⟩
                have hbV : Bw wr V := by rw [hV]; exact hbwr.trans (Bw.drewN wr nq)
                rw [← hV]
                clear hV
                clear a1 a2 b1 b2
                obtain ⟨x1, x2⟩ := (HCL.out V hbV) i p hp.out
                obtain ⟨y1, y2⟩ := (HCM.out V hbV) k q hq.out
                go_wp2
                go_quiet (fail)
                obtain ⟨X, hX⟩ : ∃ Y, Y = V.drewN nq := ⟨_, rfl⟩
                have hbX : Bw wr X := by rw [hX]; exact hbV.trans (Bw.drewN V nq)
                rw [← hX]
                clear hX
                clear x1 x2 y1 y2
                obtain ⟨z1, z2⟩ := (HCM.out X hbX) k q hq.out
                go_wp2_with (at_builtin; refine wpList_append_lies _ (by rfl) (.tmp 91) (.tmp 96) _ (by rfl) w.heap.size 23 i0 _ 2 32 Tryd.underlying33 hi0 hz0 hz1 hz2 rfl (by omega) _ _ _ (by rfl) ((HOW.out X hbX).alloc _) ⟨X.heap.size, 0, none⟩ 1 1 [_, _] (by rfl) (by rfl) (World.news_of_block (cs := #[_, _]) (t := 23) (fr := (0, 0)) (heap_alloc_new X _)) (by simp [Value.oneCell']) (by omega) (by unfold maxLen; omega) (by omega) (by have := hbX.size; simp; omega) (X.heap.size + 1) (by simp) ?_; intro g4 c4 w4 hown4 hgrow4 hat4 hlt4)
                have hb4 : Bw w w4 := bw_grow hgrow4 ((hbw.trans hbX).alloc (Nat.le_trans szr hbX.size) _) (by have := hbX.size; rw [size_alloc]; omega) ((HOW.out X hbX).alloc _)
                have hown5 : w4.ownsRow w.heap.size 23 2 (.slice (some ⟨g4, 0, none⟩) (o + 1) c4) (out ++ [q]).length (Px.cellsPr (out ++ [q])) := by
                  rw [List.length_append, ho.out, Px.cellsPr_append]; exact hown4
                have hst2 : Hid (Px.over L M = (out ++ [q]) ++ Px.over (L.drop (i + 1)) (M.drop (k + 1))) := by show _ = _; rw [hst.out, hnext.out, List.append_assoc]; rfl
                go_wp2
                go_roundw
                case rel => exact ⟨i + 1, k + 1, out ++ [q], by omega, by omega, by go_num, by go_num, hst2, by rw [List.length_append, ho.out]; simp; omega, hown5, hb4⟩
                case measure => simp [intOf]; omega
              · rw [decide_eq_false heq] at es
                have hnext : Hid (Px.over (L.drop i) (M.drop k) = q :: Px.over (L.drop i) (M.drop (k + 1))) := Px.over_more_m hp.out hq.out hls heq
                clear hls heq
                obtain ⟨a1, a2⟩ := (HCL.out wr hbwr) i p hp.out
                obtain ⟨b1, b2⟩ := (HCM.out wr hbwr) k q hq.out
                go_wp2
                go_quiet (fail)
                obtain ⟨V, hV⟩ : ∃ Y, Y = wr.drewN nq := ⟨_, rfl⟩
                have hbV : Bw wr V := by rw [hV]; exact hbwr.trans (Bw.drewN wr nq)
                rw [← hV]
                clear hV
                clear a1 a2 b1 b2
                obtain ⟨x1, x2⟩ := (HCL.out V hbV) i p hp.out
                obtain ⟨y1, y2⟩ := (HCM.out V hbV) k q hq.out
                go_wp2
                go_quiet (fail)
                obtain ⟨X, hX⟩ : ∃ Y, Y = V.drewN nq := ⟨_, rfl⟩
                have hbX : Bw wr X := by rw [hX]; exact hbV.trans (Bw.drewN V nq)
                rw [← hX]
                clear hX
                clear x1 x2 y1 y2
                obtain ⟨z1, z2⟩ := (HCM.out X hbX) k q hq.out
                go_wp2_with (at_builtin; refine wpList_append_lies _ (by rfl) (.tmp 91) (.tmp 96) _ (by rfl) w.heap.size 23 i0 _ 2 32 Tryd.underlying33 hi0 hz0 hz1 hz2 rfl (by omega) _ _ _ (by rfl) ((HOW.out X hbX).alloc _) ⟨X.heap.size, 0, none⟩ 1 1 [_, _] (by rfl) (by rfl) (World.news_of_block (cs := #[_, _]) (t := 23) (fr := (0, 0)) (heap_alloc_new X _)) (by simp [Value.oneCell']) (by omega) (by unfold maxLen; omega) (by omega) (by have := hbX.size; simp; omega) (X.heap.size + 1) (by simp) ?_; intro g4 c4 w4 hown4 hgrow4 hat4 hlt4)
                have hb4 : Bw w w4 := bw_grow hgrow4 ((hbw.trans hbX).alloc (Nat.le_trans szr hbX.size) _) (by have := hbX.size; rw [size_alloc]; omega) ((HOW.out X hbX).alloc _)
                have hown5 : w4.ownsRow w.heap.size 23 2 (.slice (some ⟨g4, 0, none⟩) (o + 1) c4) (out ++ [q]).length (Px.cellsPr (out ++ [q])) := by
                  rw [List.length_append, ho.out, Px.cellsPr_append]; exact hown4
                have hst2 : Hid (Px.over L M = (out ++ [q]) ++ Px.over (L.drop (i)) (M.drop (k + 1))) := by show _ = _; rw [hst.out, hnext.out, List.append_assoc]; rfl
                go_wp2
                go_roundw
                case rel => exact ⟨i, k + 1, out ++ [q], by omega, by omega, by go_num, by go_num, hst2, by rw [List.length_append, ho.out]; simp; omega, hown5, hb4⟩
                case measure => simp [intOf]; omega
          · have ek : ((k : Int) == (m : Int)) = true := by rw [beq_iff_eq]; omega
            have hnext : Hid (Px.over (L.drop i) (M.drop k) = p :: Px.over (L.drop (i + 1)) (M.drop k)) := Px.over_take_l hp.out (by rw [hmm.out]; omega)
            go_wp2
            go_quiet (fail)
            obtain ⟨V, hV⟩ : ∃ Y, Y = wr.drewN nq := ⟨_, rfl⟩
            have hbV : Bw wr V := by rw [hV]; exact hbwr.trans (Bw.drewN wr nq)
            rw [← hV]
            clear hV
            obtain ⟨x1, x2⟩ := (HCL.out V hbV) i p hp.out
            go_wp2_with (at_builtin; refine wpList_append_lies _ (by rfl) (.tmp 63) (.tmp 68) _ (by rfl) w.heap.size 23 i0 _ 2 32 Tryd.underlying33 hi0 hz0 hz1 hz2 rfl (by omega) _ _ _ (by rfl) ((HOW.out V hbV).alloc _) ⟨V.heap.size, 0, none⟩ 1 1 [_, _] (by rfl) (by rfl) (World.news_of_block (cs := #[_, _]) (t := 23) (fr := (0, 0)) (heap_alloc_new V _)) (by simp [Value.oneCell']) (by omega) (by unfold maxLen; omega) (by omega) (by have := hbV.size; simp; omega) (V.heap.size + 1) (by simp) ?_; intro g4 c4 w4 hown4 hgrow4 hat4 hlt4)
            have hb4 : Bw w w4 := bw_grow hgrow4 ((hbw.trans hbV).alloc (Nat.le_trans szr hbV.size) _) (by have := hbV.size; rw [size_alloc]; omega) ((HOW.out V hbV).alloc _)
            have hown5 : w4.ownsRow w.heap.size 23 2 (.slice (some ⟨g4, 0, none⟩) (o + 1) c4) (out ++ [p]).length (Px.cellsPr (out ++ [p])) := by
              rw [List.length_append, ho.out, Px.cellsPr_append]; exact hown4
            have hst2 : Hid (Px.over L M = (out ++ [p]) ++ Px.over (L.drop (i + 1)) (M.drop (k))) := by show _ = _; rw [hst.out, hnext.out, List.append_assoc]; rfl
            go_wp2
            go_roundw
            case rel => exact ⟨i + 1, k, out ++ [p], by omega, by omega, by go_num, by go_num, hst2, by rw [List.length_append, ho.out]; simp; omega, hown5, hb4⟩
            case measure => simp [intOf]; omega
        · have i1 : ¬ i < n := hin
          have i2 : (i < n) = False := by simp; omega
          by_cases hkm : k < m
          · have k1 : (k : Int) < (m : Int) := by omega
            have ek : ((k : Int) == (m : Int)) = false := by rw [beq_eq_false_iff_ne]; omega
            obtain ⟨q, hq⟩ : ∃ q, Hid (M[k]? = some q) := ⟨_, List.getElem?_eq_getElem (by rw [hmm.out]; exact hkm)⟩
            obtain ⟨bm, om, rfl, hcm⟩ := HB.out.at (by rw [hmm.out]; omega)
            have HCM : Hid (∀ V, Bw wr V → ∀ (i : Nat) (p : Px.Pr), M[i]? = some p → V.cell? ⟨bm, om + i * 2, none⟩ = some (.string (Nm.S p.1)) ∧ V.cell? ⟨bm, om + i * 2 + 1, none⟩ = some (.string (Nm.S p.2))) := fun V h i p hp => by
              obtain ⟨g1, g2⟩ := hcm i p hp
              have hlt := block_lt_of_cell g1
              have hbb := hbw.trans h
              rw [hbb.cell (p := ⟨bm, om + i * 2, none⟩) hlt, hbb.cell (p := ⟨bm, om + i * 2 + 1, none⟩) hlt]
              exact ⟨g1, g2⟩
            clear hcm
            have hnext : Hid (Px.over (L.drop i) (M.drop k) = q :: Px.over (L.drop i) (M.drop (k + 1))) := Px.over_take_m (by rw [hnn.out]; omega) hq.out
            go_wp2
            go_quiet (fail)
            obtain ⟨V, hV⟩ : ∃ Y, Y = wr.drewN nq := ⟨_, rfl⟩
            have hbV : Bw wr V := by rw [hV]; exact hbwr.trans (Bw.drewN wr nq)
            rw [← hV]
            clear hV
            go_wp2
            go_quiet (fail)
            obtain ⟨X, hX⟩ : ∃ Y, Y = V.drewN nq := ⟨_, rfl⟩
            have hbX : Bw wr X := by rw [hX]; exact hbV.trans (Bw.drewN V nq)
            rw [← hX]
            clear hX
            obtain ⟨z1, z2⟩ := (HCM.out X hbX) k q hq.out
            go_wp2_with (at_builtin; refine wpList_append_lies _ (by rfl) (.tmp 91) (.tmp 96) _ (by rfl) w.heap.size 23 i0 _ 2 32 Tryd.underlying33 hi0 hz0 hz1 hz2 rfl (by omega) _ _ _ (by rfl) ((HOW.out X hbX).alloc _) ⟨X.heap.size, 0, none⟩ 1 1 [_, _] (by rfl) (by rfl) (World.news_of_block (cs := #[_, _]) (t := 23) (fr := (0, 0)) (heap_alloc_new X _)) (by simp [Value.oneCell']) (by omega) (by unfold maxLen; omega) (by omega) (by have := hbX.size; simp; omega) (X.heap.size + 1) (by simp) ?_; intro g4 c4 w4 hown4 hgrow4 hat4 hlt4)
            have hb4 : Bw w w4 := bw_grow hgrow4 ((hbw.trans hbX).alloc (Nat.le_trans szr hbX.size) _) (by have := hbX.size; rw [size_alloc]; omega) ((HOW.out X hbX).alloc _)
            have hown5 : w4.ownsRow w.heap.size 23 2 (.slice (some ⟨g4, 0, none⟩) (o + 1) c4) (out ++ [q]).length (Px.cellsPr (out ++ [q])) := by
              rw [List.length_append, ho.out, Px.cellsPr_append]; exact hown4
            have hst2 : Hid (Px.over L M = (out ++ [q]) ++ Px.over (L.drop (i)) (M.drop (k + 1))) := by show _ = _; rw [hst.out, hnext.out, List.append_assoc]; rfl
            go_wp2
            go_roundw
            case rel => exact ⟨i, k + 1, out ++ [q], by omega, by omega, by go_num, by go_num, hst2, by rw [List.length_append, ho.out]; simp; omega, hown5, hb4⟩
            case measure => simp [intOf]; omega
          · have k1 : ¬ k < m := hkm
            have k2 : (k < m) = False := by simp; omega
            have hfin : Px.over L M = out := by
              rw [hst.out, List.drop_of_length_le (by rw [hnn.out]; omega), List.drop_of_length_le (by rw [hmm.out]; omega), Px.over_nil_l, List.append_nil]
            have HOF := hOF.out
            rw [hfin, ho.out] at HOF
            by_cases h64 : 64 < o
            · have t1 : (64 : Int) < (o : Int) := by omega
              have hE : Hid (∀ w', OverEnds w.heap.size L M (.returned (.tuple #[.slice none 0 0, .int .i64 3])) w') := fun w' => by
                rw [if_pos h64] at HOF
                exact .inl ⟨by rw [HOF]; simp, by rw [HOF]; rfl⟩
              clear HOF hfin
              go_wp2
              go_ret2
              exact ⟨hE.out _, hbw⟩
            · have t1 : (o : Int) ≤ 64 := by omega
              rw [if_neg h64] at HOF
              have hE : Hid (OverEnds w.heap.size L M (.returned (.tuple #[.slice O o capO, .int .i64 0])) wr) := by
                refine .inr ⟨by rw [HOF], _, rfl, ?_⟩
                rw [HOF]
                show wr.ownsRow _ _ _ _ out.length _
                rw [ho.out]; exact hown
              clear HOF hfin
              go_wp2
              go_ret2
              exact ⟨hE.out, hbw⟩
    · have hE : Hid (∀ w', OverEnds w.heap.size L M (.returned (.tuple #[.slice none 0 0, .int .i64 (eM : Int)])) w') := fun w' => by
        have e : Px.overF L M = ([], eM) := by unfold Px.overF; rw [hEL.out, if_neg (by simp), hEM.out, if_pos h0]
        exact .inl ⟨by rw [e]; exact h0, by rw [e]⟩
      have e1 : ((eM : Int) != 0) = true := by rw [bne_iff_ne]; omega
      have tok1 : Hid (w = w) := rfl
      have tok2 : Hid (w = w) := rfl
      go_enter Tryd.func21, Tryd.ntmps21
      go_wp2_with (go_at_call 15; clear tok1; refine (HPL.out _ HA.out).mono ?_; rintro e w1 ⟨hor, hw1⟩; unfold PutEnds at hor; rcases hor with ⟨h, -⟩ | ⟨-, v1, rfl, -⟩; exact absurd hEL.out h)
      go_wp2_with (go_at_call 15; clear tok2; refine (HPM.out _ (HB.out.keep hw1)).mono ?_; rintro e w2 ⟨hor, hw2⟩; unfold PutEnds at hor; rcases hor with ⟨-, rfl⟩ | ⟨h, -⟩; rotate_left; exact absurd (hEM.out.symm.trans h) h0; rw [hEM.out])
      go_ret2
      exact ⟨hE.out _, hw1.trans hw2⟩
  · have hE : Hid (∀ w', OverEnds w.heap.size L M (.returned (.tuple #[.slice none 0 0, .int .i64 (eL : Int)])) w') := fun w' => by
      have e : Px.overF L M = ([], eL) := by unfold Px.overF; rw [hEL.out, if_pos h0]
      exact .inl ⟨by rw [e]; exact h0, by rw [e]⟩
    have e1 : ((eL : Int) != 0) = true := by rw [bne_iff_ne]; omega
    have tok1 : Hid (w = w) := rfl
    go_enter Tryd.func21, Tryd.ntmps21
    go_wp2_with (go_at_call 15; clear tok1; refine (HPL.out _ HA.out).mono ?_; rintro e w1 ⟨hor, hw1⟩; unfold PutEnds at hor; rcases hor with ⟨-, rfl⟩ | ⟨h, -⟩; rotate_left; exact absurd (hEL.out.symm.trans h) h0; rw [hEL.out])
    go_ret2
    exact ⟨hE.out _, hw1⟩
end Go.Proofs.YtmbabfelnieagaaDoor
