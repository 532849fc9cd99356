/- The document's own Get (of tabularyref09). -/
import Derived.Test.YtmbabfelnieagaaDoorAB
namespace Go.Proofs.YtmbabfelnieagaaDoor
open Go.RowKit Go.Deep
set_option linter.unusedVariables false
set_option linter.unusedSimpArgs false

namespace Px
/-- the cells of a list of pairs -/
def cellsPr : List Pr → List Value
  | [] => []
  | p :: l => .string (Nm.S p.1) :: .string (Nm.S p.2) :: cellsPr l
theorem cellsPr_append : ∀ a b, cellsPr (a ++ b) = cellsPr a ++ cellsPr b
  | [], b => rfl
  | p :: a, b => by simp only [List.cons_append, cellsPr, cellsPr_append a b]
theorem cellsPr_len : ∀ a, (cellsPr a).length = a.length * 2
  | [] => rfl
  | p :: a => by simp only [cellsPr, List.length_cons, cellsPr_len a]; omega
theorem cellsPr_get : ∀ (a : List Pr) (j : Nat) (p : Pr), a[j]? = some p → (cellsPr a)[j * 2]? = some (.string (Nm.S p.1)) ∧ (cellsPr a)[j * 2 + 1]? = some (.string (Nm.S p.2))
  | [], j, p, h => by simp at h
  | q :: a, 0, p, h => by simp at h; subst h; exact ⟨rfl, rfl⟩
  | q :: a, j + 1, p, h => by
    have := cellsPr_get a j p (by simpa using h)
    rw [show (j + 1) * 2 = j * 2 + 1 + 1 by omega]
    exact this
end Px
theorem info_pair : (Tryd.prog.info? 23).map (fun i => (i.zero, i.size, i.bytes)) = some (some (.agg #[.string ⟨#[]⟩, .string ⟨#[]⟩]), 2, 32) := by kernel_rfl
/-- a list of pairs of the call's own lies in memory -/
theorem prs_of_own {w : World} {base : Nat} {v : Value} {L : List Px.Pr} (h : w.ownsRow base 23 2 v L.length (Px.cellsPr L)) : ∃ A cap, v = .slice A L.length cap ∧ L.length ≤ cap ∧ PrsAt w A L ∧ (A = none → cap = 0) := by
  rcases h.2 with ⟨h0, h1⟩ | ⟨g, cap, cur, hv, hb, hg, h1, h2, h3, h4⟩
  · have : L = [] := List.eq_nil_of_length_eq_zero h1
    subst this
    exact ⟨none, 0, h0, Nat.le_refl _, .inl rfl, fun _ => rfl⟩
  · refine ⟨some ⟨g, 0, none⟩, cap, hv, h1, .inr ⟨g, 0, rfl, fun i p hp => ?_⟩, fun e => by cases e⟩
    have hi := (List.getElem?_eq_some_iff.1 hp).1
    have hc := Px.cellsPr_get L i p hp
    have e : ∀ j, j < L.length * 2 → cur[j]? = (Px.cellsPr L)[j]? := fun j hj => by
      rw [← h4, List.getElem?_take, if_pos hj, Array.getElem?_toList]
    rw [Nat.zero_add, cell_of_row w g _ cur _ _ hg, cell_of_row w g _ cur _ _ hg, e _ (by omega), e _ (by omega)]
    exact hc
theorem rowat_drop {u : World} {B off : Nat} {b : Px.B} (h : RowAt u (some ⟨B, off, none⟩) b.length (Px.rowF b)) (q : Nat) : RowAt u (some ⟨B, off + q, none⟩) (b.drop q).length (Px.rowF (b.drop q)) := by
  refine ⟨.inr ⟨B, off + q, rfl, fun i hi => ?_⟩, Px.rowF_bd _⟩
  rw [List.length_drop] at hi
  obtain ⟨b', o', e, hc⟩ := h.at (k := q + i) (by omega)
  cases e
  have hx : b[q + i]? = some (b[q + i]'(by omega)) := List.getElem?_eq_getElem (by omega)
  have hy : (b.drop q)[i]? = some (b[q + i]'(by omega)) := by rw [List.getElem?_drop, hx]
  rw [Nat.add_assoc, hc (q + i) (by omega), Px.rowF_at hx, Px.rowF_at hy]
namespace Px
theorem getF_at {b : B} {q : Nat} {out : List Pr} (h : b ≠ []) : getF b q out = if out.length = 64 then ([], q, 3) else if (oneF b).2.2 ≠ 0 then ([], q, (oneF b).2.2) else if behind (out.getLast?.map (·.1)) (oneF b).1.1 = false then ([], q, 92) else if (oneF b).2.1 = 0 then ([], q, 90) else getF (b.drop (oneF b).2.1) (q + (oneF b).2.1) (out ++ [(oneF b).1]) := by
  rw [getF, dif_neg h]
theorem one_er (b : B) : (oneF b).2.2 ≤ 100 := by
  unfold oneF
  dsimp only
  split
  · exact (by decide : (90 : Nat) ≤ 100)
  · split
    · exact (by decide : (90 : Nat) ≤ 100)
    · split
      · rename_i h
        have := fits_vals (((b.take ((longF b).1 - 1)).drop ((longF b).2 + 1)).takeWhile (fun c => c != 61), ((b.take ((longF b).1 - 1)).drop ((longF b).2 + 1)).drop ((((b.take ((longF b).1 - 1)).drop ((longF b).2 + 1)).takeWhile (fun c => c != 61)).length + 1))
        dsimp only
        omega
      · split
        · exact (by decide : (90 : Nat) ≤ 100)
        · exact (by decide : (0 : Nat) ≤ 100)
end Px
/-- what Get answers -/
def GetEnds (base : Nat) (b : Px.B) (e : Ending) (w' : World) : Prop :=
  ((Px.getF b 0 []).2.2 ≠ 0 ∧ e = .returned (.tuple #[.slice none 0 0, .int .i64 ((Px.getF b 0 []).2.1 : Int), .int .i64 ((Px.getF b 0 []).2.2 : Int)])) ∨
  ((Px.getF b 0 []).2.2 = 0 ∧ ∃ v, e = .returned (.tuple #[v, .int .i64 0, .int .i64 0]) ∧ w'.ownsRow base 23 2 v (Px.getF b 0 []).1.length (Px.cellsPr (Px.getF b 0 []).1))
theorem get_ends_bad {base : Nat} {b : Px.B} {i er : Nat} {w' : World} (h : Px.getF b 0 [] = ([], i, er)) (he : er ≠ 0) : GetEnds base b (.returned (.tuple #[.slice none 0 0, .int .i64 (i : Int), .int .i64 (er : Int)])) w' := .inl ⟨by rw [h]; exact he, by rw [h]⟩
theorem get_ends_ok {base : Nat} {b : Px.B} {out : List Px.Pr} {v : Value} {w' : World} (h : Px.getF b 0 [] = (out, 0, 0)) (ho : w'.ownsRow base 23 2 v out.length (Px.cellsPr out)) : GetEnds base b (.returned (.tuple #[v, .int .i64 0, .int .i64 0])) w' := .inr ⟨by rw [h], v, rfl, by rw [h]; exact ho⟩
set_option maxRecDepth 100000 in
set_option maxHeartbeats 1000000 in
theorem rget_any (A : Option Addr) (cap : Nat) (b : Px.B) (hn : b.length ≤ 140737488355328) (hcap : b.length ≤ cap) (w : World) (ha : RowAt w A b.length (Px.rowF b)) :
    Calls Tryd.prog 18 #[.slice A b.length cap] w fun e w' => GetEnds w.heap.size b e w' ∧ Bw w w' := by
  have HA : Hid (RowAt w A b.length (Px.rowF b)) := ha
  obtain ⟨n, hnn⟩ : ∃ n, Hid (b.length = n) := ⟨_, rfl⟩
  have HRone : Hid (∀ (A' : Option Addr) (cap' q : Nat) (u : World), RowAt u A' (b.drop q).length (Px.rowF (b.drop q)) → n - q ≤ cap' → Calls Tryd.prog 34 #[.slice A' (n - q) cap'] u fun e w' => OneEnds (b.drop q) e ∧ Bw u w') := fun A' cap' q u h hc => by
    have := rone_any A' cap' (b.drop q) (by rw [List.length_drop]; omega) (by rw [List.length_drop, hnn.out]; exact hc) u h
    rw [List.length_drop, hnn.out] at this
    exact this
  rw [hnn.out] at hn hcap ⊢
  clear ha
  obtain ⟨i0, hi0, hz0, hz1, hz2⟩ := info_parts info_pair
  go_enter Tryd.func18, Tryd.ntmps18
  go_wp2
  go_loopw [5, 6] (fun v i wr => ∃ (q : Nat) (out : List Px.Pr), q ≤ n ∧ i = .int .i64 (q : Int) ∧ Hid (Px.getF b 0 [] = Px.getF (b.drop q) q out) ∧ out.length ≤ 64 ∧ wr.ownsRow w.heap.size 23 2 v out.length (Px.cellsPr out) ∧ Bw w wr) (fun _ i _ => n - (intOf i).toNat)
  case atStart => exact ⟨0, [], Nat.zero_le _, rfl, by show _ = _; rfl, by simp, World.ownsRow_nil _ _ _ _, Bw.refl _⟩
  case round =>
    obtain ⟨q, out, hq, rfl, hst, ho64, hown, hbw⟩ := hrel
    have q0 : (0 : Int) ≤ (q : Int) := Int.natCast_nonneg _
    have szr := hbw.size
    obtain ⟨O, capO, rfl, hcO, hprs, hnil⟩ := prs_of_own hown
    by_cases hlt : q < n
    · have q1 : (q : Int) < (n : Int) := by omega
      have hne : Hid (b.drop q ≠ []) := by
        intro h
        have := congrArg List.length h
        rw [List.length_drop, hnn.out] at this
        simp at this; omega
      have hstep := hst.out.trans (Px.getF_at hne.out)
      obtain ⟨m, hm⟩ : ∃ m, Hid (out.length = m) := ⟨_, rfl⟩
      rw [hm.out] at hstep ho64 hown hcO ⊢
      by_cases h64 : m = 64
      · have hE : Hid (∀ w', GetEnds w.heap.size b (.returned (.tuple #[.slice none 0 0, .int .i64 (q : Int), .int .i64 3])) w') := fun w' => by
          rw [if_pos h64] at hstep
          exact get_ends_bad (er := 3) hstep (by simp)
        have e64 : ((m : Int) == 64) = true := by rw [beq_iff_eq]; omega
        clear hstep h64
        go_wp2
        refine bodyPost_ret (results_tmp3 rfl _ _ _) rfl ?_
        exact ⟨hE.out _, hbw⟩
      · have e64 : ((m : Int) == 64) = false := by rw [beq_eq_false_iff_ne]; omega
        rw [if_neg h64] at hstep
        obtain ⟨B, off, rfl, hcell⟩ := HA.out.at (k := 0) (by rw [hnn.out]; omega)
        have hcq : ¬ cap = q := by omega
        obtain ⟨p, N, er, hO⟩ : ∃ p N er, Hid (Px.oneF (b.drop q) = (p, N, er)) := ⟨_, _, _, show Px.oneF (b.drop q) = _ from rfl⟩
        rw [hO.out] at hstep
        dsimp only at hstep
        have herb : er ≤ 100 := by have := Px.one_er (b.drop q); rw [hO.out] at this; exact this
        have hm64 : m < 64 := by omega
        clear hcell h64
        by_cases h0 : er = 0
        · subst h0
          rw [if_neg (by simp)] at hstep
          obtain ⟨hf0, hNp, htk, hNl⟩ := Px.one_ok hO.out
          have hN4 : 4 ≤ N := by rw [hNp]; exact Px.psize_pos p
          clear hf0 hNp htk
          have hNq : q + N ≤ n := by rw [List.length_drop, hnn.out] at hNl; omega
          have HPR : Hid (∀ W, Bw wr W → PrsAt W O out) := fun W h => hprs.keep h
          have hown0 := fun (W : World) (h : Bw wr W) => own_keep hown h
          have HOW : Hid _ := hown0
          clear hown0 hprs
          cases hbh : Px.behind (out.getLast?.map (·.1)) p.1 with
          | false =>
            have hE : Hid (∀ w', GetEnds w.heap.size b (.returned (.tuple #[.slice none 0 0, .int .i64 (q : Int), .int .i64 92])) w') := fun w' => by
              rw [if_pos hbh] at hstep
              exact get_ends_bad (er := 92) hstep (by simp)
            clear hstep
            have hmp : 0 < m := by
              rcases Nat.eq_zero_or_pos m with h | h
              · rw [h] at hm
                rw [List.eq_nil_of_length_eq_zero hm.out] at hbh
                cases hbh
              · exact h
            obtain ⟨r, rfl⟩ : ∃ r, m = r + 1 := ⟨m - 1, by omega⟩
            obtain ⟨p', hp'⟩ : ∃ p', Hid (out[r]? = some p') := ⟨_, List.getElem?_eq_getElem (by rw [hm.out]; omega)⟩
            have hls : Hid (Op.bytesLess (Nm.S p'.1).toList (Nm.S p.1).toList = false) := by
              show _ = _
              rw [List.getLast?_eq_getElem?, hm.out, Nat.add_sub_cancel, hp'.out] at hbh
              rw [Nm.toList_S, Nm.toList_S]
              exact hbh
            clear hbh
            go_wp2_with (go_at_call 34; refine (HRone.out _ _ q _ (rowat_drop (HA.out.keep hbw) q) (by omega)).mono ?_; rintro e w1 ⟨he, hw1⟩; unfold OneEnds at he; rw [hO.out] at he; dsimp only at he; subst he)
            have hbW : Bw wr (w1.alloc (.cells #[.string (Nm.S p.1), .string (Nm.S p.2)] 23)) := hw1.alloc hw1.size _
            have c1 : (w1.alloc (.cells #[.string (Nm.S p.1), .string (Nm.S p.2)] 23)).cell? ⟨w1.heap.size, 0, none⟩ = some (.string (Nm.S p.1)) := cell_of_row _ _ 0 _ _ _ (World.alloc_heap_new w1 _)
            have c2 : (w1.alloc (.cells #[.string (Nm.S p.1), .string (Nm.S p.2)] 23)).cell? ⟨w1.heap.size, 1, none⟩ = some (.string (Nm.S p.2)) := cell_of_row _ _ 1 _ _ _ (World.alloc_heap_new w1 _)
            obtain ⟨W, hW⟩ : ∃ W, W = (w1.alloc (.cells #[.string (Nm.S p.1), .string (Nm.S p.2)] 23)) := ⟨_, rfl⟩
            rw [← hW] at hbW c1 c2 ⊢
            clear hW
            obtain ⟨g, o, rfl, hcl⟩ := (HPR.out _ hbW).at (by rw [hm.out]; omega)
            obtain ⟨d1, d2⟩ := hcl r p' hp'.out
            clear hcl
            have hls2 := hls.out
            go_quiet (fail)
            go_wp2
            refine bodyPost_ret (results_tmp3 rfl _ _ _) rfl ?_
            exact ⟨hE.out _, hbw.trans (hbW.trans (Bw.drewN W nq))⟩
          | true =>
            rw [if_neg (by rw [hbh]; simp), if_neg (by omega)] at hstep
            have hst2 : Hid (Px.getF b 0 [] = Px.getF (b.drop (q + N)) (q + N) (out ++ [p])) := by show _ = _; rw [hstep, List.drop_drop]
            clear hstep
            by_cases hmp : 0 < m
            · obtain ⟨r, rfl⟩ : ∃ r, m = r + 1 := ⟨m - 1, by omega⟩
              obtain ⟨p', hp'⟩ : ∃ p', Hid (out[r]? = some p') := ⟨_, List.getElem?_eq_getElem (by rw [hm.out]; omega)⟩
              have hls : Hid (Op.bytesLess (Nm.S p'.1).toList (Nm.S p.1).toList = true) := by
                show _ = _
                rw [List.getLast?_eq_getElem?, hm.out, Nat.add_sub_cancel, hp'.out] at hbh
                rw [Nm.toList_S, Nm.toList_S]
                exact hbh
              clear hbh
              go_wp2_with (go_at_call 34; refine (HRone.out _ _ q _ (rowat_drop (HA.out.keep hbw) q) (by omega)).mono ?_; rintro e w1 ⟨he, hw1⟩; unfold OneEnds at he; rw [hO.out] at he; dsimp only at he; subst he)
              have hbW : Bw wr (w1.alloc (.cells #[.string (Nm.S p.1), .string (Nm.S p.2)] 23)) := hw1.alloc hw1.size _
              have c1 : (w1.alloc (.cells #[.string (Nm.S p.1), .string (Nm.S p.2)] 23)).cell? ⟨w1.heap.size, 0, none⟩ = some (.string (Nm.S p.1)) := cell_of_row _ _ 0 _ _ _ (World.alloc_heap_new w1 _)
              have c2 : (w1.alloc (.cells #[.string (Nm.S p.1), .string (Nm.S p.2)] 23)).cell? ⟨w1.heap.size, 1, none⟩ = some (.string (Nm.S p.2)) := cell_of_row _ _ 1 _ _ _ (World.alloc_heap_new w1 _)
              obtain ⟨W, hW⟩ : ∃ W, W = (w1.alloc (.cells #[.string (Nm.S p.1), .string (Nm.S p.2)] 23)) := ⟨_, rfl⟩
              rw [← hW] at hbW c1 c2 ⊢
              clear hW
              obtain ⟨g, o, rfl, hcl⟩ := (HPR.out _ hbW).at (by rw [hm.out]; omega)
              obtain ⟨d1, d2⟩ := hcl r p' hp'.out
              clear hcl
              have hls2 := hls.out
              go_quiet (fail)
              obtain ⟨V, hV⟩ : ∃ V, V = W.drewN nq := ⟨_, rfl⟩
              have hbV : Bw wr V := by rw [hV]; exact hbW.trans (Bw.drewN W nq)
              have v1 : V.cell? ⟨w1.heap.size, 0, none⟩ = some (.string (Nm.S p.1)) := by rw [hV]; exact ((Bw.drewN W nq).cell (p := ⟨w1.heap.size, 0, none⟩) (block_lt_of_cell c1)).trans c1
              have v2 : V.cell? ⟨w1.heap.size, 1, none⟩ = some (.string (Nm.S p.2)) := by rw [hV]; exact ((Bw.drewN W nq).cell (p := ⟨w1.heap.size, 1, none⟩) (block_lt_of_cell c2)).trans c2
              rw [← hV]
              clear hV
              clear d1 d2
              go_wp2_with (at_builtin; refine wpList_append_lies _ (by rfl) (.tmp 47) (.tmp 49) _ (by rfl) w.heap.size 23 i0 _ 2 32 Tryd.underlying33 hi0 hz0 hz1 hz2 rfl (by omega) _ _ _ (by rfl) ((HOW.out V hbV).alloc _) ⟨V.heap.size, 0, none⟩ 1 1 [_, _] (by rfl) (by rfl) (World.news_of_block (cs := #[_, _]) (t := 23) (fr := (0, 0)) (heap_alloc_new V _)) (by simp [Value.oneCell']) (by omega) (by unfold maxLen; omega) (by omega) (by have := hbV.size; simp; omega) (V.heap.size + 1) (by simp) ?_; intro g4 c4 w4 hown4 hgrow4 hat4 hlt4)
              have hb4 : Bw w w4 := bw_grow hgrow4 ((hbw.trans hbV).alloc (Nat.le_trans szr hbV.size) _) (by have := hbV.size; rw [size_alloc]; omega) ((HOW.out V hbV).alloc _)
              have hown5 : w4.ownsRow w.heap.size 23 2 (.slice (some ⟨g4, 0, none⟩) (r + 1 + 1) c4) (out ++ [p]).length (Px.cellsPr (out ++ [p])) := by
                rw [List.length_append, hm.out, Px.cellsPr_append]; exact hown4
              go_wp2
              go_roundw
              case rel => exact ⟨q + N, out ++ [p], hNq, by go_num, hst2, by rw [List.length_append, hm.out]; simp; omega, hown5, hb4⟩
              case measure => simp [intOf]; omega
            · have kz : ¬ (0 < m) := hmp
              have kz2 : (0 < m) = False := by simp; omega
              clear hbh hmp
              go_wp2_with (go_at_call 34; refine (HRone.out _ _ q _ (rowat_drop (HA.out.keep hbw) q) (by omega)).mono ?_; rintro e w1 ⟨he, hw1⟩; unfold OneEnds at he; rw [hO.out] at he; dsimp only at he; subst he)
              have hbW : Bw wr (w1.alloc (.cells #[.string (Nm.S p.1), .string (Nm.S p.2)] 23)) := hw1.alloc hw1.size _
              have c1 : (w1.alloc (.cells #[.string (Nm.S p.1), .string (Nm.S p.2)] 23)).cell? ⟨w1.heap.size, 0, none⟩ = some (.string (Nm.S p.1)) := cell_of_row _ _ 0 _ _ _ (World.alloc_heap_new w1 _)
              have c2 : (w1.alloc (.cells #[.string (Nm.S p.1), .string (Nm.S p.2)] 23)).cell? ⟨w1.heap.size, 1, none⟩ = some (.string (Nm.S p.2)) := cell_of_row _ _ 1 _ _ _ (World.alloc_heap_new w1 _)
              obtain ⟨W, hW⟩ : ∃ W, W = (w1.alloc (.cells #[.string (Nm.S p.1), .string (Nm.S p.2)] 23)) := ⟨_, rfl⟩
              rw [← hW] at hbW c1 c2 ⊢
              clear hW
              go_quiet (fail)
              obtain ⟨V, hV⟩ : ∃ V, V = W.drewN nq := ⟨_, rfl⟩
              have hbV : Bw wr V := by rw [hV]; exact hbW.trans (Bw.drewN W nq)
              have v1 : V.cell? ⟨w1.heap.size, 0, none⟩ = some (.string (Nm.S p.1)) := by rw [hV]; exact ((Bw.drewN W nq).cell (p := ⟨w1.heap.size, 0, none⟩) (block_lt_of_cell c1)).trans c1
              have v2 : V.cell? ⟨w1.heap.size, 1, none⟩ = some (.string (Nm.S p.2)) := by rw [hV]; exact ((Bw.drewN W nq).cell (p := ⟨w1.heap.size, 1, none⟩) (block_lt_of_cell c2)).trans c2
              rw [← hV]
              clear hV
              go_wp2_with (at_builtin; refine wpList_append_lies _ (by rfl) (.tmp 47) (.tmp 49) _ (by rfl) w.heap.size 23 i0 _ 2 32 Tryd.underlying33 hi0 hz0 hz1 hz2 rfl (by omega) _ _ _ (by rfl) ((HOW.out V hbV).alloc _) ⟨V.heap.size, 0, none⟩ 1 1 [_, _] (by rfl) (by rfl) (World.news_of_block (cs := #[_, _]) (t := 23) (fr := (0, 0)) (heap_alloc_new V _)) (by simp [Value.oneCell']) (by omega) (by unfold maxLen; omega) (by omega) (by have := hbV.size; simp; omega) (V.heap.size + 1) (by simp) ?_; intro g4 c4 w4 hown4 hgrow4 hat4 hlt4)
              have hb4 : Bw w w4 := bw_grow hgrow4 ((hbw.trans hbV).alloc (Nat.le_trans szr hbV.size) _) (by have := hbV.size; rw [size_alloc]; omega) ((HOW.out V hbV).alloc _)
              have hown5 : w4.ownsRow w.heap.size 23 2 (.slice (some ⟨g4, 0, none⟩) (m + 1) c4) (out ++ [p]).length (Px.cellsPr (out ++ [p])) := by
                rw [List.length_append, hm.out, Px.cellsPr_append]; exact hown4
              go_wp2
              go_roundw
              case rel => exact ⟨q + N, out ++ [p], hNq, by go_num, hst2, by rw [List.length_append, hm.out]; simp; omega, hown5, hb4⟩
              case measure => simp [intOf]; omega
        · have hE : Hid (∀ w', GetEnds w.heap.size b (.returned (.tuple #[.slice none 0 0, .int .i64 (q : Int), .int .i64 (er : Int)])) w') := fun w' => by
            rw [if_pos h0] at hstep
            exact get_ends_bad hstep h0
          have e1 : ((er : Int) != 0) = true := by rw [bne_iff_ne]; omega
          clear hstep
          go_wp2_with (go_at_call 34; refine (HRone.out _ _ q _ (rowat_drop (HA.out.keep hbw) q) (by omega)).mono ?_; rintro e w1 ⟨he, hw1⟩; unfold OneEnds at he; rw [hO.out] at he; dsimp only at he; subst he)
          refine bodyPost_ret (results_tmp3 rfl _ _ _) rfl ?_
          exact ⟨hE.out _, (hbw.trans hw1).alloc (Nat.le_trans szr hw1.size) _⟩
    · have eq' : q = n := by omega
      have hfin : Hid (Px.getF b 0 [] = (out, 0, 0)) := by
        show _ = _
        rw [hst.out, List.drop_of_length_le (by rw [hnn.out]; omega), Px.getF, dif_pos rfl]
      subst eq'
      go_wp2
      refine bodyPost_ret (results_tmp3 rfl _ _ _) rfl ?_
      exact ⟨get_ends_ok hfin.out hown, hbw⟩
end Go.Proofs.YtmbabfelnieagaaDoor
