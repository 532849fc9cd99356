/- The program's own copied and checked, of layer 11, as landed at 97b3c5cd (written by mku9.py). -/
import Derived.Test.YtjifdoneejofiabY5
import Derived.Test.YtjifdoneejofiabU7
import Derived.Laws.OwnMore
import Derived.OneCell
namespace Go.Proofs.Ytjifdoneejofiab
open Go.RowKit Go.Deep
set_option linter.unusedVariables false
set_option linter.unusedSimpArgs false

/-- a list of items of a call's own, each Body too -/
structure OwnIts (base : Nat) (w : World) (v : Value) (M : List Tr.Iv) : Prop where
  row : w.ownsRow base 26 6 v M.length (Tr.cellsI M)
  body : ∀ y ∈ M, w.ownsRow base 5 1 (.slice y.ad y.it.body.length y.cp) y.it.body.length (cellsU (Tr.rowF y.it.body) y.it.body.length)
  fit : ∀ y ∈ M, Tr.Fit y.it
theorem body_of_own {w : World} {base : Nat} {y : Tr.Iv} (h : w.ownsRow base 5 1 (.slice y.ad y.it.body.length y.cp) y.it.body.length (cellsU (Tr.rowF y.it.body) y.it.body.length)) (hf : Tr.Fit y.it) : BodyAt w y := by
  rcases h.2 with ⟨h0, h1⟩ | ⟨g, cap, cur, hv, hb, hg, h1, h2, h3, h4⟩
  · injection h0 with e1 e2 e3
    exact ⟨⟨.inl h1, Tr.rowF_bd _⟩, by omega, fun _ => e3, hf⟩
  · injection hv with e1 e2 e3
    subst e3
    refine ⟨⟨.inr ⟨g, 0, e1, fun i hi => ?_⟩, Tr.rowF_bd _⟩, h1, (fun e => by rw [e1] at e; cases e), hf⟩
    have e : cur[i]? = (cellsU (Tr.rowF y.it.body) y.it.body.length)[i]? := by
      rw [← h4, List.getElem?_take, if_pos (by omega), Array.getElem?_toList]
    rw [Nat.zero_add, cell_of_row w g i cur _ _ hg, e]
    unfold cellsU
    rw [List.getElem?_map, List.getElem?_range hi]; rfl
theorem OwnIts.its {base : Nat} {w : World} {v : Value} {M : List Tr.Iv} (h : OwnIts base w v M) : ∃ A cap, v = .slice A M.length cap ∧ M.length ≤ cap ∧ ItsAt w A M ∧ (A = none → cap = 0 ∧ M = []) ∧ (∀ a, A = some a → a = ⟨a.block, 0, none⟩ ∧ base ≤ a.block) :=
  its_of_own h.row (fun y hy => body_of_own (h.body y hy) (h.fit y hy))
theorem OwnIts.keep {base : Nat} {w w' : World} {v : Value} {M : List Tr.Iv} (h : OwnIts base w v M) (k : Bw w w') : OwnIts base w' v M := ⟨own_keep h.row k, fun y hy => own_keep (h.body y hy) k, h.fit⟩
theorem OwnIts.lower {base b' : Nat} {w : World} {v : Value} {M : List Tr.Iv} (h : OwnIts base w v M) (hb : b' ≤ base) : OwnIts b' w v M := ⟨own_lower11 h.row hb, fun y hy => own_lower11 (h.body y hy) hb, h.fit⟩
theorem own_form11 {W : World} {base n : Nat} {e : TypeId} {s : Nat} {v : Value} {xs : List Value} (h : W.ownsRow base e s v n xs) : ∃ A c, v = .slice A n c := by
  rcases h.2 with ⟨h0, h1⟩ | ⟨g, cap, cur, hv, _⟩
  · exact ⟨none, 0, by rw [h0, h1]⟩
  · exact ⟨_, cap, hv⟩
namespace Tr
theorem cells_set : ∀ (M : List Iv) (i : Nat) (y : Iv) (A : Option Addr) (c : Nat), M[i]? = some y → (cellsI M).set (i * 6 + 4) (.slice A y.it.body.length c) = cellsI (M.set i ⟨y.it, A, c⟩)
  | [], i, y, A, c, h => by simp at h
  | z :: M, 0, y, A, c, h => by
    obtain rfl : z = y := by simpa using h
    rfl
  | z :: M, i + 1, y, A, c, h => by
    have := cells_set M i y A c (by simpa using h)
    unfold cellsI
    rw [List.set_cons_succ]
    show (z.vals ++ cellsI M).set ((i + 1) * 6 + 4) _ = z.vals ++ cellsI (M.set i _)
    rw [← this, List.set_append_right _ _ (by rw [vals_len]; omega), vals_len, show (i + 1) * 6 + 4 - 6 = i * 6 + 4 by omega]
theorem its_set {M : List Iv} {i : Nat} {y : Iv} (h : M[i]? = some y) (A : Option Addr) (c : Nat) : its (M.set i ⟨y.it, A, c⟩) = its M := by
  unfold its
  apply List.ext_getElem?
  intro j
  rw [List.getElem?_map, List.getElem?_map, List.getElem?_set]
  by_cases e : i = j
  · subst e
    rw [if_pos rfl, if_pos (List.getElem?_eq_some_iff.1 h).1, h]; rfl
  · rw [if_neg e]
end Tr
/-- an answer that is a list of a call's own -/
def CopyEnds (base : Nat) (t : List Tr.It) (e : Ending) (w' : World) : Prop := ∃ v M, e = .returned v ∧ Tr.its M = t ∧ OwnIts base w' v M
set_option maxRecDepth 100000 in
set_option maxHeartbeats 4000000 in
theorem copied_any (A : Option Addr) (cap : Nat) (L : List Tr.Iv) (hn : L.length * 80 ≤ 140737488355328) (hC : A = none → L.length = 0 ∧ cap = 0) (w : World) (ha : ItsAt w A L) :
    Calls Try.prog 37 #[.slice A L.length cap] w fun e w' => CopyEnds w.heap.size (Tr.its L) e w' ∧ Bw w w' := by
  obtain ⟨n, hnn⟩ : ∃ n, Hid (L.length = n) := ⟨_, rfl⟩
  have HC : Hid (A = none → n = 0 ∧ cap = 0) := fun e => by rw [← hnn.out]; exact hC e
  rw [hnn.out] at hn ⊢
  have HA : Hid (ItsAt w A L) := ha
  clear ha hC
  obtain ⟨i0, hi0, hz0, hz1, hz2⟩ := info_parts info_u8
  obtain ⟨j0, hj0, hy0, hy1, hy2⟩ := info_parts info_item
  obtain ⟨H, hH⟩ : ∃ H, Hid (w.heap.size = H) := ⟨_, rfl⟩
  rw [hH.out]
  go_enter Try.func37, Try.ntmps37
  go_upto_region 2 with (at_builtin; refine wpList_append_its _ (by rfl) (.const (.slice none 0 0)) (.tmp 5) _ (by rfl) H 26 j0 _ 80 Try.underlying22 hj0 hy0 hy1 hy2 rfl _ _ _ (by rfl) (World.ownsRow_nil w _ _ _) A cap L n hnn.out (by rfl) HA.out HC.out (by unfold maxLen; omega) (by omega) (by rw [← hH.out]; exact Nat.le_refl _) ?_; intro v1 w1 hown1 hgrow1; simp only [Nat.zero_add, List.nil_append] at hown1)
  have hb1 : Bw w w1 := (Below.refl _ _).grown hgrow1 (Nat.le_refl _) (fun k hk => by simp [Value.ownBlock] at hk)
  have how := hown1.2
  rcases how with ⟨rfl, hn0⟩ | ⟨g, c1, cur1, rfl, hg, hh1, hle1, -, -, -⟩
  · subst hn0
    have hL : L = [] := List.eq_nil_of_length_eq_zero hnn.out
    have HL : Hid (L = []) := hL
    clear hL hown1
    go_wp2
    go_loop [9] (fun i => i = .int .i64 0) (fun i => 0)
    case atStart => rfl
    case round =>
      obtain rfl := hrel
      go_wp2
      go_ret
      exact ⟨⟨_, [], rfl, by rw [HL.out], ⟨World.ownsRow_nil _ _ _ _, fun y hy => by simp at hy, fun y hy => by simp at hy⟩⟩, hb1⟩
  · have HO1 : Hid (w1.ownsRow H 26 6 (.slice (some ⟨g, 0, none⟩) n c1) n (Tr.cellsI L)) := hown1
    have hgw : w.heap.size ≤ g := by rw [hH.out]; exact hg
    clear hown1 hgrow1 hh1
    go_wp2
    go_loopw [9] (fun i wr => ∃ (k : Nat) (M : List Tr.Iv), k ≤ n ∧ i = .int .i64 (k : Int) ∧ Hid (Tr.its M = Tr.its L) ∧ Hid (wr.ownsRow H 26 6 (.slice (some ⟨g, 0, none⟩) n c1) n (Tr.cellsI M)) ∧ Hid (∀ (j : Nat) (y : Tr.Iv), j < k → M[j]? = some y → wr.ownsRow H 5 1 (.slice y.ad y.it.body.length y.cp) y.it.body.length (cellsU (Tr.rowF y.it.body) y.it.body.length)) ∧ Hid (∀ j, k ≤ j → M[j]? = L[j]?) ∧ Bw w wr) (fun i _ => n - (intOf i).toNat)
    case atStart => exact ⟨0, L, Nat.zero_le _, rfl, (by show _ = _; rfl), HO1.out, (fun j y hj => absurd hj (Nat.not_lt_zero _)), (fun j _ => rfl), hb1⟩
    case round =>
      obtain ⟨i, M, hi, rfl, hM, hown, hbod, hold, hbw⟩ := hrel
      have i0' : (0 : Int) ≤ (i : Int) := Int.natCast_nonneg _
      have HML : Hid (M.length = n) := by have := congrArg List.length hM.out; rw [Tr.its_len, Tr.its_len, hnn.out] at this; exact this
      by_cases hlt : i < n
      · have i1 : (i : Int) < (n : Int) := by omega
        obtain ⟨y, hy⟩ : ∃ y, Hid (L[i]? = some y) := ⟨_, List.getElem?_eq_getElem (by rw [hnn.out]; exact hlt)⟩
        have HMy : Hid (M[i]? = some y) := (hold.out i (Nat.le_refl _)).trans hy.out
        have HB : Hid (BodyAt wr y) := (HA.out.keep hbw).body y (List.mem_of_getElem? hy.out)
        have hfb := HB.out.fit.body
        obtain ⟨q, hq⟩ : ∃ q, Hid (y.it.body.length = q) := ⟨_, rfl⟩
        rw [hq.out] at hfb
        have ho2 := hown.out.2
        rcases ho2 with ⟨e1, -⟩ | ⟨g', c', cur, e1, -, hh, -, -, -, htk⟩
        · cases e1
        injection e1 with e2 e3 e4
        injection e2 with e5
        injection e5 with e6
        subst e6
        have hcx : wr.cell? ⟨g, i * 6 + 4, none⟩ = some (.slice y.ad q y.cp) := by
          have e : cur[i * 6 + 4]? = (Tr.cellsI M)[i * 6 + 4]? := by
            rw [← htk, List.getElem?_take, if_pos (by omega), Array.getElem?_toList]
          rw [cell_of_row wr g _ cur _ _ hh, e, Tr.cellsI_get M i y 4 HMy.out (by omega), ← hq.out]; rfl
        have hfx : wr.frozen? ⟨g, i * 6 + 4, none⟩ = false := frozen_of_row wr g _ _ _ hh
        have HOW : Hid (wr.ownsRow H 26 6 (.slice (some ⟨g, 0, none⟩) n c1) n (Tr.cellsI M)) := hown.out
        have hHw : H ≤ wr.heap.size := by rw [← hH.out]; exact hbw.size
        clear hh htk e3 e4
        have cg := block_lt_of_cell hcx
        go_wp2_with (at_builtin; refine wpList_append_rowat _ (by rfl) (.const (.slice none 0 0)) (.tmp 18) _ (by rfl) H 5 i0 _ 1 Try.underlying24 hi0 hz0 hz1 hz2 rfl _ _ _ (by rfl) (World.ownsRow_nil wr _ _ _) y.ad q y.cp (Tr.rowF y.it.body) (by rfl) (by rw [← hq.out]; exact HB.out.row) HB.out.nil (by unfold maxLen; omega) (by omega) hHw ?_; intro v2 w2 hown2 hgrow2; simp only [Nat.zero_add, List.nil_append] at hown2; have bw2 : Bw wr w2 := (Below.refl _ _).grown hgrow2 (Nat.le_refl _) (fun k hk => by simp [Value.ownBlock] at hk); have hcx2 := keep_cell11 hcx bw2; have hfx2 : w2.frozen? ⟨g, i * 6 + 4, none⟩ = false := (by have hb := bw2.block g cg; unfold World.frozen? at hfx ⊢; rw [hb]; exact hfx); clear hcx hfx; obtain ⟨A2, c2, hv2⟩ := own_form11 hown2; subst hv2)
        go_roundw
        case rel =>
          have hap := own_apart8 hown2 (own_keep HOW.out bw2) (by decide)
          have hst := (own_keep HOW.out bw2).stored (i * 6 + 4) (.slice A2 q c2)
          refine ⟨i + 1, M.set i ⟨y.it, A2, c2⟩, by omega, by go_num, (Tr.its_set HMy.out _ _).trans hM.out, ?_, ?_, ?_, ?_⟩
          · show World.ownsRow _ _ _ _ _ _ _
            have e := Tr.cells_set M i y A2 c2 HMy.out
            rw [hq.out] at e
            rw [← e]; exact hst.1
          · intro j z hj hz
            rw [List.getElem?_set] at hz
            by_cases e : i = j
            · subst e
              rw [if_pos rfl, if_pos (by rw [HML.out]; exact hlt)] at hz
              obtain rfl := (Option.some.inj hz).symm
              show (w2.setCell _ _).ownsRow _ _ _ (.slice A2 y.it.body.length c2) y.it.body.length _
              rw [hq.out]
              refine ownsRow_setCell_other hown2 (fun e => ?_) _
              rcases hap with h | h
              · rw [h] at e; cases e
              · exact h e
            · rw [if_neg e] at hz
              refine ownsRow_setCell_other (own_keep (hbod.out j z (by omega) hz) bw2) (fun e => ?_) _
              have hap2 := own_apart8 (own_keep (hbod.out j z (by omega) hz) bw2) (own_keep HOW.out bw2) (by decide)
              rcases hap2 with h | h
              · rw [h] at e; cases e
              · exact h e
          · intro j hj
            rw [List.getElem?_set, if_neg (by omega)]
            exact hold.out j (by omega)
          · exact (hbw.trans bw2).put hgw _ _
        case measure => simp [intOf]; omega
      · have ei : i = n := by omega
        subst ei
        go_wp2
        go_ret
        exact ⟨⟨_, M, rfl, hM.out, ⟨by rw [HML.out]; exact hown.out, fun y hy => by
          obtain ⟨j, hj⟩ := List.getElem?_of_mem hy
          exact hbod.out j y (by have := (List.getElem?_eq_some_iff.1 hj).1; rw [HML.out] at this; exact this) hj, fun y hy => by
          obtain ⟨j, hj⟩ := List.getElem?_of_mem hy
          have h1 := Tr.its_at hj
          rw [hM.out] at h1
          obtain ⟨z, hz, e⟩ := Tr.its_of h1
          rw [← e]; exact (HA.out.body z (List.mem_of_getElem? hz)).fit⟩⟩, hbw⟩
/-- what checked, With and Without answer -/
def ListEnds (base : Nat) (t : List Tr.It) (er : Int) (e : Ending) (w' : World) : Prop :=
  (er ≠ 0 → e = .returned (.tuple #[.slice none 0 0, .int .i64 er])) ∧ (er = 0 → ∃ v M, e = .returned (.tuple #[v, .int .i64 0]) ∧ Tr.its M = t ∧ OwnIts base w' v M)
set_option maxRecDepth 100000 in
set_option maxHeartbeats 1000000 in
theorem checked_any (A : Option Addr) (cap : Nat) (L : List Tr.Iv) (hn : L.length * 80 ≤ 140737488355328) (hcap : L.length ≤ cap) (hC : A = none → L.length = 0 ∧ cap = 0) (w : World) (ha : ItsAt w A L) :
    Calls Try.prog 29 #[.slice A L.length cap] w fun e w' => ListEnds w.heap.size (Tr.its L) (Tr.chkE (Tr.its L)).2 e w' ∧ Bw w w' := by
  obtain ⟨cA, cE, hR⟩ : ∃ a b, Hid (Tr.chkE (Tr.its L) = (a, b)) := ⟨_, _, show Tr.chkE (Tr.its L) = _ from rfl⟩
  have HCh : Hid (∀ u, Bw w u → Calls Try.prog 9 #[.slice A L.length cap] u fun e w' => e = .returned (.tuple #[.int .i64 (cA : Int), .int .i64 cE]) ∧ Bw u w') := fun u hu => by
    have := tcheck_any A cap L (by omega) hcap u (ha.keep hu)
    rwa [hR.out] at this
  have HCo : Hid (∀ u, Bw w u → Calls Try.prog 37 #[.slice A L.length cap] u fun e w' => CopyEnds u.heap.size (Tr.its L) e w' ∧ Bw u w') := fun u hu => copied_any A cap L hn hC u (ha.keep hu)
  rw [hR.out]
  dsimp only
  obtain ⟨n, hnn⟩ : ∃ n, Hid (L.length = n) := ⟨_, rfl⟩
  rw [hnn.out] at HCh HCo ⊢
  clear ha hn hcap hC
  by_cases h : cE = 0
  · subst h
    go_enter Try.func29, Try.ntmps29
    go_wp2_with (first
      | (go_at_call 9; refine (HCh.out _ (Bw.refl _)).mono ?_; rintro e w1 ⟨rfl, hw1⟩)
      | (go_at_call 37; refine (HCo.out _ hw1).mono ?_; rintro e w2 ⟨⟨v2, M2, rfl, hm2, ho2⟩, hw2⟩))
    go_ret2
    exact ⟨⟨fun e => absurd rfl e, fun _ => ⟨v2, M2, rfl, hm2, ho2.lower hw1.size⟩⟩, hw1.trans hw2⟩
  · have HE : Hid (cE ≠ 0) := h
    have q1 := Tr.i_no h
    clear h
    go_enter Try.func29, Try.ntmps29
    go_wp2_with (go_at_call 9; refine (HCh.out _ (Bw.refl _)).mono ?_; rintro e w1 ⟨rfl, hw1⟩)
    go_ret2
    exact ⟨⟨fun _ => rfl, fun e => absurd e HE.out⟩, hw1⟩
end Go.Proofs.Ytjifdoneejofiab
