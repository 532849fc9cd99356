/- The document's own With, of layer 11. -/
import Derived.Test.YtjifdoneejofiaaYO
import Derived.Test.YtjifdoneejofiaaYC
import Derived.Test.YtjifdoneejofiaaYD
import Derived.Test.YtjifdoneejofiaaYN
namespace Go.Proofs.Ytjifdoneejofiaa
open Go.RowKit Go.Deep
set_option linter.unusedVariables false
set_option linter.unusedSimpArgs false

namespace Tr
theorem tw_facts {α : Type} (P : α → Bool) : ∀ t : List α, (∀ z ∈ t.take (t.takeWhile P).length, P z = true) ∧ (∀ z, t[(t.takeWhile P).length]? = some z → P z = false)
  | [] => ⟨fun z hz => by simp at hz, fun z hz => by simp at hz⟩
  | a :: t => by
    have ih := tw_facts P t
    rw [List.takeWhile_cons]
    by_cases h : P a = true
    · rw [if_pos h]
      refine ⟨fun z hz => ?_, fun z hz => ?_⟩
      · rw [List.length_cons, List.take_succ_cons] at hz
        rcases List.mem_cons.1 hz with e | e
        · rw [e]; exact h
        · exact ih.1 z e
      · rw [List.length_cons, List.getElem?_cons_succ] at hz
        exact ih.2 z hz
    · rw [if_neg h]
      refine ⟨fun z hz => by simp at hz, fun z hz => ?_⟩
      simp only [List.length_nil, List.getElem?_cons_zero, Option.some.injEq] at hz
      rw [← hz]; simpa using h
/-- what is put in stands in its place -/
theorem with_sorted {t : List It} (h : Ok t) (x : It) : (∀ z ∈ t.take (cnt t x.path), cmpT z x < 0) ∧ (∀ z ∈ t.drop (cnt t x.path + (if there t x.path then 1 else 0)), cmpT x z < 0) := by
  have hS := ok_srt h
  have hf := tw_facts (fun z : It => decide (Nm.cmp z.path x.path = -1)) t
  refine ⟨fun z hz => ?_, fun z hz => ?_⟩
  · have := of_decide_eq_true (hf.1 z hz)
    show Nm.cmp _ _ < 0
    omega
  · obtain ⟨j, hj⟩ := List.getElem?_of_mem hz
    rw [List.getElem?_drop] at hj
    obtain ⟨c, hc⟩ : ∃ c, cnt t x.path = c := ⟨_, rfl⟩
    have h2 : ∀ u, t[c]? = some u → Nm.cmp u.path x.path ≠ -1 := fun u hu => by
      have := hf.2 u (by rw [← hc] at hu; exact hu)
      exact of_decide_eq_false this
    rw [hc] at hj
    have hlt : c < t.length := by have := (List.getElem?_eq_some_iff.1 hj).1; omega
    obtain ⟨u, hu⟩ : ∃ u, t[c]? = some u := ⟨_, List.getElem?_eq_getElem hlt⟩
    have hr := (Nm.cmp_facts u.path x.path x.path)
    have hne := h2 u hu
    show Nm.cmp _ _ < 0
    by_cases hcj : c + (if there t x.path then 1 else 0) + j = c
    · rw [hcj, hu] at hj
      obtain rfl := Option.some.inj hj
      have hth : there t x.path = false := by
        cases e : there t x.path with
        | false => rfl
        | true => rw [e] at hcj; simp at hcj; omega
      unfold there at hth
      rw [hc, hu] at hth
      have hp : u.path ≠ x.path := of_decide_eq_false hth
      have h0 : Nm.cmp u.path x.path ≠ 0 := fun e => hp (hr.2.2.1.1 e)
      have := hr.2.1
      omega
    · have h3 := hS c _ u z (by omega) hu hj
      have h4 := (cmpT_ok).lt' (a := x) (b := u) (d := z) (by show Nm.cmp _ _ ≤ 0; have := hr.2.1; omega) (by show Nm.cmp _ _ < 0; omega)
      exact h4
theorem with_stable {t : List It} (h : Ok t) (x : It) : Ss.Stable cmpT (t.filter (ot x.path) ++ [x]) (withL t x) := by
  obtain ⟨h1, h2⟩ := with_sorted h x
  have hP := srt_pair (ok_srt h)
  have ne : ∀ z : It, (cmpT z x < 0 ∨ cmpT x z < 0) → ot x.path z = true := fun z hz => by
    refine decide_eq_true fun e => ?_
    have e1 := (Nm.cmp_facts z.path x.path x.path).2.2.1.2 e
    have e2 := (Nm.cmp_facts z.path x.path x.path).2.1
    rcases hz with hz | hz
    · have : Nm.cmp z.path x.path < 0 := hz; omega
    · have : Nm.cmp x.path z.path < 0 := hz; omega
  refine Ss.stable_self ?_ ?_
  · unfold withL
    rw [List.append_assoc]
    refine List.pairwise_append.2 ⟨hP.sublist (List.take_sublist _ _), List.pairwise_cons.2 ⟨fun z hz => h2 z hz, hP.sublist (List.drop_sublist _ _)⟩, fun a ha b hb => ?_⟩
    rcases List.mem_cons.1 hb with e | e
    · rw [e]; exact h1 a ha
    · exact cmpT_ok.lt a x b (h1 a ha) (Int.le_of_lt (h2 b e))
  · have hw := with_others t x
    have hx : ot x.path x = false := decide_eq_false (fun h => h rfl)
    unfold withL at hw ⊢
    rw [List.filter_append, List.filter_append, List.filter_eq_self.2 (fun z hz => ne z (.inl (h1 z hz))), List.filter_eq_self.2 (fun z hz => ne z (.inr (h2 z hz))), List.filter_cons, hx, if_neg (by simp), List.filter_nil, List.append_nil] at hw
    rw [← hw, List.append_assoc]
    refine List.perm_middle.trans ?_
    exact (List.perm_append_singleton _ _).symm
end Tr
set_option maxRecDepth 100000 in
set_option maxHeartbeats 8000000 in
theorem rwith_any (A : Option Addr) (cap : Nat) (L : List Tr.Iv) (y : Tr.Iv) (hn : (L.length + 1) * 80 ≤ 140737488355328) (hcap : L.length ≤ cap) (hp : y.it.path.length ≤ 1048576) (w : World) (ha : ItsAt w A L) (hy : BodyAt w y) :
    Calls Try.prog 24 #[.slice A L.length cap, .agg y.arr] w fun e w' => SayIts (Tr.withL (Tr.its L) y.it) (Tr.withE (Tr.its L) y.it) e w' ∧ Bw w w' := by
  unfold Tr.withE
  obtain ⟨cA, cE, hC⟩ : ∃ a b, Hid (Tr.chkE (Tr.its L) = (a, b)) := ⟨_, _, show Tr.chkE (Tr.its L) = _ from rfl⟩
  obtain ⟨dA, dE, hD⟩ : ∃ a b, Hid (Tr.chkE (Tr.withL (Tr.its L) y.it) = (a, b)) := ⟨_, _, show Tr.chkE (Tr.withL (Tr.its L) y.it) = _ from rfl⟩
  have HCh : Hid (∀ u, Bw w u → Calls Try.prog 11 #[.slice A L.length cap] u fun e w' => e = .returned (.tuple #[.int .i64 (cA : Int), .int .i64 cE]) ∧ Bw u w') := fun u hu => by
    have := rcheck11_any A cap L (by omega) hcap u (ha.keep hu)
    rwa [hC.out] at this
  obtain ⟨P, hP⟩ : ∃ P : Tr.It → Bool, Hid (P = Tr.ot y.it.path) := ⟨_, rfl⟩
  obtain ⟨TW, hTW⟩ : ∃ T, Hid (Tr.withL (Tr.its L) y.it = T) := ⟨_, rfl⟩
  have HSo : Hid (cE = 0 → ∀ u A1 c1 (S : List Tr.Iv), S = Tr.sel P L ++ [y] → ItsAt u A1 S → Calls Try.prog 20 #[.slice A1 S.length c1] u fun e w' => (∃ A' c' M, e = .returned (.slice A' M.length c') ∧ Tr.its M = TW ∧ M.length ≤ c' ∧ ItsAt w' A' M) ∧ Bw u w') := fun h0 u A1 c1 S hS hI => by
    have hok := (Tr.chk_zero (by rw [hC.out]; exact h0)).2
    have hsl := Tr.sel_len P L
    have hl : S.length = (Tr.sel P L).length + 1 := by rw [hS, List.length_append]; rfl
    refine (rsort_any A1 c1 S (by rw [hl]; omega) (fun z hz => ?_) u hI).mono fun e w' h => ⟨?_, h.2⟩
    · rw [hS] at hz
      rcases List.mem_append.1 hz with g | g
      · obtain ⟨j, hj⟩ := List.getElem?_of_mem (Tr.sel_mem g)
        have := (Tr.may_len (Tr.step_may (hok j z.it (Tr.its_at hj)))).1
        omega
      · rw [List.mem_singleton.1 g]; omega
    · obtain ⟨A', c', M, rfl, hst, hle, hI', -⟩ := h.1
      refine ⟨A', c', M, rfl, ?_, hle, hI'⟩
      rw [hS, Tr.its_append, Tr.its_sel, hP.out] at hst
      rw [← hTW.out]
      exact Ss.stable_one Tr.cmpT_ok hst (Tr.with_stable hok y.it)
  have HC2 : Hid (∀ u A1 c1 M, Tr.its M = TW → M.length ≤ c1 → ItsAt u A1 M → Calls Try.prog 11 #[.slice A1 M.length c1] u fun e w' => e = .returned (.tuple #[.int .i64 (dA : Int), .int .i64 dE]) ∧ Bw u w') := fun u A1 c1 M hm hle hI => by
    have hl : M.length ≤ L.length + 1 := by
      have h1 : M.length = TW.length := by rw [← hm, Tr.its_len]
      have h2 := Tr.with_len (Tr.its L) y.it
      rw [hTW.out, Tr.its_len] at h2
      rw [h1, h2]
      split <;> omega
    have := rcheck11_any A1 c1 M (by omega) hle u hI
    rw [hm] at this
    rw [hTW.out] at hD
    rwa [hD.out] at this
  rw [hC.out, hD.out, hTW.out]
  dsimp only
  obtain ⟨n, hnn⟩ : ∃ n, Hid (L.length = n) := ⟨_, rfl⟩
  rw [hnn.out] at hn hcap HCh ⊢
  have HA : Hid (ItsAt w A L) := ha
  obtain ⟨W, hW⟩ : ∃ W, W = w.alloc (.cells y.arr 26) := ⟨_, rfl⟩
  have hbW : Bw w W := by rw [hW]; exact bw_alloc11 (Bw.refl _) _
  have HX : Hid (BoxAt W w.heap.size y) := by rw [hW]; exact BoxAt.new _ _
  have HYB : Hid (BodyAt w y) := hy
  clear ha hy
  obtain ⟨j0, hj0, hy0, hy1, hy2⟩ := info_parts info_item
  by_cases h1 : cE = 0
  case neg =>
    have q1 := Tr.i_no h1
    rw [if_pos h1]
    have HE : Hid (cE ≠ 0) := h1
    clear h1
    go_enter Try.func24, Try.ntmps24
    go_upto_region 1 with fail
    rw [← hW]
    clear hW
    go_wp2_with (go_at_call 11; refine (HCh.out _ hbW).mono ?_; rintro e w1 ⟨rfl, hw1⟩)
    go_ret2
    exact ⟨⟨fun _ => rfl, fun e => absurd e HE.out⟩, hbW.trans hw1⟩
  subst h1
  rw [if_neg (by simp)]
  have HSo1 : Hid _ := HSo.out rfl
  clear HSo
  go_enter Try.func24, Try.ntmps24
  go_upto_region 1 with fail
  rw [← hW]
  clear hW
  obtain ⟨H, hH⟩ : ∃ H, Hid (W.heap.size = H) := ⟨_, rfl⟩
  go_wp2_with (go_at_call 11; refine (HCh.out _ hbW).mono ?_; rintro e w1 ⟨rfl, hw1⟩)
  go_loopw [8, 9] (fun v i wr => ∃ (k : Nat), k ≤ n ∧ i = .int .i64 (k : Int) ∧ Hid (wr.ownsRow H 26 6 v (Tr.sel P (L.take k)).length (Tr.cellsI (Tr.sel P (L.take k)))) ∧ Bw W wr) (fun _ i _ => n - (intOf i).toNat)
  case atStart => exact ⟨0, Nat.zero_le _, rfl, World.ownsRow_nil _ _ _ _, hw1⟩
  case round =>
    obtain ⟨i, hi, rfl, hown, hbw⟩ := hrel
    have i0' : (0 : Int) ≤ (i : Int) := Int.natCast_nonneg _
    have hbwr := hbW.trans hbw
    have hHw : H ≤ wr.heap.size := by rw [← hH.out]; exact hbw.size
    by_cases hlt : i < n
    · have i1 : (i : Int) < (n : Int) := by omega
      obtain ⟨z, hz⟩ : ∃ z, Hid (L[i]? = some z) := ⟨_, List.getElem?_eq_getElem (by rw [hnn.out]; exact hlt)⟩
      obtain ⟨b, off, rfl, hZ, hZB⟩ := (HA.out.keep hbwr).at hz.out
      have HZ : Hid (ItAt wr b (off + i * 6) z) := hZ
      have HB : Hid (BodyAt wr z) := hZB
      have c0 := hZ.c0
      clear hZ hZB
      obtain ⟨x0, -, -, -, -, -⟩ := (HX.out.keep hbw).cells
      have hsl : (Tr.sel P (L.take i)).length ≤ i := Nat.le_trans (Tr.sel_len _ _) (by rw [List.length_take]; omega)
      have hsn := Tr.sel_snoc P hz.out
      obtain ⟨m, hm⟩ : ∃ m, Hid ((Tr.sel P (L.take i)).length = m) := ⟨_, rfl⟩
      rw [hm.out] at hsl hown
      have es := Tr.S_eql z.it.path y.it.path
      by_cases hpp : z.it.path = y.it.path
      · rw [decide_eq_true hpp] at es
        have HSN : Hid (Tr.sel P (L.take (i + 1)) = Tr.sel P (L.take i)) := by show _ = _; rw [hsn, hP.out]; unfold Tr.ot; rw [decide_eq_false (show ¬ (z.it.path ≠ y.it.path) from fun h => h hpp), if_neg (by simp), List.append_nil]
        clear hsn hpp
        go_wp2_with fail
        go_quiet (fail)
        go_wp2
        go_roundw
        case rel => exact ⟨i + 1, by omega, by go_num, by rw [HSN.out, hm.out]; exact own_keep hown.out (Bw.drewN _ _), hbw.trans (Bw.drewN _ _)⟩
        case measure => simp [intOf]; omega
      · rw [decide_eq_false hpp] at es
        have HSN : Hid (Tr.sel P (L.take (i + 1)) = Tr.sel P (L.take i) ++ [z]) := by show _ = _; rw [hsn, hP.out]; unfold Tr.ot; rw [decide_eq_true (show z.it.path ≠ y.it.path from hpp), if_pos rfl]
        clear hsn hpp
        go_upto_region 8 with fail
        go_cut [31] from 24 to 31 (fun v wx => v = .bool true ∧ Bw wr wx)
        case first =>
          go_quiet (fail)
          go_wp2_with fail
          go_meet
          case rel => exact ⟨rfl, Bw.drewN _ _⟩
        case rest =>
          obtain ⟨rfl, hbc⟩ := hcut
          have HZ1 : Hid (ItAt wc b (off + i * 6) z) := HZ.out.keep hbc
          have hbw1 := hbw.trans hbc
          have HO1 : Hid _ := own_keep hown.out hbc
          obtain ⟨w5, hw5⟩ : ∃ V, V = wc.alloc (.cells z.arr 26) := ⟨_, rfl⟩
          have hb5 : Bw wc w5 := by rw [hw5]; exact bw_alloc11 (Bw.refl _) _
          have HI5 : Hid (ItsAt w5 (some ⟨wc.heap.size, 0, none⟩) [z]) := by rw [hw5]; exact its_one (BoxAt.new _ _) ((HB.out.keep hbc).keep (bw_alloc11 (Bw.refl _) _))
          have hbw5 := hbw1.trans hb5
          have hH5 : H ≤ w5.heap.size := by rw [← hH.out]; exact hbw5.size
          have HO5 : Hid _ := own_keep HO1.out hb5
          go_wp2_with (first
            | refine wpList_load_it (by rfl) (.tmp 35) rfl b (off + i * 6) rfl z HZ1.out ?_
            | (refine wpList_build_it rfl (.tmp 36) rfl z rfl ?_; rw [← hw5]; clear hw5)
            | (at_builtin; refine wpList_append_its _ (by rfl) (.tmp 32) (.tmp 37) _ (by rfl) H 26 j0 _ 80 Try.underlying22 hj0 hy0 hy1 hy2 rfl _ _ _ (by rfl) HO5.out (some ⟨wc.heap.size, 0, none⟩) 1 [z] 1 rfl (by rfl) HI5.out (fun e => by cases e) (by unfold maxLen; omega) (by omega) hH5 ?_; intro v6 w6 hown6 hgrow6))
          go_roundw
          case rel => exact ⟨i + 1, by omega, by go_num, by rw [HSN.out, Tr.cellsI_append, List.length_append, hm.out]; exact hown6, by
            have := bw_grow hgrow6 (base := H) (by rw [← hH.out]; exact hbw5) hH5 HO5.out
            rw [← hH.out] at this; exact this⟩
          case measure => simp [intOf]; omega
    · obtain rfl : i = n := by omega
      have HT : Hid (L.take i = L) := List.take_of_length_le (by rw [hnn.out]; exact Nat.le_refl _)
      have ho2 := hown.out
      rw [HT.out] at ho2
      obtain ⟨m, hm⟩ : ∃ m, Hid ((Tr.sel P L).length = m) := ⟨_, rfl⟩
      have hml : m ≤ i := by rw [← hm.out, ← hnn.out]; exact Tr.sel_len _ _
      rw [hm.out] at ho2
      have HO2 : Hid (wr.ownsRow H 26 6 u8 m (Tr.cellsI (Tr.sel P L))) := ho2
      clear ho2 hown
      have HXr : Hid (BoxAt wr w.heap.size y) := HX.out.keep hbw
      obtain ⟨w5, hw5⟩ : ∃ V, V = wr.alloc (.cells y.arr 26) := ⟨_, rfl⟩
      have hb5 : Bw wr w5 := by rw [hw5]; exact bw_alloc11 (Bw.refl _) _
      have HI5 : Hid (ItsAt w5 (some ⟨wr.heap.size, 0, none⟩) [y]) := by rw [hw5]; exact its_one (BoxAt.new _ _) ((HYB.out.keep hbwr).keep (bw_alloc11 (Bw.refl _) _))
      have hbw5 := hbw.trans hb5
      have hH5 : H ≤ w5.heap.size := by rw [← hH.out]; exact hbw5.size
      have HO5 : Hid _ := own_keep HO2.out hb5
      have HLb : Hid (∀ u, Bw W u → ∀ z ∈ Tr.sel P L ++ [y], BodyAt u z) := fun u hu z hz => by
        rcases List.mem_append.1 hz with g | g
        · exact (HA.out.keep (hbW.trans hu)).body z (Tr.sel_mem g)
        · rw [List.mem_singleton.1 g]; exact HYB.out.keep (hbW.trans hu)
      have HSl : Hid ((Tr.sel P L ++ [y]).length = m + 1) := by show _ = _; rw [List.length_append, hm.out]; rfl
      have HSo2 : Hid (∀ u A1 c1, ItsAt u A1 (Tr.sel P L ++ [y]) → Calls Try.prog 20 #[.slice A1 (m + 1) c1] u fun e w' => (∃ A' c' M, e = .returned (.slice A' M.length c') ∧ Tr.its M = TW ∧ M.length ≤ c' ∧ ItsAt w' A' M) ∧ Bw u w') := fun u A1 c1 hI => by
        have := HSo1.out u A1 c1 _ rfl hI
        rwa [HSl.out] at this
      clear HSo1 HCh hlt hi
      by_cases hdE : dE = 0
      · subst hdE
        go_wp2_with (first
          | refine wpList_load_it (by rfl) (.tmp 3) rfl w.heap.size 0 rfl y HXr.out.it ?_
          | (refine wpList_build_it rfl (.tmp 40) rfl y rfl ?_; rw [← hw5]; clear hw5)
          | (at_builtin; refine wpList_append_its _ (by rfl) (.tmp 39) (.tmp 41) _ (by rfl) H 26 j0 _ 80 Try.underlying22 hj0 hy0 hy1 hy2 rfl _ _ _ (by rfl) HO5.out (some ⟨wr.heap.size, 0, none⟩) 1 [y] 1 rfl (by rfl) HI5.out (fun e => by cases e) (by unfold maxLen; omega) (by omega) hH5 ?_; intro v6 w6 hown6 hgrow6; have hb6 : Bw W w6 := (by have := bw_grow hgrow6 (base := H) (by rw [← hH.out]; exact hbw5) hH5 HO5.out; rw [← hH.out] at this; exact this); rw [← Tr.cellsI_append] at hown6; obtain ⟨A6, c6, hv6, -, hI6, -, -⟩ := its_of_own (L := Tr.sel P L ++ [y]) (by rw [HSl.out]; exact hown6) (HLb.out w6 hb6); rw [HSl.out] at hv6; subst hv6; clear hown6 hgrow6)
          | (go_at_call 20; refine (HSo2.out _ A6 c6 hI6).mono ?_; rintro e w7 ⟨⟨A7, c7, M7, rfl, hm7, hle7, hI7⟩, hw7⟩)
          | (go_at_call 11; refine (HC2.out _ A7 c7 M7 hm7 hle7 hI7).mono ?_; rintro e w8 ⟨rfl, hw8⟩))
        go_ret2
        exact ⟨⟨fun e => absurd rfl e, fun _ => ⟨A7, c7, M7, rfl, hm7, hle7, hI7.keep hw8⟩⟩, (hbW.trans hb6).trans (hw7.trans hw8)⟩
      · have q2 := Tr.i_no hdE
        have HE : Hid (dE ≠ 0) := hdE
        clear hdE
        go_wp2_with (first
          | refine wpList_load_it (by rfl) (.tmp 3) rfl w.heap.size 0 rfl y HXr.out.it ?_
          | (refine wpList_build_it rfl (.tmp 40) rfl y rfl ?_; rw [← hw5]; clear hw5)
          | (at_builtin; refine wpList_append_its _ (by rfl) (.tmp 39) (.tmp 41) _ (by rfl) H 26 j0 _ 80 Try.underlying22 hj0 hy0 hy1 hy2 rfl _ _ _ (by rfl) HO5.out (some ⟨wr.heap.size, 0, none⟩) 1 [y] 1 rfl (by rfl) HI5.out (fun e => by cases e) (by unfold maxLen; omega) (by omega) hH5 ?_; intro v6 w6 hown6 hgrow6; have hb6 : Bw W w6 := (by have := bw_grow hgrow6 (base := H) (by rw [← hH.out]; exact hbw5) hH5 HO5.out; rw [← hH.out] at this; exact this); rw [← Tr.cellsI_append] at hown6; obtain ⟨A6, c6, hv6, -, hI6, -, -⟩ := its_of_own (L := Tr.sel P L ++ [y]) (by rw [HSl.out]; exact hown6) (HLb.out w6 hb6); rw [HSl.out] at hv6; subst hv6; clear hown6 hgrow6)
          | (go_at_call 20; refine (HSo2.out _ A6 c6 hI6).mono ?_; rintro e w7 ⟨⟨A7, c7, M7, rfl, hm7, hle7, hI7⟩, hw7⟩)
          | (go_at_call 11; refine (HC2.out _ A7 c7 M7 hm7 hle7 hI7).mono ?_; rintro e w8 ⟨rfl, hw8⟩))
        go_ret2
        exact ⟨⟨fun _ => rfl, fun e => absurd e HE.out⟩, (hbW.trans hb6).trans (hw7.trans hw8)⟩
end Go.Proofs.Ytjifdoneejofiaa
