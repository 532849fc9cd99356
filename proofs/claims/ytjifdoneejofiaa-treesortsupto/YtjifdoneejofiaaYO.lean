/- The document's own Sort, of layer 11 (written by mkyo.py). -/
import Derived.Test.YtjifdoneejofiaaYF
import Derived.Test.YtjifdoneejofiaaU9
import Derived.Deep.CutBlock
import Derived.Deep.CutRange
namespace Go.Proofs.Ytjifdoneejofiaa
open Go.RowKit Go.Deep
set_option linter.unusedVariables false
set_option linter.unusedSimpArgs false

theorem own_some' {w : World} {base n : Nat} {e : TypeId} {s : Nat} {v : Value} {xs : List Value} (h : w.ownsRow base e s v n xs) (hn : 0 < n) : ∃ g c, v = .slice (some ⟨g, 0, none⟩) n c ∧ base ≤ g := by
  rcases h.2 with ⟨-, h⟩ | ⟨g, c, cur, h, hb, -⟩
  · omega
  · exact ⟨g, c, h, hb⟩
/-- an answer that is a list in stable order, its Bodies where they lay -/
def RSortEnds (t : List Tr.It) (e : Ending) (w' : World) : Prop := ∃ A c M, e = .returned (.slice A M.length c) ∧ Ss.Stable Tr.cmpT t (Tr.its M) ∧ M.length ≤ c ∧ ItsAt w' A M ∧ (A = none → M.length = 0 ∧ c = 0)
set_option maxRecDepth 100000 in
set_option maxHeartbeats 8000000 in
theorem rsort_any (A : Option Addr) (cap : Nat) (L : List Tr.Iv) (hn : L.length * 80 ≤ 140737488355328) (hp : ∀ y ∈ L, y.it.path.length ≤ 1099511627776) (w : World) (ha : ItsAt w A L) :
    Calls Try.prog 20 #[.slice A L.length cap] w fun e w' => RSortEnds (Tr.its L) e w' ∧ Bw w w' := by
  obtain ⟨n, hnn⟩ : ∃ n, Hid (L.length = n) := ⟨_, rfl⟩
  rw [hnn.out] at hn ⊢
  have HA : Hid (ItsAt w A L) := ha
  have HP : Hid (∀ y ∈ L, y.it.path.length ≤ 1099511627776) := hp
  clear ha hp
  obtain ⟨j0, hj0, hy0, hy1, hy2⟩ := info_parts info_item
  obtain ⟨H, hH⟩ : ∃ H, Hid (w.heap.size = H) := ⟨_, rfl⟩
  go_enter Try.func20, Try.ntmps20
  go_wp2
  go_loopw [3, 4] (fun v i wr => ∃ (k : Nat) (M : List Tr.Iv), k ≤ n ∧ i = .int .i64 (k : Int) ∧ Hid (Ss.Stable Tr.cmpI (L.take k) M) ∧ Hid (wr.ownsRow H 26 6 v M.length (Tr.cellsI M)) ∧ Hid (k = 0 → v = .slice none 0 0) ∧ Bw w wr) (fun _ i _ => n - (intOf i).toNat)
  case atStart => exact ⟨0, [], Nat.zero_le _, rfl, Ss.stable_nil _, World.ownsRow_nil _ _ _ _, (fun _ => rfl), Bw.refl _⟩
  case round =>
    obtain ⟨k, M, hk, rfl, hst, hown, hz, hbw⟩ := hrel
    have HMP : Hid (M.Perm (L.take k)) := hst.out.perm
    have HMB : Hid (∀ y ∈ M, BodyAt wr y) := fun y hy => (HA.out.keep hbw).body y (List.mem_of_mem_take (HMP.out.mem_iff.1 hy))
    have HMm : Hid (M.length = k) := by show _ = _; rw [HMP.out.length_eq, List.length_take, hnn.out]; omega
    by_cases hlt : k < n
    · have i0 : (0 : Int) ≤ (k : Int) := Int.natCast_nonneg _
      have i1 : (k : Int) < (n : Int) := by omega
      obtain ⟨x, hx⟩ : ∃ x, Hid (L[k]? = some x) := ⟨_, List.getElem?_eq_getElem (by rw [hnn.out]; exact hlt)⟩
      obtain ⟨b, off, rfl, hY, hB⟩ := (HA.out.keep hbw).at hx.out
      have HY : Hid (ItAt wr b (off + k * 6) x) := hY
      have HB : Hid (BodyAt wr x) := hB
      have hxp := HP.out x (List.mem_of_getElem? hx.out)
      clear hY hB
      have HTK : Hid (L.take (k + 1) = L.take k ++ [x]) := Tr.take_snoc hx.out
      have hmk : M.length ≤ 1759218604442 := by rw [HMm.out]; omega
      obtain ⟨m, hm⟩ : ∃ m, Hid (M.length = m) := ⟨_, rfl⟩
      have hmm : m ≤ k ∧ k ≤ m := by have := hm.out; have := HMm.out; omega
      obtain ⟨hm1, hm2⟩ := hmm
      obtain ⟨Av, c, hv, hfo⟩ : ∃ Av c, u3 = .slice Av m c ∧ ((k = 0 ∧ Av = none ∧ c = 0) ∨ (0 < k ∧ ∃ g, Av = some ⟨g, 0, none⟩ ∧ H ≤ g)) := by
        rcases Nat.eq_zero_or_pos k with k0 | kpos
        · refine ⟨none, 0, ?_, .inl ⟨k0, rfl, rfl⟩⟩
          rw [show m = 0 by omega]; exact hz.out k0
        · rcases hown.out.2 with ⟨-, h⟩ | ⟨g, c, cur, h, hb, -⟩
          · have := HMm.out; omega
          · exact ⟨_, c, by rw [hm.out] at h; exact h, .inr ⟨kpos, g, rfl, hb⟩⟩
      subst hv
      have HFO : Hid _ := hfo
      clear hfo hz
      obtain ⟨A2, c2, hv2, hle2, hI2, -, -⟩ := its_of_own hown.out HMB.out
      rw [hm.out] at hv2 hle2
      injection hv2 with e1 e2 e3
      subst e1 e3
      have HIM : Hid (ItsAt wr Av M) := hI2
      clear hI2 e2
      go_upto_block 2 with fail
      go_cut [5] from 15 to 33 (fun s5 wx => (∃ q : Nat, s5 = .int .i64 (q : Int) ∧ q ≤ m ∧ Hid (∀ z ∈ M.drop q, 0 < Tr.cmpI z x) ∧ Hid (q = 0 ∨ ∃ z, M[q - 1]? = some z ∧ ¬ 0 < Tr.cmpI z x)) ∧ Bw wr wx)
      case first =>
        rcases HFO.out with ⟨k0, rfl, rfl⟩ | ⟨kpos, g, rfl, hgb⟩
        · subst k0
          have m0 : m = 0 := by omega
          have HM0 : Hid (M = []) := List.eq_nil_of_length_eq_zero (by rw [hm.out]; exact m0)
          clear HIM hown
          subst m0
          go_wp2_with fail
          go_loopw [5] (fun s5 wx => s5 = .int .i64 0 ∧ Bw wr wx) (fun _ _ => 0)
          case atStart => exact ⟨rfl, Bw.refl _⟩
          case round =>
            obtain ⟨rfl, hbx⟩ := hrel
            go_wp2_with fail
            go_quiet (fail)
            go_wp2_with fail
            go_meet
            case rel => exact ⟨⟨0, rfl, Nat.le_refl _, (fun z hz => by rw [HM0.out] at hz; simp at hz), .inl rfl⟩, hbx.trans (Bw.drewN _ _)⟩
        · rename World => wo
          go_wp2_with fail
          go_loopw [5] (fun s5 wx => ∃ q : Nat, s5 = .int .i64 (q : Int) ∧ q ≤ m ∧ Hid (∀ z ∈ M.drop q, 0 < Tr.cmpI z x) ∧ Bw wo wx) (fun s5 _ => (intOf s5).toNat)
          case atStart => exact ⟨m, rfl, Nat.le_refl _, (fun z hz => by rw [List.drop_eq_nil_of_le (by rw [hm.out]; exact Nat.le_refl _)] at hz; cases hz), Bw.refl _⟩
          case round =>
            obtain ⟨q, rfl, hqm, hq, hbx⟩ := hrel
            rcases Nat.eq_zero_or_pos q with q0 | qpos
            · subst q0
              go_wp2_with fail
              go_quiet (fail)
              go_wp2_with fail
              go_meet
              case rel => exact ⟨⟨0, rfl, Nat.zero_le _, hq.out, .inl rfl⟩, hbx.trans (Bw.drewN _ _)⟩
            · obtain ⟨r, rfl⟩ : ∃ r, q = r + 1 := ⟨q - 1, by omega⟩
              obtain ⟨z, hz⟩ : ∃ z, Hid (M[r]? = some z) := ⟨_, List.getElem?_eq_getElem (by rw [hm.out]; omega)⟩
              obtain ⟨b', off', e', hZ, hZB⟩ := (HIM.out.keep hbx).at hz.out
              cases e'
              have hzp : z.it.path.length ≤ 1099511627776 := HP.out z (List.mem_of_mem_take (HMP.out.mem_iff.1 (List.mem_of_getElem? hz.out)))
              have c1 := hZ.c0
              have c2 := (HY.out.keep hbx).c0
              rw [Nat.zero_add] at c1
              clear hZ hZB
              obtain ⟨cv, hcv⟩ : ∃ r, Hid (Nm.cmp z.it.path x.it.path = r) := ⟨_, rfl⟩
              have hcr := (Nm.cmp_facts z.it.path x.it.path x.it.path).1
              rw [hcv.out] at hcr
              have HC : Hid (∀ u, Calls Try.prog 31 #[.string (Nm.S z.it.path), .string (Nm.S x.it.path)] u fun e w' => e = .returned (.int .i64 cv) ∧ Bw u w') := fun u => by
                rw [← hcv.out]; exact rcompareL z.it.path x.it.path hzp hxp u
              have HDR : Hid (M.drop r = z :: M.drop (r + 1)) := by
                obtain ⟨h1, h2⟩ := List.getElem?_eq_some_iff.1 hz.out
                show _ = _
                rw [List.drop_eq_getElem_cons h1, h2]
              have r0 : (0 : Int) < ((r + 1 : Nat) : Int) := by omega
              have r1 : (r : Int) < (m : Int) := by omega
              have r2 : (0 : Int) ≤ (r : Int) := Int.natCast_nonneg _
              have r4 : IntKind.i64.wrap (((r + 1 : Nat) : Int) - 1) = (r : Int) := by rw [IntKind.wrap_i64]; omega
              have r5 : IntKind.i64.wrap (r : Int) = (r : Int) := by rw [IntKind.wrap_i64]; omega
              by_cases hc1 : cv = 1
              · subst hc1
                go_wp2_with fail
                go_region_held3 (fun w' => w'.cell? ⟨g, r * 6, none⟩ = some (.string (Nm.S z.it.path)) ∧ w'.cell? ⟨b, off + k * 6, none⟩ = some (.string (Nm.S x.it.path)) ∧ Bw wr w')
                  (first | exact ⟨c1, c2, Below.drew (Bw.refl _)⟩ | assumption | exact keep_S11 (by assumption) (by assumption))
                  (first | (go_at_call 31; refine (HC.out _).mono ?_; rintro e w2 ⟨rfl, hw2⟩))
                rename_i hSe
                have hSw := hSe.2.2
                go_wp2
                go_roundw
                case rel => exact ⟨r, by go_num, by omega, (fun y hy => by
                  rw [HDR.out] at hy
                  rcases List.mem_cons.1 hy with e | e
                  · have h : Tr.cmpI z x = 1 := hcv.out
                    rw [e]; omega
                  · exact hq.out y e), hbx.trans hSw⟩
                case measure => simp [intOf]
              · have hb1 : (cv == 1) = false := by rw [beq_eq_false_iff_ne]; exact hc1
                have HNC : Hid (¬ 0 < cv) := by show ¬ _; omega
                clear hc1
                go_wp2_with fail
                go_region_held3 (fun w' => w'.cell? ⟨g, r * 6, none⟩ = some (.string (Nm.S z.it.path)) ∧ w'.cell? ⟨b, off + k * 6, none⟩ = some (.string (Nm.S x.it.path)) ∧ Bw wr w')
                  (first | exact ⟨c1, c2, Below.drew (Bw.refl _)⟩ | assumption | exact keep_S11 (by assumption) (by assumption))
                  (first | (go_at_call 31; refine (HC.out _).mono ?_; rintro e w2 ⟨rfl, hw2⟩))
                rename_i hSe
                have hSw := hSe.2.2
                go_wp2_with fail
                go_meet
                case rel => exact ⟨⟨r + 1, rfl, hqm, hq.out, .inr ⟨z, by rw [Nat.add_sub_cancel]; exact hz.out, by have h : Tr.cmpI z x = cv := hcv.out; have := HNC.out; omega⟩⟩, hbx.trans hSw⟩
      case rest =>
        obtain ⟨⟨q, rfl, hqm, hq1, hq2⟩, hbc⟩ := hcut
        have HSt : Hid (Ss.Stable Tr.cmpI (L.take (k + 1)) (M.take q ++ x :: M.drop q)) := by
          show Ss.Stable _ _ _
          rw [HTK.out]
          refine Ss.stable_snoc Tr.cmpI_ok (by rw [List.take_append_drop]; exact hst.out) hq1.out ?_
          rcases hq2.out with h | ⟨z, h1, h2⟩
          · left; rw [h]; rfl
          · rcases Nat.eq_zero_or_pos q with g | g
            · left; rw [g]; rfl
            · right
              refine ⟨z, ?_, h2⟩
              rw [List.getLast?_eq_getElem?, List.length_take, hm.out, Nat.min_eq_left hqm, List.getElem?_take, if_pos (by omega)]
              exact h1
        have HTk : Hid ((M.take q).length = q) := by show _ = _; rw [List.length_take, hm.out]; omega
        have HDk : Hid ((M.drop q).length = m - q) := by show _ = _; rw [List.length_drop, hm.out]
        replace HY : Hid (ItAt wc b (off + k * 6) x) := HY.out.keep hbc
        replace HB : Hid (BodyAt wc x) := HB.out.keep hbc
        replace HIM : Hid (ItsAt wc Av M) := HIM.out.keep hbc
        replace hbw := hbw.trans hbc
        clear hown HMB hbc hq1 hq2 hst
        have z0 : (0 : Int) ≤ (q : Int) := Int.natCast_nonneg _
        have z1 : (q : Int) ≤ (c : Int) := by omega
        have z2 : (q : Int) ≤ (m : Int) := by omega
        rename World => wr
        have tk1 : Hid (w = w) := rfl
        rcases HFO.out with ⟨k0, rfl, rfl⟩ | ⟨kpos, g, rfl, hgb⟩
        · obtain rfl : m = 0 := by omega
          obtain rfl : q = 0 := by omega
          subst k0
          have HI1 : Hid (ItsAt wr none (M.take 0)) := HIM.out.take 0
          have HI2 : Hid (ItsAt wr none (M.drop 0)) := HIM.out
          have NA : Hid ((none : Option Addr) = none → 0 = 0 ∧ 0 = 0) := fun _ => ⟨rfl, rfl⟩
          have NB : Hid ((none : Option Addr) = none → 0 - 0 = 0 ∧ 0 = 0) := fun _ => ⟨rfl, rfl⟩
          obtain ⟨w5, hw5⟩ : ∃ V, V = wr.alloc (.cells x.arr 26) := ⟨_, rfl⟩
          have hb5 : Bw wr w5 := by rw [hw5]; exact bw_alloc11 (Bw.refl _) _
          have HI5 : Hid (ItsAt w5 (some ⟨wr.heap.size, 0, none⟩) [x]) := by rw [hw5]; exact its_one (BoxAt.new _ _) (HB.out.keep (bw_alloc11 (Bw.refl _) _))
          have hs5 : wr.heap.size ≤ w5.heap.size := hb5.size
          have HY0 : Hid (ItAt wr b off x) := by have h := HY.out; rwa [Nat.zero_mul, Nat.add_zero] at h
          have HM0 : Hid (M = []) := List.eq_nil_of_length_eq_zero hm.out
          go_wp2_with (first
            | refine wpList_load_it (by rfl) (.tmp 42) rfl b off rfl x HY0.out ?_
            | (refine wpList_build_it rfl (.tmp 43) rfl x rfl ?_; rw [← hw5]; clear hw5)
            | (clear tk1; at_builtin; refine wpList_append_its _ (by rfl) (.tmp 39) (.tmp 44) _ (by rfl) wr.heap.size 26 j0 _ 80 Try.underlying22 hj0 hy0 hy1 hy2 rfl _ _ _ (by rfl) (World.ownsRow_nil w5 _ _ _) (some ⟨wr.heap.size, 0, none⟩) 1 [x] 1 rfl (by rfl) HI5.out (fun e => by cases e) (by unfold maxLen; omega) (by omega) hs5 ?_; intro v6 w6 hown6 hgrow6; have hb6 : Bw wr w6 := bw_grow hgrow6 (base := wr.heap.size) hb5 hs5 (World.ownsRow_nil w5 _ 26 6); simp only [Nat.zero_add, List.nil_append] at hown6; have tk3 : Hid (w = w) := rfl)
            | (clear tk3; at_builtin; refine wpList_append_its _ (by rfl) (.tmp 46) (.tmp 49) _ (by rfl) wr.heap.size 26 j0 _ 80 Try.underlying22 hj0 hy0 hy1 hy2 rfl _ _ _ (by rfl) hown6 none 0 [] 0 rfl (by rfl) (ItsAt.nil _ _) (fun _ => ⟨rfl, rfl⟩) (by unfold maxLen; omega) (by omega) hb6.size ?_; intro v9 w9 hown9 hgrow9))
          have hb9 : Bw wr w9 := bw_grow hgrow9 (base := wr.heap.size) hb6 hb6.size hown6
          go_roundw
          case rel =>
            refine ⟨1, M.take 0 ++ x :: M.drop 0, by omega, by go_num, HSt.out, ?_, fun e => by omega, hbw.trans hb9⟩
            show World.ownsRow _ _ _ _ _ _ _
            rw [HM0.out]
            have h9 := hown9
            simp only [Nat.add_zero, Tr.cellsI, List.append_nil] at h9
            exact own_lower11 h9 (by rw [← hH.out]; exact hbw.size)
          case measure => simp [intOf]; omega
        · by_cases hc : c = q
          · subst hc
            have HI1 : Hid (ItsAt wr (some ⟨g, 0, none⟩) (M.take c)) := HIM.out.take c
            have HI2 : Hid (ItsAt wr (some ⟨g, 0, none⟩) (M.drop c)) := by
              have : M.drop c = [] := List.eq_nil_of_length_eq_zero (by rw [HDk.out]; omega)
              show ItsAt _ _ _
              rw [this]; exact ItsAt.nil _ _
            have NA : Hid (some (⟨g, 0, none⟩ : Addr) = none → c = 0 ∧ c = 0) := fun e => by cases e
            have NB : Hid (some (⟨g, 0, none⟩ : Addr) = none → m - c = 0 ∧ 0 = 0) := fun e => by cases e
            have HD0 : Hid (M.drop c = []) := List.eq_nil_of_length_eq_zero (by rw [HDk.out]; omega)
            go_wp2_with (first
              | (clear tk1; at_builtin; refine wpList_append_its _ (by rfl) (.tmp 34) (.tmp 37) _ (by rfl) wr.heap.size 26 j0 _ 80 Try.underlying22 hj0 hy0 hy1 hy2 rfl _ _ _ (by rfl) (World.ownsRow_nil wr _ _ _) (some ⟨g, 0, none⟩) c (M.take c) c HTk.out (by rfl) HI1.out NA.out (by unfold maxLen; omega) (by omega) (Nat.le_refl _) ?_; intro v1 w1 hown1 hgrow1; simp only [Nat.zero_add, List.nil_append] at hown1; have hb1 : Bw wr w1 := (Below.refl _ _).grown hgrow1 (Nat.le_refl _) (fun k hk => by simp [Value.ownBlock] at hk); have HY1 : Hid (ItAt w1 b (off + k * 6) x) := HY.out.keep hb1; obtain ⟨w5, hw5⟩ : ∃ V, V = w1.alloc (.cells x.arr 26) := ⟨_, rfl⟩; have hb5 : Bw w1 w5 := (by rw [hw5]; exact bw_alloc11 (Bw.refl _) _); have HI5 : Hid (ItsAt w5 (some ⟨w1.heap.size, 0, none⟩) [x]) := (by rw [hw5]; exact its_one (BoxAt.new _ _) ((HB.out.keep hb1).keep (bw_alloc11 (Bw.refl _) _))); have HO5 : Hid _ := own_keep hown1 hb5; have hs5 : wr.heap.size ≤ w5.heap.size := (hb1.trans hb5).size; have tk2 : Hid (w = w) := rfl)
              | refine wpList_load_it (by rfl) (.tmp 42) rfl b (off + k * 6) rfl x HY1.out ?_
              | (refine wpList_build_it rfl (.tmp 43) rfl x rfl ?_; rw [← hw5]; clear hw5)
              | (clear tk2; at_builtin; refine wpList_append_its _ (by rfl) (.tmp 39) (.tmp 44) _ (by rfl) wr.heap.size 26 j0 _ 80 Try.underlying22 hj0 hy0 hy1 hy2 rfl _ _ _ (by rfl) HO5.out (some ⟨w1.heap.size, 0, none⟩) 1 [x] 1 rfl (by rfl) HI5.out (fun e => by cases e) (by unfold maxLen; omega) (by omega) hs5 ?_; intro v6 w6 hown6 hgrow6; have hb6 : Bw wr w6 := bw_grow hgrow6 (base := wr.heap.size) (hb1.trans hb5) hs5 HO5.out; have HI6 : Hid (ItsAt w6 (some ⟨g, 0, none⟩) (M.drop c)) := HI2.out.keep hb6; have tk3 : Hid (w = w) := rfl)
              | (clear tk3; at_builtin; refine wpList_append_its _ (by rfl) (.tmp 46) (.tmp 49) _ (by rfl) wr.heap.size 26 j0 _ 80 Try.underlying22 hj0 hy0 hy1 hy2 rfl _ _ _ (by rfl) hown6 (some ⟨g, 0, none⟩) 0 [] 0 rfl (by rfl) (ItsAt.nil _ _) (fun e => by cases e) (by unfold maxLen; omega) (by omega) hb6.size ?_; intro v9 w9 hown9 hgrow9))
            have hb9 : Bw wr w9 := bw_grow hgrow9 (base := wr.heap.size) hb6 hb6.size hown6
            go_roundw
            case rel =>
              refine ⟨k + 1, M.take c ++ x :: M.drop c, by omega, by go_num, HSt.out, ?_, fun e => by omega, hbw.trans hb9⟩
              show World.ownsRow _ _ _ _ _ _ _
              have e1 : (M.take c ++ x :: M.drop c).length = c + 1 := by rw [List.length_append, List.length_cons, HTk.out, HD0.out]; rfl
              have e2 : Tr.cellsI (M.take c ++ x :: M.drop c) = Tr.cellsI (M.take c) ++ Tr.cellsI [x] := by rw [← Tr.cellsI_append, HD0.out]
              rw [e1, e2]
              have h9 := hown9
              simp only [Nat.add_zero, Tr.cellsI, List.append_nil] at h9
              simp only [Tr.cellsI, List.append_nil]
              exact own_lower11 h9 (by rw [← hH.out]; exact hbw.size)
            case measure => simp [intOf]; omega
          · have HI1 : Hid (ItsAt wr (some ⟨g, 0, none⟩) (M.take q)) := HIM.out.take q
            have HI2 : Hid (ItsAt wr (some ⟨g, q * 6, none⟩) (M.drop q)) := by
              have := HIM.out.drop q
              rwa [Nat.zero_add] at this
            have NA : Hid (some (⟨g, 0, none⟩ : Addr) = none → q = 0 ∧ c = 0) := fun e => by cases e
            have NB : Hid (some (⟨g, q * 6, none⟩ : Addr) = none → m - q = 0 ∧ c - q = 0) := fun e => by cases e
            go_wp2_with (first
              | (clear tk1; at_builtin; refine wpList_append_its _ (by rfl) (.tmp 34) (.tmp 37) _ (by rfl) wr.heap.size 26 j0 _ 80 Try.underlying22 hj0 hy0 hy1 hy2 rfl _ _ _ (by rfl) (World.ownsRow_nil wr _ _ _) (some ⟨g, 0, none⟩) c (M.take q) q HTk.out (by rfl) HI1.out NA.out (by unfold maxLen; omega) (by omega) (Nat.le_refl _) ?_; intro v1 w1 hown1 hgrow1; simp only [Nat.zero_add, List.nil_append] at hown1; have hb1 : Bw wr w1 := (Below.refl _ _).grown hgrow1 (Nat.le_refl _) (fun k hk => by simp [Value.ownBlock] at hk); have HY1 : Hid (ItAt w1 b (off + k * 6) x) := HY.out.keep hb1; obtain ⟨w5, hw5⟩ : ∃ V, V = w1.alloc (.cells x.arr 26) := ⟨_, rfl⟩; have hb5 : Bw w1 w5 := (by rw [hw5]; exact bw_alloc11 (Bw.refl _) _); have HI5 : Hid (ItsAt w5 (some ⟨w1.heap.size, 0, none⟩) [x]) := (by rw [hw5]; exact its_one (BoxAt.new _ _) ((HB.out.keep hb1).keep (bw_alloc11 (Bw.refl _) _))); have HO5 : Hid _ := own_keep hown1 hb5; have hs5 : wr.heap.size ≤ w5.heap.size := (hb1.trans hb5).size; have tk2 : Hid (w = w) := rfl)
              | refine wpList_load_it (by rfl) (.tmp 42) rfl b (off + k * 6) rfl x HY1.out ?_
              | (refine wpList_build_it rfl (.tmp 43) rfl x rfl ?_; rw [← hw5]; clear hw5)
              | (clear tk2; at_builtin; refine wpList_append_its _ (by rfl) (.tmp 39) (.tmp 44) _ (by rfl) wr.heap.size 26 j0 _ 80 Try.underlying22 hj0 hy0 hy1 hy2 rfl _ _ _ (by rfl) HO5.out (some ⟨w1.heap.size, 0, none⟩) 1 [x] 1 rfl (by rfl) HI5.out (fun e => by cases e) (by unfold maxLen; omega) (by omega) hs5 ?_; intro v6 w6 hown6 hgrow6; have hb6 : Bw wr w6 := bw_grow hgrow6 (base := wr.heap.size) (hb1.trans hb5) hs5 HO5.out; have HI6 : Hid (ItsAt w6 (some ⟨g, q * 6, none⟩) (M.drop q)) := HI2.out.keep hb6; have tk3 : Hid (w = w) := rfl)
              | (clear tk3; at_builtin; refine wpList_append_its _ (by rfl) (.tmp 46) (.tmp 49) _ (by rfl) wr.heap.size 26 j0 _ 80 Try.underlying22 hj0 hy0 hy1 hy2 rfl _ _ _ (by rfl) hown6 (some ⟨g, q * 6, none⟩) (c - q) (M.drop q) (m - q) HDk.out (by rfl) HI6.out NB.out (by unfold maxLen; omega) (by omega) hb6.size ?_; intro v9 w9 hown9 hgrow9))
            have hb9 : Bw wr w9 := bw_grow hgrow9 (base := wr.heap.size) hb6 hb6.size hown6
            go_roundw
            case rel =>
              refine ⟨k + 1, M.take q ++ x :: M.drop q, by omega, by go_num, HSt.out, ?_, fun e => by omega, hbw.trans hb9⟩
              show World.ownsRow _ _ _ _ _ _ _
              have e1 : (M.take q ++ x :: M.drop q).length = q + 1 + (m - q) := by rw [List.length_append, List.length_cons, HTk.out, HDk.out]; omega
              have e2 : Tr.cellsI (M.take q ++ x :: M.drop q) = Tr.cellsI (M.take q) ++ Tr.cellsI [x] ++ Tr.cellsI (M.drop q) := by rw [← Tr.cellsI_append, ← Tr.cellsI_append]; simp
              rw [e1, e2]
              exact own_lower11 hown9 (by rw [← hH.out]; exact hbw.size)
            case measure => simp [intOf]; omega
    · obtain rfl : k = n := by omega
      have HLk : Hid (L.take k = L) := List.take_of_length_le (by rw [hnn.out]; exact Nat.le_refl _)
      obtain ⟨A2, c2, hv2, hle2, hI2, hnil2, -⟩ := its_of_own hown.out HMB.out
      subst hv2
      have HE : Hid (RSortEnds (Tr.its L) (.returned (.slice A2 M.length c2)) wr) := by
        refine ⟨A2, c2, M, rfl, ?_, hle2, hI2, fun e => ?_⟩
        · have h := Ss.Stable.map (d := Tr.cmpT) (fun y : Tr.Iv => y.it) (fun _ _ => rfl) hst.out
          rw [HLk.out] at h
          exact h
        · obtain ⟨h1, h2⟩ := hnil2 e
          exact ⟨by rw [h2]; rfl, h1⟩
      clear hI2 hle2 hnil2 hown
      go_wp2
      go_ret
      exact ⟨HE.out, hbw⟩
end Go.Proofs.Ytjifdoneejofiaa
