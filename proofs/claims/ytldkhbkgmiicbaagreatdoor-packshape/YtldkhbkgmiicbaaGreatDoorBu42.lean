/- Texts of mine, put together. -/
import Derived.Test.YtldkhbkgmiicbaaGreatDoorBu37
import Derived.Test.YtldkhbkgmiicbaaGreatDoorBu41
import Derived.Test.YtldkhbkgmiicbaaGreatDoorBu13
import Derived.Test.YtldkhbkgmiicbaaGreatDoorBu14
import Derived.Test.YtldkhbkgmiicbaaGreatDoorBu36
import Derived.Test.YtldkhbkgmiicbaaGreatDoorBu23
import Derived.Test.YtldkhbkgmiicbaaGreatDoorBu24
import Derived.Test.YtldkhbkgmiicbaaGreatDoorBu4
import Derived.ChangeMaps5
import Derived.SliceStrings
import Derived.Deep.Strs
import Derived.Deep.CondSized

/- Layer 12: the document's own Write. -/
namespace Go.Proofs.YtldkhbkgmiicbaaGreatDoor
open Go.RowKit Go.Deep
set_option linter.unusedVariables false
set_option linter.unusedSimpArgs false

theorem wpList_append_noughts {w : World} {ops : Array Oper} {rest : List Oper} {o : Oper} {a : Act} {Q : Exit → Act → World → Prop} (hgd : o.guard = none) (s : Operand) (m : Nat)
    (ho : o.op = .call { callee := .builtin .append, args := #[s, .const (.int .i64 (m : Int))], argTypes := #[24, 3] })
    (base : Nat) (v : Value) (X : Pk.B) (n : Nat) (hs : a.eval s = v) (hown : w.ownsRow base 5 1 v n (Lib.byteCells X)) (h0 : 0 < m) (hb : n + m ≤ 1048576) (hbase : base ≤ w.heap.size)
    (h : ∀ A' c' w', w'.ownsRow base 5 1 (.slice A' (n + m) c') (n + m) (Lib.byteCells (X ++ List.replicate m 0)) → w.grownBy w' v.ownBlock → wpList Tryz.prog ops Q rest (a.put o.dst (.slice A' (n + m) c')) w') : wpList Tryz.prog ops Q (o :: rest) a w := by
  refine wpList_plain hgd fun K hK => ?_
  obtain ⟨v', w', hrun, ho', hg⟩ := run_append_noughts w base v n _ hown m h0 hb hbase o.type
  have he : a.eval (.const (.int .i64 (m : Int))) = .int .i64 (m : Int) := rfl
  unfold Oper.wp execOp
  simp only [ho, resolve, invoke, builtin, Sem.run_bind, Sem.run_pure, Result.andThen_ok, List.map_toArray, List.map_cons, List.map_nil, hs, he, hrun]
  rw [← byteCells_zeros, ← byteCells_app12] at ho'
  obtain ⟨A', c', rfl⟩ := own_slice12 ho'
  exact hK _ _ (h A' c' w' ho' hg)
set_option maxRecDepth 100000 in
set_option maxHeartbeats 4000000 in
theorem rwrite_any (A : Option Addr) (cap : Nat) (L : List Tr.Iv) (hn : L.length ≤ 4611686018427387904) (hcap : L.length ≤ cap) (w : World) (ha : ItsAt w A L) :
    Calls Tryz.prog 11 #[.slice A L.length cap] w fun e w' => WriteEnds (Tr.its L) w.heap.size e w' ∧ Bw w w' := by
  obtain ⟨cA, cE, hC⟩ : ∃ a b, Hid (Tr.chkE (Tr.its L) = (a, b)) := ⟨_, _, show Tr.chkE (Tr.its L) = _ from rfl⟩
  have HCh : Hid (∀ u, Bw w u → Calls Tryz.prog 30 #[.slice A L.length cap] u fun e w' => e = .returned (.tuple #[.int .i64 (cA : Int), .int .i64 cE]) ∧ Bw u w') := fun u hu => by
    have := rcheck11_any A cap L hn hcap u (ha.keep hu)
    rwa [hC.out] at this
  obtain ⟨n, hnn⟩ : ∃ n, Hid (L.length = n) := ⟨_, rfl⟩
  rw [hnn.out] at hn hcap HCh ⊢
  have HA : Hid (ItsAt w A L) := ha
  clear ha
  by_cases h0 : cE = 0
  · subst h0
    have hck := Tr.chk_zero (t := Tr.its L) (by rw [hC.out])
    have HOk : Hid (Tr.Ok (Tr.its L)) := hck.2
    have hn256 : n ≤ 256 := by rw [← hnn.out, ← Tr.its_len]; exact hck.1
    have HWr : Hid (Pk.wr (Tr.its L) = Pk.wrF [] 0 (Tr.its L)) := Pk.wr_good (by rw [hC.out])
    clear hck
    go_enter Tryz.func11, Tryz.ntmps11
    go_wp2_with (go_at_call 30; refine (HCh.out _ (Bw.refl _)).mono ?_; rintro e w1 ⟨rfl, hw1⟩)
    go_loopw [7, 8] (fun s i wr => ∃ k : Nat, k ≤ n ∧ i = .int .i64 (k : Int) ∧ ∃ A' c' m, s = .slice A' m c' ∧ m ≤ 130048 ∧ Hid (Pk.Upto (Tr.its L) k ∧ (Pk.flat ((Tr.its L).take k)).length = m ∧ wr.ownsRow w.heap.size 5 1 (.slice A' m c') m (Lib.byteCells (Pk.flat ((Tr.its L).take k)))) ∧ Bw w wr) (fun s i _ => n - (intOf i).toNat)
    case atStart => exact ⟨0, Nat.zero_le _, rfl, none, 0, 0, rfl, Nat.zero_le _, ⟨Pk.upto_zero _, rfl, World.ownsRow_nil _ _ _ _⟩, hw1⟩
    case round =>
      obtain ⟨k, hkn, rfl, A1, c1, m, rfl, hm, hI, hbw⟩ := hrel
      have k0 : (0 : Int) ≤ (k : Int) := Int.natCast_nonneg _
      by_cases hlt : k < n
      · have i1 : (k : Int) < (n : Int) := by omega
        obtain ⟨y, hy⟩ : ∃ y, Hid (L[k]? = some y) := ⟨_, List.getElem?_eq_getElem (by rw [hnn.out]; exact hlt)⟩
        obtain ⟨b, off, rfl, hY, hB⟩ := (HA.out.keep hbw).at hy.out
        have HX : Hid ((Tr.its L)[k]? = some y.it) := by show _ = _; unfold Tr.its; rw [List.getElem?_map, hy.out]; rfl
        have HY : Hid (ItAt wr b (off + k * 6) y) := hY
        have hmay := Tr.step_may (HOk.out k y.it HX.out)
        obtain ⟨np, hnp⟩ : ∃ q, Hid ((Pk.pcs y.it).length = q) := ⟨_, rfl⟩
        have hnpb : np ≤ 70000 := by rw [← hnp.out]; have := Pk.pcs_len y.it; have := Pk.may_body hmay; omega
        have HP : Hid (Calls Tryz.prog 31 #[.agg y.arr] wr fun e w' => (∃ A c, e = .returned (.slice A np c) ∧ RowAt w' A np (Hd.rowF (Pk.pcs y.it)) ∧ (A = none → c = 0)) ∧ Bw wr w') := (rpcs_any y hmay wr hB).mono fun e w' ⟨⟨u, h1, h2⟩, h3⟩ => by
          obtain ⟨A, c, rfl, hr, hc⟩ := own_rowat12 h2
          rw [hnp.out] at hr h1
          exact ⟨⟨A, c, h1, hr, hc⟩, h3⟩
        obtain ⟨R, hR⟩ : ∃ R, Hid (Pk.flat ((Tr.its L).take k) = R) := ⟨_, rfl⟩
        have HUp : Hid (Pk.Upto (Tr.its L) k) := hI.out.1
        have HRl : Hid (R.length = m) := by rw [← hR.out]; exact hI.out.2.1
        have HOw : Hid (wr.ownsRow w.heap.size 5 1 (.slice A1 m c1) m (Lib.byteCells R)) := by rw [← hR.out]; exact hI.out.2.2
        obtain ⟨q, hq⟩ : ∃ q, Hid (m + np = q) := ⟨_, rfl⟩
        have hqb : q ≤ 210000 := by rw [← hq.out]; omega
        have hlen : (R ++ Pk.pcs y.it).length = q := by rw [List.length_append, HRl.out, hnp.out, hq.out]
        clear hY hB hI hmay
        by_cases hbig : 131072 < q + 1024
        · have HWS : Hid (Pk.wrF [] 0 (Tr.its L) = ([], k, 2)) := Pk.upto_stop HUp.out HX.out (by rw [hR.out, hlen]; exact hbig)
          have i2 : (131072 : Int) < (q : Int) + 1024 := by omega
          clear hlen hbig
          go_wp2_with (first
            | (refine wpList_load_it (by rfl) _ rfl b (off + k * 6) rfl y HY.out ?_)
            | (go_at_call 31; refine HP.out.mono ?_; rintro e w2 ⟨⟨A2, c2, rfl, hr2, hn2⟩, hw2⟩)
            | (at_builtin; refine wpList_append_by (by rfl) (.tmp 24) (.tmp 29) (by rfl) w.heap.size (.slice A1 m c1) R m HRl.out (by rfl) (own_keep HOw.out hw2) A2 np c2 (Pk.pcs y.it) hnp.out (by rfl) hr2 hn2 (by omega) (hbw.trans hw2).size ?_; intro A3 c3 w3 ho3 hg3; rw [hq.out] at ho3 ⊢; have hb3 : Bw w w3 := bw_grow12 (hbw.trans hw2) hg3 (own_keep HOw.out hw2)))
          refine bodyPost_ret (results_tmp3 rfl _ _ _) rfl ?_
          refine ⟨⟨.slice none 0 0, by rw [HWr.out, HWS.out]; rfl, ?_⟩, hb3⟩
          rw [HWr.out, HWS.out]
          exact World.ownsRow_nil _ _ _ _
        · have HUN : Hid (Pk.Upto (Tr.its L) (k + 1)) := Pk.upto_next HUp.out HX.out (by rw [hR.out, hlen]; exact hbig)
          have HFN : Hid (Pk.flat ((Tr.its L).take (k + 1)) = R ++ Pk.pcs y.it) := by show _ = _; rw [Pk.flat_take HX.out, hR.out]
          have HLN : Hid ((R ++ Pk.pcs y.it).length = q) := hlen
          have i2 : decide ((131072 : Int) < (q : Int) + 1024) = false := by rw [decide_eq_false_iff_not]; omega
          have hq3 : Hid (q ≤ 130048) := by show q ≤ 130048; omega
          clear hlen hbig
          go_wp2_with (first
            | (refine wpList_load_it (by rfl) _ rfl b (off + k * 6) rfl y HY.out ?_)
            | (go_at_call 31; refine HP.out.mono ?_; rintro e w2 ⟨⟨A2, c2, rfl, hr2, hn2⟩, hw2⟩)
            | (at_builtin; refine wpList_append_by (by rfl) (.tmp 24) (.tmp 29) (by rfl) w.heap.size (.slice A1 m c1) R m HRl.out (by rfl) (own_keep HOw.out hw2) A2 np c2 (Pk.pcs y.it) hnp.out (by rfl) hr2 hn2 (by omega) (hbw.trans hw2).size ?_; intro A3 c3 w3 ho3 hg3; rw [hq.out] at ho3 ⊢; have hb3 : Bw w w3 := bw_grow12 (hbw.trans hw2) hg3 (own_keep HOw.out hw2)))
          go_round
          case measure => simp only [intOf]; omega
          case rel => exact ⟨k + 1, by omega, rfl, A3, c3, q, rfl, hq3.out, ⟨HUN.out, by rw [HFN.out]; exact HLN.out, by rw [HFN.out]; exact ho3⟩, hb3⟩
      · have i1 : ¬ (k : Int) < (n : Int) := by omega
        obtain rfl : k = n := by omega
        have hT : (Tr.its L).take k = Tr.its L := List.take_of_length_le (by rw [Tr.its_len, hnn.out]; exact Nat.le_refl _)
        have HUE : Hid (Pk.Upto (Tr.its L) (Tr.its L).length) := by rw [Tr.its_len, hnn.out]; exact hI.out.1
        rw [hT] at hI
        have HOw : Hid (wr.ownsRow w.heap.size 5 1 (.slice A1 m c1) m (Lib.byteCells (Pk.flat (Tr.its L)))) := hI.out.2.2
        have HRl : Hid ((Pk.flat (Tr.its L)).length = m) := hI.out.2.1
        clear hI
        go_wp2_with (at_builtin; refine wpList_append_noughts (by rfl) (.tmp 36) 1024 (by rfl) w.heap.size (.slice A1 m c1) (Pk.flat (Tr.its L)) m (by rfl) HOw.out (by decide) (by omega) hbw.size ?_; intro A3 c3 w3 ho3 hg3; have hb3 : Bw w w3 := bw_grow12 hbw hg3 HOw.out)
        refine bodyPost_ret (results_tmp3 rfl _ _ _) rfl ?_
        refine ⟨⟨_, by rw [HWr.out, Pk.upto_end HUE.out]; rfl, ?_⟩, hb3⟩
        rw [HWr.out, Pk.upto_end HUE.out]
        show World.ownsRow _ _ _ _ _ (Pk.flat (Tr.its L) ++ List.replicate 1024 0).length _
        rw [List.length_append, List.length_replicate, HRl.out]
        exact ho3
  · have e1 : (cE != 0) = true := by rw [bne_iff_ne]; exact h0
    have HWr : Hid (Pk.wr (Tr.its L) = ([], cA, cE)) := by show _ = _; rw [Pk.wr_bad (by rw [hC.out]; exact h0), hC.out]
    clear h0
    go_enter Tryz.func11, Tryz.ntmps11
    go_wp2_with (go_at_call 30; refine (HCh.out _ (Bw.refl _)).mono ?_; rintro e w1 ⟨rfl, hw1⟩)
    refine bodyPost_ret (results_tmp3 rfl _ _ _) rfl ?_
    refine ⟨⟨.slice none 0 0, by rw [HWr.out]; rfl, ?_⟩, hw1⟩
    rw [HWr.out]
    exact World.ownsRow_nil _ _ _ _
end Go.Proofs.YtldkhbkgmiicbaaGreatDoor

/- The statements' helpers of layer 11: whether a lent list was kept. -/
namespace Go.Proofs.YtldkhbkgmiicbaaGreatDoor
open Go.RowKit Go.Deep
set_option linter.unusedVariables false
set_option linter.unusedSimpArgs false

end Go.Proofs.YtldkhbkgmiicbaaGreatDoor

/- The statements' helpers of layer 12: same, lent, kept (written by mkze.py). -/
namespace Go.Proofs.YtldkhbkgmiicbaaGreatDoor
open Go.RowKit Go.Deep
set_option linter.unusedVariables false
set_option linter.unusedSimpArgs false

set_option maxRecDepth 100000 in
set_option maxHeartbeats 8000000 in
theorem same12_any (A B : Option Addr) (n m ca cb : Nat) (f g : Nat → Int) (hn : n ≤ 4611686018427387904) (hm : m ≤ 4611686018427387904) (w : World) (ha : RowAt w A n f) (hb : RowAt w B m g) :
    Calls Tryz.prog 12 #[.slice A n ca, .slice B m cb] w fun e w' => TellsO e (n = m ∧ ∀ i, i < n → f i = g i) ∧ ∃ q, w' = w.drewN q := by
  by_cases hnm : n = m
  · subst hnm
    have e1 : ((n : Int) != (n : Int)) = false := by rw [bne_eq_false_iff_eq]
    go_enter Tryz.func12, Tryz.ntmps12
    go_wp2
    go_loopw [4, 5] (fun r i wr => ∃ (k q : Nat), k ≤ n ∧ r = .bool false ∧ i = .int .i64 (k : Int) ∧ Hid (∀ i, i < k → f i = g i) ∧ Hid (wr = w.drewN q)) (fun _ i _ => n - (intOf i).toNat)
    case atStart => exact ⟨0, 0, Nat.zero_le _, rfl, rfl, fun i hi => by omega, rfl⟩
    case round =>
      obtain ⟨k, q, hk, rfl, rfl, hall, hq⟩ := hrel
      have k0 : (0 : Int) ≤ (k : Int) := Int.natCast_nonneg _
      have hbw : Bw w wr := by rw [hq.out]; exact Bw.drewN w q
      by_cases hlt : k < n
      · obtain ⟨b1, o1, rfl, hc1⟩ := (ha.keep hbw).at hlt
        obtain ⟨b2, o2, rfl, hc2⟩ := (hb.keep hbw).at hlt
        have c1 := hc1 k hlt
        have c2 := hc2 k hlt
        have t1 : (k : Int) < (n : Int) := by omega
        have hq2 : Hid (∀ nq, wr.drewN nq = w.drewN (q + nq)) := fun nq => by rw [hq.out]; exact drewN_add7 w q nq
        clear hc1 hc2
        by_cases hfg : f k = g k
        · have e2 : (f k != g k) = false := by rw [bne_eq_false_iff_eq]; exact hfg
          have hH : Hid (f k = g k) := hfg
          clear hfg
          go_wp2
          go_quiet (fail)
          go_wp2
          go_roundw
          case rel => exact ⟨k + 1, _, by omega, rfl, by go_num, fun i hi => by rcases Nat.lt_or_ge i k with h | h; exact hall.out i h; rw [show i = k by omega]; exact hH.out, hq2.out _⟩
          case measure => simp [intOf]; omega
        · have e2 : (f k != g k) = true := by rw [bne_iff_ne]; exact hfg
          go_wp2
          go_quiet (fail)
          go_wp2
          go_ret
          exact ⟨TellsO.no (fun h => hfg (h.2 k hlt)), _, hq2.out _⟩
      · have ek : k = n := by omega
        subst ek
        have t1 : ¬ (k : Int) < (k : Int) := by omega
        go_wp2
        go_ret
        first | exact ⟨TellsO.yes ⟨rfl, hall.out⟩, q, hq.out⟩ | exact ⟨TellsO.yes hall.out, q, hq.out⟩
  · have e1 : ((n : Int) != (m : Int)) = true := by rw [bne_iff_ne]; omega
    go_enter Tryz.func12, Tryz.ntmps12
    go_wp2
    go_ret
    exact ⟨TellsO.no (fun h => hnm h.1), 0, rfl⟩

set_option maxRecDepth 100000 in
set_option maxHeartbeats 8000000 in
theorem lent12_any (A : Option Addr) (cap : Nat) (L : List Tr.Iv) (hn : (L.length + 1) * 80 ≤ 140737488355328) (w : World) (ha : ItsAt w A L) :
    Calls Tryz.prog 8 #[.slice A L.length cap] w fun e w' => ∃ g c M, e = .returned (.slice (some ⟨g, 0, none⟩) L.length c) ∧ Tr.its M = Tr.its L ∧ LentAt w' g c M ∧ w.heap.size ≤ g ∧ Bw w w' := by
  obtain ⟨n, hnn⟩ : ∃ n, Hid (L.length = n) := ⟨_, rfl⟩
  rw [hnn.out] at hn ⊢
  have HA : Hid (ItsAt w A L) := ha
  clear ha
  obtain ⟨i0, hi0, hz0, hz1, hz2⟩ := info_parts info_u8
  obtain ⟨j0, hj0, hy0, hy1, hy2⟩ := info_parts info_item
  obtain ⟨H, hH⟩ : ∃ H, Hid (w.heap.size = H) := ⟨_, rfl⟩
  rw [hH.out]
  have hbm := built_mark
  go_enter Tryz.func8, Tryz.ntmps8
  go_wp2
  go_loopw [3, 4] (fun v i wr => ∃ (k : Nat) (M : List Tr.Iv), k ≤ n ∧ i = .int .i64 (k : Int) ∧ Hid (Tr.its M = (Tr.its L).take k) ∧ Hid (∀ y ∈ M, MarkAt wr y) ∧ Hid (wr.ownsRow H 47 6 v k (Tr.cellsI M)) ∧ Bw w wr) (fun _ i _ => n - (intOf i).toNat)
  case atStart => exact ⟨0, [], Nat.zero_le _, rfl, by show _ = _; rfl, fun y hy => by simp at hy, World.ownsRow_nil _ _ _ _, Bw.refl _⟩
  case round =>
    obtain ⟨i, M, hi, rfl, hM, hmk, hown, hbw⟩ := hrel
    have i0' : (0 : Int) ≤ (i : Int) := Int.natCast_nonneg _
    by_cases hlt : i < n
    · have i1 : (i : Int) < (n : Int) := by omega
      obtain ⟨y, hy⟩ : ∃ y, Hid (L[i]? = some y) := ⟨_, List.getElem?_eq_getElem (by rw [hnn.out]; exact hlt)⟩
      have HFit : Hid (Tr.Fit y.it) := (HA.out.body y (List.mem_of_getElem? hy.out)).fit
      have hfb := HFit.out.body
      obtain ⟨b, off, rfl, hY, hBy⟩ := (HA.out.keep hbw).at hy.out
      have HY : Hid (ItAt wr b (off + i * 6) y) := hY
      have HBy : Hid (BodyAt wr y) := hBy
      clear hY hBy
      obtain ⟨q, hq⟩ : ∃ q, Hid (y.it.body.length = q) := ⟨_, rfl⟩
      rw [hq.out] at hfb
      have q0 : (0 : Int) ≤ (q : Int) := Int.natCast_nonneg _
      go_upto_region 9 with (first
        | refine wpList_load_it (by rfl) (.tmp 16) rfl b (off + i * 6) rfl y HY.out ?_
        | (refine wpList_store_row rfl 47 _ _ rfl wr.heap.size y.arr rfl rfl 47 _ (heap_alloc_new _ _) (info_it y) rfl (Tr.arr_one y) ?_; rw [setRow_alloc_new]; obtain ⟨W1, hW1⟩ : ∃ V, V = wr.alloc (.cells y.arr 47) := ⟨_, rfl⟩; have hX1 : BoxAt W1 wr.heap.size y := (by rw [hW1]; exact BoxAt.new _ _); have hb1 : Bw wr W1 := (by rw [hW1]; exact bw_alloc11 (Bw.refl _) _); rw [← hW1]; clear hW1; obtain ⟨-, -, -, -, x4, -⟩ := hX1.cells; rw [hq.out] at x4)
        | (at_builtin; refine wpList_append_rowat _ (by rfl) (.tmp 21) (.tmp 23) _ (by rfl) W1.heap.size 5 i0 _ 1 Tryz.underlying24 hi0 hz0 hz1 hz2 rfl _ _ _ (by rfl) (World.ownsRow_nil W1 _ _ _) y.ad q y.cp (Tr.rowF y.it.body) (by rfl) (by rw [← hq.out]; exact (HBy.out.keep hb1).row) HBy.out.nil (by unfold maxLen; omega) (by omega) (Nat.le_refl _) ?_; intro v1 w1 hown1 hgrow1; simp only [Nat.zero_add, List.nil_append] at hown1; have bw1 : Bw W1 w1 := (Below.refl _ _).grown hgrow1 (Nat.le_refl _) (fun k hk => by simp [Value.ownBlock] at hk)))
      have szw1 := bw1.size
      have hX2 := hX1.keep bw1
      go_upto_region 10 with (at_builtin; refine wpList_append_lies _ (by rfl) (.tmp 25) (.tmp 26) _ (by rfl) W1.heap.size 5 i0 _ 1 1 Tryz.underlying24 hi0 hz0 hz1 hz2 rfl (by omega) _ _ _ (by rfl) (hown1.alloc _) ⟨w1.heap.size, 0, none⟩ 1 1 [_] (by rfl) (by rfl) (World.news_of_block (cs := #[_]) (t := 5) (fr := (0, 0)) (heap_alloc_new w1 _)) (by simp [Value.oneCell']) (by omega) (by unfold maxLen; omega) (by omega) (by simp; omega) (w1.heap.size + 1) (by simp) ?_; intro g3 c3 w3 hown3 hgrow3 hat3 hlt3; have hcap3 : q + 1 ≤ c3 := (by rcases hown3.2 with ⟨e1, _⟩ | ⟨g, cap, cur, e1, _, _, h1, _⟩; cases e1; cases e1; exact h1); have hcap3' : (q : Int) ≤ (c3 : Int) := (by omega); have hb3 : Bw W1 w3 := bw_grow hgrow3 (Below.alloc bw1 szw1 _) (by rw [size_alloc]; omega) (hown1.alloc _))
      have hX3 := hX1.keep hb3
      have hown4 : w3.ownsRow W1.heap.size 5 1 (.slice (some ⟨g3, 0, none⟩) (q + 1) c3) (q + 1) (cellsU (Tr.rowF (y.it.body ++ [201])) (q + 1)) := by
        have e := Tr.cells_row y.it.body 201
        rw [hq.out] at e
        rw [← e]; exact hown3
      obtain ⟨g5, c5, e5, hg5, hc5, hc5', ho5⟩ := Own.of hown4 (by omega)
      cases e5
      obtain ⟨y', hy'⟩ : ∃ y' : Tr.Iv, y' = ⟨y.it, some ⟨g3, 0, none⟩, c3⟩ := ⟨_, rfl⟩
      have fz := box_cell4 hX3
      have cx := hX3.cells.2.2.2.2.1
      rw [hq.out] at cx
      have hX4 := box_set4 hX3 (some ⟨g3, 0, none⟩) c3
      rw [hq.out, ← hy'] at hX4
      have hne : g3 ≠ wr.heap.size := fun e => by have := hX1.it.lt; omega
      obtain ⟨w4, hw4⟩ : ∃ V, V = w3.setCell ⟨wr.heap.size, 4, none⟩ (.slice (some ⟨g3, 0, none⟩) q c3) := ⟨_, rfl⟩
      rw [← hw4] at hX4
      have hmk4 : MarkAt w4 y' := by
        subst hy'
        refine ⟨g3, rfl, ?_, by rw [hq.out]; exact hcap3, HFit.out⟩
        obtain ⟨cur, h1, h2⟩ := ho5
        rw [hq.out, hw4]
        exact ⟨cur, (heap_setCell_other w3 ⟨wr.heap.size, 4, none⟩ g3 _ hne).trans h1, h2⟩
      have hb4 : Bw wr w4 := by rw [hw4]; exact (hb1.trans hb3).put (Nat.le_refl _) _ _
      have HMK4 : Hid (MarkAt w4 y') := hmk4
      clear hmk4 ho5 hown4 hown3 hown1 hgrow3 hgrow1 hat3 hX2
      go_upto_region 11 with fail
      rw [← hw4]
      clear fz cx x4 hX3 hX1 hne hw4
      have hyi : Hid (y'.it = y.it) := by rw [hy']; rfl
      clear hy'
      obtain ⟨w5, hw5⟩ : ∃ V, V = w4.alloc (.cells y'.arr 47) := ⟨_, rfl⟩
      have hb5 : Bw w4 w5 := by rw [hw5]; exact bw_alloc11 (Bw.refl _) _
      have hX5 : BoxAt w5 w4.heap.size y' := by rw [hw5]; exact BoxAt.new _ _
      have HI5 : Hid (ItsAt w5 (some ⟨w4.heap.size, 0, none⟩) [y']) := its_one hX5 ((HMK4.out.keep hb5).body)
      have HO5 : Hid (w5.ownsRow H 47 6 u3 i (Tr.cellsI M)) := own_keep hown.out (hb4.trans hb5)
      have HMK5 : Hid (∀ z ∈ M ++ [y'], MarkAt w5 z) := fun z hz => by
        rcases List.mem_append.1 hz with h | h
        · exact (hmk.out z h).keep (hb4.trans hb5)
        · rw [List.mem_singleton.1 h]; exact HMK4.out.keep hb5
      have hbw5 := (hbw.trans hb4).trans hb5
      have hH5 : H ≤ w5.heap.size := by rw [← hH.out]; exact hbw5.size
      clear hX5 hb5
      go_wp2_with (first
        | refine wpList_load_it (by rfl) (.tmp 5) rfl wr.heap.size 0 rfl y' hX4.it ?_
        | (refine wpList_build_it rfl (.tmp 33) rfl y' rfl ?_; rw [← hw5]; clear hw5)
        | (at_builtin; refine wpList_append_its _ (by rfl) (.tmp 32) (.tmp 34) _ (by rfl) H 47 j0 _ 80 Tryz.underlying22 hj0 hy0 hy1 hy2 rfl _ _ _ (by rfl) HO5.out (some ⟨w4.heap.size, 0, none⟩) 1 [y'] 1 rfl (by rfl) HI5.out (fun e => by cases e) (by unfold maxLen; omega) (by omega) hH5 ?_; intro v6 w6 hown6 hgrow6))
      go_roundw
      case rel => exact ⟨i + 1, M ++ [y'], by omega, by go_num, by show _ = _; rw [Tr.its_append, hM.out, Tr.take_snoc (Tr.its_at hy.out), ← hyi.out]; rfl, fun z hz => (HMK5.out z hz).grown hgrow6 HO5.out, by rw [Tr.cellsI_append]; exact hown6, by
        have := bw_grow hgrow6 (base := H) (by rw [← hH.out]; exact hbw5) hH5 HO5.out
        rw [← hH.out] at this; exact this⟩
      case measure => simp [intOf]; omega
    · have ei : i = n := by omega
      subst ei
      have HML : Hid (M.length = i) := by
        have := congrArg List.length hM.out
        rw [Tr.its_len, List.length_take, Tr.its_len, hnn.out, Nat.min_self] at this
        exact this
      obtain ⟨w5, hw5⟩ : ∃ V, V = wr.alloc (.cells Tr.markI.arr 47) := ⟨_, rfl⟩
      have hb5 : Bw wr w5 := by rw [hw5]; exact bw_alloc11 (Bw.refl _) _
      have hX5 : BoxAt w5 wr.heap.size Tr.markI := by rw [hw5]; exact BoxAt.new _ _
      have HI5 : Hid (ItsAt w5 (some ⟨wr.heap.size, 0, none⟩) [Tr.markI]) := its_one hX5 (mark_body _)
      have HO5 : Hid (w5.ownsRow H 47 6 u3 i (Tr.cellsI M)) := own_keep hown.out hb5
      have HMK5 : Hid (∀ z ∈ M, MarkAt w5 z) := fun z h => (hmk.out z h).keep hb5
      have hbw5 := hbw.trans hb5
      have hH5 : H ≤ w5.heap.size := by rw [← hH.out]; exact hbw5.size
      clear hX5 hb5
      go_wp2_with (first
        | refine wpList_built11 rfl 47 _ rfl _ hbm ?_
        | (refine wpList_build_it rfl (.tmp 37) rfl Tr.markI rfl ?_; rw [← hw5]; clear hw5)
        | (at_builtin; refine wpList_append_its _ (by rfl) (.tmp 36) (.tmp 38) _ (by rfl) H 47 j0 _ 80 Tryz.underlying22 hj0 hy0 hy1 hy2 rfl _ _ _ (by rfl) HO5.out (some ⟨wr.heap.size, 0, none⟩) 1 [Tr.markI] 1 rfl (by rfl) HI5.out (fun e => by cases e) (by unfold maxLen; omega) (by omega) hH5 ?_; intro v6 w6 hown6 hgrow6; rcases hown6.2 with ⟨e1, h0⟩ | ⟨g6, cap6, cur6, e1, hg6, hh6, h1, h2, h3, h4⟩; omega; subst e1; have hic : (i : Int) ≤ (cap6 : Int) := (by omega)))
      go_ret
      have hb6 : Bw w w6 := by
        have := bw_grow hgrow6 (base := H) (by rw [← hH.out]; exact hbw5) hH5 HO5.out
        rw [← hH.out] at this; exact this
      have HMK6 : ∀ z ∈ M, MarkAt w6 z := fun z hz => (HMK5.out z hz).grown hgrow6 HO5.out
      have hown7 : w6.ownsRow H 47 6 (.slice (some ⟨g6, 0, none⟩) (i + 1) cap6) (M ++ [Tr.markI]).length (Tr.cellsI (M ++ [Tr.markI])) := by
        rw [Tr.cellsI_append, List.length_append, HML.out]; exact hown6
      obtain ⟨A7, c7, e7, hle7, hI7, -, -⟩ := its_of_own hown7 (fun z hz => by
        rcases List.mem_append.1 hz with h | h
        · exact (HMK6 z h).body
        · rw [List.mem_singleton.1 h]; exact mark_body _)
      injection e7 with ea el ec
      subst ea
      have hmark : w6.cell? ⟨g6, M.length * 6, none⟩ = some (.string ⟨#[109, 97, 114, 107]⟩) := by
        obtain ⟨b', o', e', hc, -⟩ := hI7.at (i := M.length) (y := Tr.markI) (by rw [List.getElem?_append_right (Nat.le_refl _), Nat.sub_self]; rfl)
        cases e'
        have := hc.c0
        rw [Nat.zero_add] at this
        exact this
      refine ⟨g6, cap6, M, rfl, by rw [hM.out, List.take_of_length_le]; rw [Tr.its_len, hnn.out]; exact Nat.le_refl _, ⟨hI7.front, HMK6, by rw [HML.out]; exact h1, hmark⟩, hg6, hb6⟩
set_option maxRecDepth 100000 in
set_option maxHeartbeats 8000000 in
theorem kept12_any (g c cb : Nat) (B : Option Addr) (M L : List Tr.Iv) (hl : L.length ≤ 4611686018427387904) (he : Tr.its M = Tr.its L) (w : World) (ha : LentAt w g c M) (hb : ItsAt w B L) :
    Calls Tryz.prog 13 #[.slice (some ⟨g, 0, none⟩) L.length c, .slice B L.length cb] w fun e w' => e = .returned (.bool true) ∧ Bw w w' := by
  have hml : M.length = L.length := by have := congrArg List.length he; rwa [Tr.its_len, Tr.its_len] at this
  have HS : Hid (∀ u, Bw w u → Calls Tryz.prog 27 #[.slice (some ⟨g, 0, none⟩) L.length c, .slice B L.length cb] u fun e w' => e = .returned (.bool true) ∧ Bw u w') := fun u hu => by
    have := rsame11_any (some ⟨g, 0, none⟩) B c cb M L (by omega) hl u (ha.its.keep hu) (hb.keep hu)
    rw [hml] at this
    refine this.mono fun e w' h => ?_
    obtain ⟨⟨x, rfl, hx⟩, hw⟩ := h
    rw [hx.2 he]; exact ⟨rfl, hw⟩
  obtain ⟨n, hnn⟩ : ∃ n, Hid (L.length = n) := ⟨_, rfl⟩
  rw [hnn.out] at hl hml HS ⊢
  have HA : Hid (LentAt w g c M) := ha
  have HML : Hid (M.length = n) := hml
  have hroom : n + 1 ≤ c := by have := ha.room; omega
  have hc1 : (n : Int) + 1 ≤ (c : Int) := by omega
  have hm0 : Hid (∀ u, Bw w u → u.cell? ⟨g, n * 6, none⟩ = some (.string ⟨#[109, 97, 114, 107]⟩)) := fun u hu => by
    have := (HA.out.keep hu).mark
    rwa [HML.out] at this
  clear ha hb he hml
  have n0 : (0 : Int) ≤ (n : Int) := Int.natCast_nonneg _
  have n1 : (0 : Int) ≤ (n : Int) + 1 := by omega
  go_enter Tryz.func13, Tryz.ntmps13
  go_wp2
  go_loop [5] (fun i => ∃ k : Nat, k ≤ n ∧ i = .int .i64 (k : Int)) (fun i => n - (intOf i).toNat)
  case atStart => exact ⟨0, Nat.zero_le _, rfl⟩
  case round =>
    obtain ⟨i, hi, rfl⟩ := hrel
    have i0 : (0 : Int) ≤ (i : Int) := Int.natCast_nonneg _
    by_cases hlt : i < n
    · have i1 : (i : Int) < (n : Int) := by omega
      obtain ⟨y, hy⟩ : ∃ y, Hid (M[i]? = some y) := ⟨_, List.getElem?_eq_getElem (by rw [HML.out]; exact hlt)⟩
      have hym := List.mem_of_getElem? hy.out
      obtain ⟨b', off', e', hY, -⟩ := HA.out.its.at hy.out
      cases e'
      obtain ⟨gb, had, hmk, hcp⟩ := (HA.out.marks y hym).mark
      have c4 := hY.c4
      rw [had] at c4
      rw [Nat.zero_add] at c4
      obtain ⟨q, hq⟩ : ∃ q, Hid (y.it.body.length = q) := ⟨_, rfl⟩
      have hqb : q ≤ 140737488351232 := by rw [← hq.out]; exact ((HA.out.marks y hym).body).fit.body
      rw [hq.out] at c4 hmk hcp
      have q0 : (0 : Int) ≤ (q : Int) := Int.natCast_nonneg _
      have q1 : (0 : Int) ≤ (q : Int) + 1 := by omega
      have q2 : (q : Int) + 1 ≤ (y.cp : Int) := by omega
      have q3 : (q : Int) < (q : Int) + 1 := by omega
      clear hY had hym
      go_wp2
      go_round
      case rel => exact ⟨i + 1, by omega, by go_num⟩
      case measure => simp [intOf]; omega
    · have ei : i = n := by omega
      subst ei
      have i3 : (i : Int) < (i : Int) + 1 := by omega
      go_wp2_with (go_at_call 27; refine (HS.out _ (Bw.refl _)).mono ?_; rintro e w1 ⟨rfl, hw1⟩; have cm := hm0.out w1 hw1)
      go_ret
      exact ⟨rfl, hw1⟩
end Go.Proofs.YtldkhbkgmiicbaaGreatDoor

/- The frame for texts and lists of texts that came in. -/
namespace Go.Proofs.YtldkhbkgmiicbaaGreatDoor
open Go.ChangeShapes Go.WideShapes Go.RowKit Go.Deep
set_option linter.unusedVariables false
set_option linter.unusedSimpArgs false

set_option maxRecDepth 100000 in
theorem open_str {H : Type} {enc : TypeId × Value → H} {W : World} {base : Nat} {v : Value} {d : DataW H} {p : List MemPlace} (hval : Value.okWide Tryz.prog W .any base 9 v)
    (h : DataW.Trod enc Tryz.prog W 0 (fun _ => true) true 9 v d p) (hw : ∀ x ∈ d.weights Tryz.prog 9, x ≤ reachBytes) : ∃ s : ByteArray, v = .string s ∧ d = .lit (.string s.data.toList) ∧ s.size ≤ 140737488351232 := by
  obtain ⟨s, rfl, rfl, rfl, hs⟩ := Go.ChangeMaps.open_string Tryz.underlying9 hval h
  refine ⟨s, rfl, rfl, ?_⟩
  have := hw s.data.toList.length (by simp [DataW.weights])
  rw [Array.length_toList] at this
  exact this
/-- what the bound says of one part -/
theorem upto_part {H : Type} {ds : List (DataW H)} {d : DataW H} (hd : d ∈ ds) (hk : Rows.uptoSmall H ds = true) : Rows.uptoBulk d ≤ 1048576 := by
  have h : Rows.uptoBulkAll ds ≤ 1048576 := of_decide_eq_true hk
  refine Nat.le_trans ?_ h
  clear h hk
  induction ds with
  | nil => cases hd
  | cons x r ih =>
    simp only [Rows.uptoBulkAll]
    cases List.mem_cons.1 hd with
    | inl e => subst e; omega
    | inr e => have := ih e; omega
theorem upto_str {H : Type} {ds : List (DataW H)} {s : ByteArray} (hd : DataW.lit (.string s.data.toList) ∈ ds) (hk : Rows.uptoSmall H ds = true) : s.size ≤ 1048576 := by
  have h := upto_part hd hk
  simp only [Rows.uptoBulk] at h
  have e : s.data.toList.length = s.size := by rw [Array.length_toList]; rfl
  omega
/-- a list of texts that came in, all of it small -/
structure InStrs (w : World) (A : Option Addr) (n cap : Nat) (T : Nat → ByteArray) : Prop where
  strs : StrsAt w A n T
  le : n ≤ cap
  room : cap ≤ 1048576
  nil : A = none → cap = 0
  each : ∀ i, (T i).size ≤ 1048576
  all : Nm.tot (partsL T n) ≤ 1048576
theorem bulk_strs {H : Type} (T : Nat → ByteArray) : ∀ n, Rows.uptoBulkAll ((List.range n).map fun i => DataW.lit (H := H) (.string (T i).data.toList)) = Nm.tot (partsL T n)
  | 0 => rfl
  | n + 1 => by
    have happ : ∀ l r : List (DataW H), Rows.uptoBulkAll (l ++ r) = Rows.uptoBulkAll l + Rows.uptoBulkAll r := by
      intro l
      induction l with
      | nil => intro r; simp [Rows.uptoBulkAll]
      | cons x l ih => intro r; simp only [List.cons_append, Rows.uptoBulkAll, ih]; omega
    have e : (T n).data.toList.length = (T n).toList.length := by rw [ByteArray.toList_eq]
    rw [List.range_succ, List.map_append, happ, bulk_strs T n, partsL_succ, Nm.tot_append]
    simp only [List.map_cons, List.map_nil, Rows.uptoBulkAll, Rows.uptoBulk, Nm.tot, e]
theorem open_texts {H : Type} {enc : TypeId × Value → H} {W : World} {A : Option Addr} {n cap : Nat} {ds : List (DataW H)} {d : DataW H} {p : List MemPlace}
    (h : DataW.Trod enc Tryz.prog W 0 (fun _ => true) true 149 (.slice A n cap) d p) (hd : d ∈ ds) (hk : Rows.uptoSmall H ds = true) : ∃ T, InStrs W A n cap T := by
  obtain ⟨fuel, hf⟩ := h
  have hb := upto_part hd hk
  rcases open_strs Tryz.underlying149 Tryz.underlying9 (by kernel_rfl) hf with ⟨hcs, _⟩ | ⟨a, len, cap', m, Sx, hcs, _, hl, hm, hmm, hx, hc⟩
  · simp [Value.cells] at hcs
    obtain ⟨rfl, rfl, rfl⟩ := hcs
    exact ⟨fun _ => ⟨#[]⟩, Or.inl rfl, Nat.le_refl _, by omega, fun _ => rfl, fun _ => by show 0 ≤ 1048576; omega, by show 0 ≤ 1048576; omega⟩
  · simp [Value.cells] at hcs
    obtain ⟨rfl, rfl, rfl⟩ := hcs
    simp only [Prod.mk.injEq] at hx
    obtain ⟨rfl, _⟩ := hx
    simp only [if_true] at hmm
    subst hmm
    simp only [Rows.uptoBulk] at hb
    have hlen : ∀ k (f : Nat → DataW H), k ≤ Rows.uptoBulkAll ((List.range k).map f) := by
      intro k f
      have : ∀ l : List (DataW H), l.length ≤ Rows.uptoBulkAll l := by
        intro l
        induction l with
        | nil => simp [Rows.uptoBulkAll]
        | cons x r ih =>
          have h1 : 1 ≤ Rows.uptoBulk x := by cases x with
            | lit l => cases l <;> simp [Rows.uptoBulk]
            | nil => simp [Rows.uptoBulk]
            | ptr d => simp [Rows.uptoBulk]
            | slice elems spare => simp [Rows.uptoBulk]
            | agg parts => simp [Rows.uptoBulk]
            | iface t d => simp [Rows.uptoBulk]
            | map entries => simp [Rows.uptoBulk]
            | held h => simp [Rows.uptoBulk]
          simp only [Rows.uptoBulkAll, List.length_cons]; omega
      have := this ((List.range k).map f)
      simpa using this
    have h1 := bulk_strs (H := H) Sx n
    have h2 := hlen (m - n) (fun j => DataW.lit (Lit.string (Sx (n + j)).data.toList))
    have h3 := hlen n (fun j => DataW.lit (Lit.string (Sx j).data.toList))
    rw [h1] at h3
    have htot : Nm.tot (partsL Sx n) ≤ 1048576 := by omega
    have heach : ∀ i, i < n → (Sx i).size ≤ 1048576 := fun i hi => by
      have hm : (Sx i).toList ∈ partsL Sx n := by unfold partsL; exact List.mem_map.2 ⟨i, List.mem_range.2 hi, rfl⟩
      have : ∀ ps : List Nm.B, (Sx i).toList ∈ ps → (Sx i).toList.length + 1 ≤ Nm.tot ps := fun ps => by
        induction ps with
        | nil => intro h; cases h
        | cons q r ih =>
          intro h
          rcases List.mem_cons.1 h with h | h
          · rw [h]; unfold Nm.tot; omega
          · have := ih h; unfold Nm.tot; omega
      have h4 := this _ hm
      rw [Nm.size_toList] at h4
      omega
    refine ⟨fun i => if i < n then Sx i else ⟨#[]⟩, ?_, by omega, by omega, (fun e => by cases e), fun i => ?_, ?_⟩
    · rcases Nat.eq_zero_or_pos n with h0 | h0
      · exact Or.inl h0
      · obtain ⟨b, off, rfl, hcc⟩ := cells_plain (n := m) (V := fun i => .string (Sx i)) (fun i hi => (hc i hi).1) (by omega)
        exact Or.inr ⟨b, off, rfl, fun i hi => by rw [hcc i (by omega)]; dsimp only; rw [if_pos hi]⟩
    · split
      · rename_i hi; exact heach i hi
      · show 0 ≤ 1048576; omega
    · have e : partsL (fun i => if i < n then Sx i else ⟨#[]⟩) n = partsL Sx n := by
        unfold partsL
        exact List.map_congr_left fun i hi => by dsimp only; rw [if_pos (List.mem_range.1 hi)]
      rw [e]; exact htot
end Go.Proofs.YtldkhbkgmiicbaaGreatDoor
