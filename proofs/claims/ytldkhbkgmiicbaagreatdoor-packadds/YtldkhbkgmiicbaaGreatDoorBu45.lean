/- Texts of mine, put together. -/
import Derived.Test.YtldkhbkgmiicbaaGreatDoorBu37
import Derived.Test.YtldkhbkgmiicbaaGreatDoorBu44
import Derived.Test.YtldkhbkgmiicbaaGreatDoorBu13
import Derived.Test.YtldkhbkgmiicbaaGreatDoorBu40
import Derived.Test.YtldkhbkgmiicbaaGreatDoorBu15

/- Layer 12: the program's own Write and Size, as landed at 16cf8173. -/
namespace Go.Proofs.YtldkhbkgmiicbaaGreatDoor
open Go.RowKit Go.Deep
set_option linter.unusedVariables false
set_option linter.unusedSimpArgs false

/-- what Write answers -/
def WriteEnds (t : List Tr.It) (base : Nat) (e : Ending) (w' : World) : Prop := ∃ u, e = .returned (.tuple #[u, .int .i64 ((Pk.wr t).2.1 : Int), .int .i64 (Pk.wr t).2.2]) ∧ w'.ownsRow base 5 1 u (Pk.wr t).1.length (Lib.byteCells (Pk.wr t).1)
end Go.Proofs.YtldkhbkgmiicbaaGreatDoor

/- Layer 12: the document's own Write. -/
namespace Go.Proofs.YtldkhbkgmiicbaaGreatDoor
open Go.RowKit Go.Deep
set_option linter.unusedVariables false
set_option linter.unusedSimpArgs false

theorem wpList_append_noughts {w : World} {ops : Array Oper} {rest : List Oper} {o : Oper} {a : Act} {Q : Exit → Act → World → Prop} (hgd : o.guard = none) (s : Operand) (m : Nat)
    (ho : o.op = .call { callee := .builtin .append, args := #[s, .const (.int .i64 (m : Int))], argTypes := #[24, 3] })
    (base : Nat) (v : Value) (X : Pk.B) (n : Nat) (hs : a.eval s = v) (hown : w.ownsRow base 5 1 v n (Lib.byteCells X)) (h0 : 0 < m) (hb : n + m ≤ 1048576) (hbase : base ≤ w.heap.size)
    (h : ∀ A' c' w', w'.ownsRow base 5 1 (.slice A' (n + m) c') (n + m) (Lib.byteCells (X ++ List.replicate m 0)) → w.grownBy w' v.ownBlock → wpList Tryz.prog ops Q rest (a.put o.dst (.slice A' (n + m) c')) w') : wpList Tryz.prog ops Q (o :: rest) a w := by
  refine wpList_plain hgd fun K hK => ?_
  obtain ⟨v', w', hrun, ho', hg⟩ := run_append_noughts w base v n _ hown m h0 hb hbase o.type
  have he : a.eval (.const (.int .i64 (m : Int))) = .int .i64 (m : Int) := rfl
  unfold Oper.wp execOp
  simp only [ho, resolve, invoke, builtin, Sem.run_bind, Sem.run_pure, Result.andThen_ok, List.map_toArray, List.map_cons, List.map_nil, hs, he, hrun]
  rw [← byteCells_zeros, ← byteCells_app12] at ho'
  obtain ⟨A', c', rfl⟩ := own_slice12 ho'
  exact hK _ _ (h A' c' w' ho' hg)
set_option maxRecDepth 100000 in
set_option maxHeartbeats 4000000 in
theorem rwrite_any (A : Option Addr) (cap : Nat) (L : List Tr.Iv) (hn : L.length ≤ 4611686018427387904) (hcap : L.length ≤ cap) (w : World) (ha : ItsAt w A L) :
    Calls Tryz.prog 11 #[.slice A L.length cap] w fun e w' => WriteEnds (Tr.its L) w.heap.size e w' ∧ Bw w w' := by
  obtain ⟨cA, cE, hC⟩ : ∃ a b, Hid (Tr.chkE (Tr.its L) = (a, b)) := ⟨_, _, show Tr.chkE (Tr.its L) = _ from rfl⟩
  have HCh : Hid (∀ u, Bw w u → Calls Tryz.prog 30 #[.slice A L.length cap] u fun e w' => e = .returned (.tuple #[.int .i64 (cA : Int), .int .i64 cE]) ∧ Bw u w') := fun u hu => by
    have := rcheck11_any A cap L hn hcap u (ha.keep hu)
    rwa [hC.out] at this
  obtain ⟨n, hnn⟩ : ∃ n, Hid (L.length = n) := ⟨_, rfl⟩
  rw [hnn.out] at hn hcap HCh ⊢
  have HA : Hid (ItsAt w A L) := ha
  clear ha
  by_cases h0 : cE = 0
  · subst h0
    have hck := Tr.chk_zero (t := Tr.its L) (by rw [hC.out])
    have HOk : Hid (Tr.Ok (Tr.its L)) := hck.2
    have hn256 : n ≤ 256 := by rw [← hnn.out, ← Tr.its_len]; exact hck.1
    have HWr : Hid (Pk.wr (Tr.its L) = Pk.wrF [] 0 (Tr.its L)) := Pk.wr_good (by rw [hC.out])
    clear hck
    go_enter Tryz.func11, Tryz.ntmps11
    go_wp2_with (go_at_call 30; refine (HCh.out _ (Bw.refl _)).mono ?_; rintro e w1 ⟨rfl, hw1⟩)
    go_loopw [7, 8] (fun s i wr => ∃ k : Nat, k ≤ n ∧ i = .int .i64 (k : Int) ∧ ∃ A' c' m, s = .slice A' m c' ∧ m ≤ 130048 ∧ Hid (Pk.Upto (Tr.its L) k ∧ (Pk.flat ((Tr.its L).take k)).length = m ∧ wr.ownsRow w.heap.size 5 1 (.slice A' m c') m (Lib.byteCells (Pk.flat ((Tr.its L).take k)))) ∧ Bw w wr) (fun s i _ => n - (intOf i).toNat)
    case atStart => exact ⟨0, Nat.zero_le _, rfl, none, 0, 0, rfl, Nat.zero_le _, ⟨Pk.upto_zero _, rfl, World.ownsRow_nil _ _ _ _⟩, hw1⟩
    case round =>
      obtain ⟨k, hkn, rfl, A1, c1, m, rfl, hm, hI, hbw⟩ := hrel
      have k0 : (0 : Int) ≤ (k : Int) := Int.natCast_nonneg _
      by_cases hlt : k < n
      · have i1 : (k : Int) < (n : Int) := by omega
        obtain ⟨y, hy⟩ : ∃ y, Hid (L[k]? = some y) := ⟨_, List.getElem?_eq_getElem (by rw [hnn.out]; exact hlt)⟩
        obtain ⟨b, off, rfl, hY, hB⟩ := (HA.out.keep hbw).at hy.out
        have HX : Hid ((Tr.its L)[k]? = some y.it) := by show _ = _; unfold Tr.its; rw [List.getElem?_map, hy.out]; rfl
        have HY : Hid (ItAt wr b (off + k * 6) y) := hY
        have hmay := Tr.step_may (HOk.out k y.it HX.out)
        obtain ⟨np, hnp⟩ : ∃ q, Hid ((Pk.pcs y.it).length = q) := ⟨_, rfl⟩
        have hnpb : np ≤ 70000 := by rw [← hnp.out]; have := Pk.pcs_len y.it; have := Pk.may_body hmay; omega
        have HP : Hid (Calls Tryz.prog 31 #[.agg y.arr] wr fun e w' => (∃ A c, e = .returned (.slice A np c) ∧ RowAt w' A np (Hd.rowF (Pk.pcs y.it)) ∧ (A = none → c = 0)) ∧ Bw wr w') := (rpcs_any y hmay wr hB).mono fun e w' ⟨⟨u, h1, h2⟩, h3⟩ => by
          obtain ⟨A, c, rfl, hr, hc⟩ := own_rowat12 h2
          rw [hnp.out] at hr h1
          exact ⟨⟨A, c, h1, hr, hc⟩, h3⟩
        obtain ⟨R, hR⟩ : ∃ R, Hid (Pk.flat ((Tr.its L).take k) = R) := ⟨_, rfl⟩
        have HUp : Hid (Pk.Upto (Tr.its L) k) := hI.out.1
        have HRl : Hid (R.length = m) := by rw [← hR.out]; exact hI.out.2.1
        have HOw : Hid (wr.ownsRow w.heap.size 5 1 (.slice A1 m c1) m (Lib.byteCells R)) := by rw [← hR.out]; exact hI.out.2.2
        obtain ⟨q, hq⟩ : ∃ q, Hid (m + np = q) := ⟨_, rfl⟩
        have hqb : q ≤ 210000 := by rw [← hq.out]; omega
        have hlen : (R ++ Pk.pcs y.it).length = q := by rw [List.length_append, HRl.out, hnp.out, hq.out]
        clear hY hB hI hmay
        by_cases hbig : 131072 < q + 1024
        · have HWS : Hid (Pk.wrF [] 0 (Tr.its L) = ([], k, 2)) := Pk.upto_stop HUp.out HX.out (by rw [hR.out, hlen]; exact hbig)
          have i2 : (131072 : Int) < (q : Int) + 1024 := by omega
          clear hlen hbig
          go_wp2_with (first
            | (refine wpList_load_it (by rfl) _ rfl b (off + k * 6) rfl y HY.out ?_)
            | (go_at_call 31; refine HP.out.mono ?_; rintro e w2 ⟨⟨A2, c2, rfl, hr2, hn2⟩, hw2⟩)
            | (at_builtin; refine wpList_append_by (by rfl) (.tmp 24) (.tmp 29) (by rfl) w.heap.size (.slice A1 m c1) R m HRl.out (by rfl) (own_keep HOw.out hw2) A2 np c2 (Pk.pcs y.it) hnp.out (by rfl) hr2 hn2 (by omega) (hbw.trans hw2).size ?_; intro A3 c3 w3 ho3 hg3; rw [hq.out] at ho3 ⊢; have hb3 : Bw w w3 := bw_grow12 (hbw.trans hw2) hg3 (own_keep HOw.out hw2)))
          refine bodyPost_ret (results_tmp3 rfl _ _ _) rfl ?_
          refine ⟨⟨.slice none 0 0, by rw [HWr.out, HWS.out]; rfl, ?_⟩, hb3⟩
          rw [HWr.out, HWS.out]
          exact World.ownsRow_nil _ _ _ _
        · have HUN : Hid (Pk.Upto (Tr.its L) (k + 1)) := Pk.upto_next HUp.out HX.out (by rw [hR.out, hlen]; exact hbig)
          have HFN : Hid (Pk.flat ((Tr.its L).take (k + 1)) = R ++ Pk.pcs y.it) := by show _ = _; rw [Pk.flat_take HX.out, hR.out]
          have HLN : Hid ((R ++ Pk.pcs y.it).length = q) := hlen
          have i2 : decide ((131072 : Int) < (q : Int) + 1024) = false := by rw [decide_eq_false_iff_not]; omega
          have hq3 : Hid (q ≤ 130048) := by show q ≤ 130048; omega
          clear hlen hbig
          go_wp2_with (first
            | (refine wpList_load_it (by rfl) _ rfl b (off + k * 6) rfl y HY.out ?_)
            | (go_at_call 31; refine HP.out.mono ?_; rintro e w2 ⟨⟨A2, c2, rfl, hr2, hn2⟩, hw2⟩)
            | (at_builtin; refine wpList_append_by (by rfl) (.tmp 24) (.tmp 29) (by rfl) w.heap.size (.slice A1 m c1) R m HRl.out (by rfl) (own_keep HOw.out hw2) A2 np c2 (Pk.pcs y.it) hnp.out (by rfl) hr2 hn2 (by omega) (hbw.trans hw2).size ?_; intro A3 c3 w3 ho3 hg3; rw [hq.out] at ho3 ⊢; have hb3 : Bw w w3 := bw_grow12 (hbw.trans hw2) hg3 (own_keep HOw.out hw2)))
          go_round
          case measure => simp only [intOf]; omega
          case rel => exact ⟨k + 1, by omega, rfl, A3, c3, q, rfl, hq3.out, ⟨HUN.out, by rw [HFN.out]; exact HLN.out, by rw [HFN.out]; exact ho3⟩, hb3⟩
      · have i1 : ¬ (k : Int) < (n : Int) := by omega
        obtain rfl : k = n := by omega
        have hT : (Tr.its L).take k = Tr.its L := List.take_of_length_le (by rw [Tr.its_len, hnn.out]; exact Nat.le_refl _)
        have HUE : Hid (Pk.Upto (Tr.its L) (Tr.its L).length) := by rw [Tr.its_len, hnn.out]; exact hI.out.1
        rw [hT] at hI
        have HOw : Hid (wr.ownsRow w.heap.size 5 1 (.slice A1 m c1) m (Lib.byteCells (Pk.flat (Tr.its L)))) := hI.out.2.2
        have HRl : Hid ((Pk.flat (Tr.its L)).length = m) := hI.out.2.1
        clear hI
        go_wp2_with (at_builtin; refine wpList_append_noughts (by rfl) (.tmp 36) 1024 (by rfl) w.heap.size (.slice A1 m c1) (Pk.flat (Tr.its L)) m (by rfl) HOw.out (by decide) (by omega) hbw.size ?_; intro A3 c3 w3 ho3 hg3; have hb3 : Bw w w3 := bw_grow12 hbw hg3 HOw.out)
        refine bodyPost_ret (results_tmp3 rfl _ _ _) rfl ?_
        refine ⟨⟨_, by rw [HWr.out, Pk.upto_end HUE.out]; rfl, ?_⟩, hb3⟩
        rw [HWr.out, Pk.upto_end HUE.out]
        show World.ownsRow _ _ _ _ _ (Pk.flat (Tr.its L) ++ List.replicate 1024 0).length _
        rw [List.length_append, List.length_replicate, HRl.out]
        exact ho3
  · have e1 : (cE != 0) = true := by rw [bne_iff_ne]; exact h0
    have HWr : Hid (Pk.wr (Tr.its L) = ([], cA, cE)) := by show _ = _; rw [Pk.wr_bad (by rw [hC.out]; exact h0), hC.out]
    clear h0
    go_enter Tryz.func11, Tryz.ntmps11
    go_wp2_with (go_at_call 30; refine (HCh.out _ (Bw.refl _)).mono ?_; rintro e w1 ⟨rfl, hw1⟩)
    refine bodyPost_ret (results_tmp3 rfl _ _ _) rfl ?_
    refine ⟨⟨.slice none 0 0, by rw [HWr.out]; rfl, ?_⟩, hw1⟩
    rw [HWr.out]
    exact World.ownsRow_nil _ _ _ _
end Go.Proofs.YtldkhbkgmiicbaaGreatDoor

/- Layer 12: the document's own Writer: Add, Len, Close. -/
namespace Go.Proofs.YtldkhbkgmiicbaaGreatDoor
open Go.RowKit Go.Deep
set_option linter.unusedVariables false
set_option linter.unusedSimpArgs false

/-- the document's writer in memory: its items, whether it is closed -/
structure RWk (w : World) (gx : Nat) (cl : Bool) (A : Option Addr) (c : Nat) (L : List Tr.Iv) : Prop where
  at_ : w.heap[gx]? = some (.cells #[.slice A L.length c, .bool cl] 44 (0, 0))
  its : ItsAt w A L
  le : L.length ≤ c
  nil : A = none → L.length = 0 ∧ c = 0
theorem body_bx12 {S : Nat → Prop} {w w' : World} {y : Tr.Iv} (h : BodyAt w y) (k : Bx S w w') (hS : ∀ b o, y.ad = some ⟨b, o, none⟩ → 0 < y.it.body.length → ¬ S b) : BodyAt w' y := by
  refine ⟨⟨?_, h.row.2⟩, h.le, h.nil, h.fit⟩
  rcases h.row.1 with h0 | ⟨b, o, e, hc⟩
  · exact .inl h0
  · refine .inr ⟨b, o, e, fun i hi => ?_⟩
    have hl : b < w.heap.size := World.block_lt_of_cell? w _ (hc i hi)
    rw [World.cell?_of_block (a := ⟨b, o + i, none⟩) (k.block b hl (hS b o e (by omega)))]
    exact hc i hi
theorem row_bx12 {S : Nat → Prop} {w w' : World} {A : Option Addr} {n : Nat} {f : Nat → Int} (h : RowAt w A n f) (k : Bx S w w') (hS : ∀ b o, A = some ⟨b, o, none⟩ → 0 < n → ¬ S b) : RowAt w' A n f := by
  refine ⟨?_, h.2⟩
  rcases h.1 with h0 | ⟨b, o, e, hc⟩
  · exact .inl h0
  · refine .inr ⟨b, o, e, fun i hi => ?_⟩
    have hl : b < w.heap.size := World.block_lt_of_cell? w _ (hc i hi)
    rw [World.cell?_of_block (a := ⟨b, o + i, none⟩) (k.block b hl (hS b o e (by omega)))]
    exact hc i hi
theorem it_bx12 {S : Nat → Prop} {w w' : World} {b o : Nat} {y : Tr.Iv} (h : ItAt w b o y) (k : Bx S w w') (hS : ¬ S b) : ItAt w' b o y := by
  have hl : b < w.heap.size := World.block_lt_of_cell? w _ h.c0
  have e : ∀ p v, w.cell? ⟨b, p, none⟩ = some v → w'.cell? ⟨b, p, none⟩ = some v := fun p v hv => by
    rw [World.cell?_of_block (a := ⟨b, p, none⟩) (k.block b hl hS)]; exact hv
  exact ⟨e _ _ h.c0, e _ _ h.c1, e _ _ h.c2, e _ _ h.c3, e _ _ h.c4, e _ _ h.c5⟩
theorem its_bx12 {S : Nat → Prop} {w w' : World} {A : Option Addr} {L : List Tr.Iv} (h : ItsAt w A L) (k : Bx S w w') (hA : ∀ b o, A = some ⟨b, o, none⟩ → ¬ S b) (hB : ∀ y ∈ L, ∀ b o, y.ad = some ⟨b, o, none⟩ → 0 < y.it.body.length → ¬ S b) : ItsAt w' A L := by
  refine ⟨?_, fun y hy => body_bx12 (h.body y hy) k (hB y hy)⟩
  rcases h.at_ with h0 | ⟨b, off, e, hc⟩
  · exact .inl h0
  · exact .inr ⟨b, off, e, fun i y hy => it_bx12 (hc i y hy) k (hA b off e)⟩
namespace RWk
variable {w w' : World} {gx : Nat} {cl : Bool} {A : Option Addr} {c : Nat} {L : List Tr.Iv}
theorem lt (h : RWk w gx cl A c L) : gx < w.heap.size := (Array.getElem?_eq_some_iff.1 h.at_).1
theorem keep (h : RWk w gx cl A c L) (k : Bw w w') : RWk w' gx cl A c L := ⟨(k.block gx h.lt).trans h.at_, h.its.keep k, h.le, h.nil⟩
theorem c0 (h : RWk w gx cl A c L) : w.cell? ⟨gx, 0, none⟩ = some (.slice A L.length c) := cell_of_row w gx 0 _ _ _ h.at_
theorem c1 (h : RWk w gx cl A c L) : w.cell? ⟨gx, 1, none⟩ = some (.bool cl) := cell_of_row w gx 1 _ _ _ h.at_
theorem fz (h : RWk w gx cl A c L) (k : Nat) : w.frozen? ⟨gx, k, none⟩ = false := frozen_of_row w gx k _ _ h.at_
end RWk
theorem bw_none12 {w w' : World} (h : w.grownBy w' (Value.slice none 0 0).ownBlock) : Bw w w' := ⟨h.os, h.tape, h.output, h.size, fun b hb => h.block b hb (fun e => by cases e)⟩
theorem radd12_nil (y : Tr.Iv) (w : World) : Calls Tryz.prog 17 #[.pointer none, .agg y.arr] w fun e w' => e = .returned (.int .i64 8) ∧ Bw w w' := by
  go_enter Tryz.func17, Tryz.ntmps17
  go_wp2
  go_ret
  exact ⟨rfl, bw_alloc11 (Bw.refl _) _⟩
theorem radd12_shut {w : World} {gx : Nat} {A : Option Addr} {c : Nat} {L : List Tr.Iv} (h : RWk w gx true A c L) (y : Tr.Iv) : Calls Tryz.prog 17 #[.pointer (some ⟨gx, 0, none⟩), .agg y.arr] w fun e w' => e = .returned (.int .i64 7) ∧ Bw w w' := by
  obtain ⟨W, hW⟩ : ∃ W, Hid (w.alloc (.cells y.arr 47) = W) := ⟨_, rfl⟩
  have hbw : Bw w W := by rw [← hW.out]; exact bw_alloc11 (Bw.refl _) _
  have c1 := (h.keep hbw).c1
  clear h
  go_enter Tryz.func17, Tryz.ntmps17
  go_wp2_with (rw [hW.out])
  go_ret
  exact ⟨rfl, hbw⟩
theorem rlen12_nil (w : World) : Calls Tryz.prog 19 #[.pointer none] w fun e w' => e = .returned (.int .i64 0) ∧ Bw w w' := by
  go_enter Tryz.func19, Tryz.ntmps19
  go_wp2
  go_ret
  exact ⟨rfl, Bw.refl _⟩
theorem rclose12_nil (w : World) : Calls Tryz.prog 21 #[.pointer none] w fun e w' => e = .returned (.tuple #[.slice none 0 0, .int .i64 8]) ∧ w' = w := by
  go_enter Tryz.func21, Tryz.ntmps21
  go_wp2
  go_ret2
  exact ⟨rfl, rfl⟩
theorem rclose12_shut {w : World} {gx : Nat} {A : Option Addr} {c : Nat} {L : List Tr.Iv} (h : RWk w gx true A c L) : Calls Tryz.prog 21 #[.pointer (some ⟨gx, 0, none⟩)] w fun e w' => e = .returned (.tuple #[.slice none 0 0, .int .i64 7]) ∧ w' = w := by
  have c1 := h.c1
  clear h
  go_enter Tryz.func21, Tryz.ntmps21
  go_wp2
  go_ret2
  exact ⟨rfl, rfl⟩
theorem rlen12_any {w : World} {gx : Nat} {cl : Bool} {A : Option Addr} {c : Nat} {L : List Tr.Iv} (h : RWk w gx cl A c L) (hl : L.length ≤ 256) (hw : Pk.wr (Tr.its L) = (Pk.flat (Tr.its L) ++ List.replicate 1024 0, 0, 0)) (hr : (Pk.flat (Tr.its L)).length + 1024 ≤ 131072) :
    Calls Tryz.prog 19 #[.pointer (some ⟨gx, 0, none⟩)] w fun e w' => e = .returned (.int .i64 ((Pk.flat (Tr.its L)).length : Int)) ∧ Bw w w' := by
  have HW := rwrite_any A c L (by omega) h.le w h.its
  have c0 := h.c0
  obtain ⟨n, hn⟩ : ∃ n, Hid (L.length = n) := ⟨_, rfl⟩
  obtain ⟨m, hm⟩ : ∃ n, Hid ((Pk.flat (Tr.its L)).length = n) := ⟨_, rfl⟩
  rw [hn.out] at c0 HW
  rw [hm.out] at hr ⊢
  have HE : Hid (∀ e w', WriteEnds (Tr.its L) w.heap.size e w' → ∃ A' c', e = .returned (.tuple #[.slice A' (m + 1024) c', .int .i64 0, .int .i64 0])) := fun e w' ⟨u, h1, h2⟩ => by
    rw [hw] at h1 h2
    rw [List.length_append, List.length_replicate, hm.out] at h2
    obtain ⟨A', c', rfl⟩ := own_slice12 h2
    exact ⟨A', c', h1⟩
  have e1 : ((m + 1024 : Nat) : Int) - 1024 = (m : Int) := by omega
  clear h hw
  go_enter Tryz.func19, Tryz.ntmps19
  go_wp2_with (go_at_call 11; refine HW.mono ?_; rintro e w1 ⟨h1, hw1⟩; obtain ⟨A', c', rfl⟩ := HE.out _ _ h1)
  go_ret
  exact ⟨rfl, hw1⟩
set_option maxRecDepth 100000 in
theorem rclose12_any {w : World} {gx : Nat} {A : Option Addr} {c : Nat} {L : List Tr.Iv} (h : RWk w gx false A c L) (hl : L.length ≤ 256) (hw : Pk.wr (Tr.its L) = (Pk.flat (Tr.its L) ++ List.replicate 1024 0, 0, 0)) (hA : ∀ b o, A = some ⟨b, o, none⟩ → b ≠ gx) (hB : ∀ y ∈ L, ∀ b o, y.ad = some ⟨b, o, none⟩ → 0 < y.it.body.length → b ≠ gx) :
    Calls Tryz.prog 21 #[.pointer (some ⟨gx, 0, none⟩)] w fun e w' => ∃ A' c', e = .returned (.tuple #[.slice A' (Pk.flat (Tr.its L) ++ List.replicate 1024 0).length c', .int .i64 0]) ∧ RowAt w' A' (Pk.flat (Tr.its L) ++ List.replicate 1024 0).length (Hd.rowF (Pk.flat (Tr.its L) ++ List.replicate 1024 0)) ∧ RWk w' gx true A c L ∧ Bx (fun b => b = gx) w w' := by
  have c1 := h.c1
  have f1 := h.fz 1
  have bx1 : Bx (fun b => b = gx) w (w.setCell ⟨gx, 1, none⟩ (.bool true)) := Bx.put (Bx.refl _ _) rfl
  have hd1 : RWk (w.setCell ⟨gx, 1, none⟩ (.bool true)) gx true A c L := ⟨heap_setCell_same w gx 1 _ _ (.bool true) h.at_, its_bx12 h.its bx1 (fun b o e hs => hA b o e hs) (fun y hy b o e h0 hs => hB y hy b o e h0 hs), h.le, h.nil⟩
  obtain ⟨W1, hW1⟩ : ∃ V, Hid (w.setCell ⟨gx, 1, none⟩ (.bool true) = V) := ⟨_, rfl⟩
  rw [hW1.out] at bx1 hd1
  have HW := rwrite_any A c L (by omega) h.le W1 hd1.its
  have c0 := hd1.c0
  obtain ⟨n, hn⟩ : ∃ n, Hid (L.length = n) := ⟨_, rfl⟩
  rw [hn.out] at c0 HW
  obtain ⟨V, hV⟩ : ∃ V, Hid ((Pk.flat (Tr.its L) ++ List.replicate 1024 0) = V) := ⟨_, show _ = _ from rfl⟩
  rw [hV.out] at hw ⊢
  have HE : Hid (∀ e w', WriteEnds (Tr.its L) W1.heap.size e w' → ∃ A' c', e = .returned (.tuple #[.slice A' V.length c', .int .i64 0, .int .i64 0]) ∧ RowAt w' A' V.length (Hd.rowF V)) := by
    rintro e w' ⟨u, h1, h2⟩
    rw [hw] at h1 h2
    obtain ⟨A', c', rfl, hr, -⟩ := own_rowat12 h2
    exact ⟨A', c', h1, hr⟩
  have HD : Hid (RWk W1 gx true A c L ∧ Bx (fun b => b = gx) w W1) := ⟨hd1, bx1⟩
  clear h hw hd1 bx1 hA hB
  go_enter Tryz.func21, Tryz.ntmps21
  go_wp2_with (first
    | rw [hW1.out]
    | (go_at_call 11; refine HW.mono ?_; rintro e w1 ⟨h1, hw1⟩; obtain ⟨A', c', rfl, hr1⟩ := HE.out _ _ h1))
  go_ret2
  exact ⟨_, _, rfl, hr1, HD.out.1.keep hw1, HD.out.2.trans (Bx.of_bw hw1)⟩
set_option maxRecDepth 100000 in
set_option maxHeartbeats 4000000 in
theorem radd12_any {w : World} {gx : Nat} {A : Option Addr} {c : Nat} {L : List Tr.Iv} (h : RWk w gx false A c L) (y : Tr.Iv) (hy : BodyAt w y) (hl : L.length ≤ 256) (hB : ∀ z ∈ L, ∀ b o, z.ad = some ⟨b, o, none⟩ → 0 < z.it.body.length → b ≠ gx) (hyB : ∀ b o, y.ad = some ⟨b, o, none⟩ → 0 < y.it.body.length → b ≠ gx) :
    Calls Tryz.prog 17 #[.pointer (some ⟨gx, 0, none⟩), .agg y.arr] w fun e w' => e = .returned (.int .i64 (Pk.wr (Tr.its L ++ [y.it])).2.2) ∧ ∃ A' c', RWk w' gx false A' c' (if (Pk.wr (Tr.its L ++ [y.it])).2.2 = 0 then L ++ [y] else L) ∧ Bx (fun b => b = gx) w w' ∧ (∀ b o, A' = some ⟨b, o, none⟩ → A' = A ∨ (w.heap.size ≤ b ∧ b < w'.heap.size)) := by
  obtain ⟨W, hW⟩ : ∃ W, Hid (w.alloc (.cells y.arr 47) = W) := ⟨_, rfl⟩
  obtain ⟨z, hz⟩ : ∃ z, Hid (w.heap.size = z) := ⟨_, rfl⟩
  have hbw : Bw w W := by rw [← hW.out]; exact bw_alloc11 (Bw.refl _) _
  have HX : Hid (BoxAt W z y) := by rw [← hW.out, ← hz.out]; exact BoxAt.new _ _
  have hW1 := h.keep hbw
  have c0 := hW1.c0
  have c1 := hW1.c1
  obtain ⟨n, hn⟩ : ∃ n, Hid (L.length = n) := ⟨_, rfl⟩
  obtain ⟨E, hE⟩ : ∃ E, Hid ((Pk.wr (Tr.its L ++ [y.it])).2.2 = E) := ⟨_, rfl⟩
  obtain ⟨j0, hj0, hy0, hy1, hy2⟩ := info_parts info_item
  have HI : Hid (ItsAt W A L) := hW1.its
  have HC : Hid (A = none → n = 0 ∧ c = 0) := by rw [← hn.out]; exact h.nil
  have HY : Hid (BodyAt W y) := hy.keep hbw
  have HH : Hid (RWk W gx false A c L) := hW1
  have HBs : Hid (∀ x ∈ L ++ [y], ∀ b o, x.ad = some ⟨b, o, none⟩ → 0 < x.it.body.length → b ≠ gx) := fun x hx => by
    rcases List.mem_append.1 hx with hx | hx
    · exact hB x hx
    · rw [List.mem_singleton.1 hx]; exact hyB
  have HWr : Hid (∀ u A' c', n + 1 ≤ c' → ItsAt u A' (L ++ [y]) → Calls Tryz.prog 11 #[.slice A' (n + 1) c'] u fun e w' => (∃ B p, e = .returned (.tuple #[B, .int .i64 p, .int .i64 E])) ∧ Bw u w') := fun u A' c' h1 h2 => by
    have hll : (L ++ [y]).length = n + 1 := by rw [List.length_append, hn.out]; rfl
    have := rwrite_any A' c' (L ++ [y]) (by rw [hll]; have := hn.out; omega) (by rw [hll]; exact h1) u h2
    rw [hll] at this
    refine this.mono ?_
    rintro e w' ⟨⟨B, h3, h4⟩, h5⟩
    rw [Tr.its_append, show Tr.its [y] = [y.it] from rfl, hE.out] at h3
    exact ⟨⟨_, _, h3⟩, h5⟩
  have HHw : Hid (RWk w gx false A c L) := h
  have HF4 : Hid (∀ v4 w3 w4, Bw W w3 → ∀ {v : Value}, w3.ownsRow z 47 6 v n (Tr.cellsI L) → w3.grownBy w4 v.ownBlock → w4.ownsRow z 47 6 v4 (n + 1) (Tr.cellsI L ++ Tr.cellsI [y]) → ∃ A4 c4, v4 = .slice A4 (n + 1) c4 ∧ Hid (n + 1 ≤ c4 ∧ ItsAt w4 A4 (L ++ [y]) ∧ (∀ b o, A4 = some ⟨b, o, none⟩ → z ≤ b ∧ b < w4.heap.size) ∧ A4 ≠ none ∧ Bw w w4)) := fun v4 w3 w4 k3 v ho hg ho4 => by
    have k3w := hbw.trans k3
    have hb4 : Bw w w4 := by
      have hbz := hz.out
      subst hbz
      exact bw_grow hg k3w k3w.size ho
    have hll : (L ++ [y]).length = n + 1 := by rw [List.length_append, hn.out]; rfl
    have q4 : w4.ownsRow z 47 6 v4 (L ++ [y]).length (Tr.cellsI (L ++ [y])) := by
      rw [Tr.cellsI_append, hll]; exact ho4
    obtain ⟨A4, c4, e4, h1, h2, h3, h5⟩ := its_of_own q4 (fun x hx => by
      rcases List.mem_append.1 hx with hx | hx
      · exact (h.its.body x hx).keep hb4
      · rw [List.mem_singleton.1 hx]; exact hy.keep hb4)
    rw [hll] at e4 h1
    subst e4
    refine ⟨A4, c4, rfl, h1, h2, fun b o e => ?_, fun e => ?_, hb4⟩
    · have := World.ownsRow.lt q4 b (by rw [e]; rfl)
      exact this
    · have := (h3 e).2
      simp at this
  rw [hE.out]
  rw [hn.out] at c0 hl
  have hzl : z ≤ W.heap.size := by rw [← hz.out]; exact hbw.size
  have hgx : gx < z := by rw [← hz.out]; exact h.lt
  clear h hy hW1 hB hyB
  go_enter Tryz.func17, Tryz.ntmps17
  go_upto_region 9 with (first
    | rw [hW.out, hz.out]
    | (refine wpList_load_it (by rfl) (.tmp 3) rfl z 0 rfl y HX2.out.it ?_)
    | (refine wpList_build_it rfl (.tmp 22) rfl y rfl ?_; obtain ⟨w3, hw3⟩ : ∃ V, V = w2.alloc (.cells y.arr 47) := ⟨_, rfl⟩; have hb3 : Bw w2 w3 := (by rw [hw3]; exact bw_alloc11 (Bw.refl _) _); have HI3 : Hid (ItsAt w3 (some ⟨w2.heap.size, 0, none⟩) [y]) := (by rw [hw3]; exact its_one (BoxAt.new _ _) ((HY.out.keep hb2).keep (bw_alloc11 (Bw.refl _) _))); rw [← hw3]; clear hw3)
    | (at_builtin; refine wpList_append_its _ (by rfl) (.tmp 15) (.tmp 19) _ (by rfl) z 47 j0 _ 80 Tryz.underlying22 hj0 hy0 hy1 hy2 rfl _ _ _ (by rfl) (World.ownsRow_nil _ _ _ _) A c L n hn.out (by rfl) HI.out HC.out (by unfold maxLen; omega) (by omega) hzl ?_; intro v2 w2 hown2 hgrow2; simp only [Nat.zero_add, List.nil_append] at hown2; have hb2 : Bw W w2 := bw_none12 hgrow2; have HO2 : Hid (w2.ownsRow z 47 6 v2 n (Tr.cellsI L)) := hown2; clear hown2 hgrow2; have HX2 : Hid (BoxAt w2 z y) := HX.out.keep hb2)
    | (at_builtin; refine wpList_append_its _ (by rfl) (.tmp 21) (.tmp 23) _ (by rfl) z 47 j0 _ 80 Tryz.underlying22 hj0 hy0 hy1 hy2 rfl _ _ _ (by rfl) (own_keep HO2.out hb3) (some ⟨w2.heap.size, 0, none⟩) 1 [y] 1 rfl (by rfl) HI3.out (fun e => by cases e) (by unfold maxLen; omega) (by omega) (Nat.le_trans hzl (hb2.trans hb3).size) ?_; intro v4 w4 hown4 hgrow4; obtain ⟨A4, c4, rfl, h4⟩ := HF4.out v4 w3 w4 (hb2.trans hb3) (own_keep HO2.out hb3) hgrow4 hown4; clear hown4 hgrow4)
    | (go_at_call 11; refine (HWr.out w4 A4 c4 h4.out.1 h4.out.2.1).mono ?_; rintro e w5 ⟨⟨B5, p5, rfl⟩, hb5⟩))
  have hd5 : RWk w5 gx false A c L := (HHw.out.keep h4.out.2.2.2.2).keep hb5
  have d0 := hd5.c0
  have f0 := hd5.fz 0
  rw [hn.out] at d0
  by_cases h0 : E = 0
  · subst h0
    go_wp2
    go_ret
    have bx : Bx (fun b => b = gx) w5 (w5.setCell ⟨gx, 0, none⟩ (.slice A4 (n + 1) c4)) := Bx.put (Bx.refl _ _) rfl
    have hll : (L ++ [y]).length = n + 1 := by rw [List.length_append, hn.out]; rfl
    refine ⟨rfl, A4, ⟨c4, ?_⟩, ((Bx.of_bw (h4.out.2.2.2.2.trans hb5)).trans bx), fun b o e => .inr ?_⟩
    · refine ⟨?_, its_bx12 (h4.out.2.1.keep hb5) bx (fun b o e hs => by have := (h4.out.2.2.1 b o e).1; omega) (fun x hx b o e h0 hs => HBs.out x hx b o e h0 hs), by rw [hll]; exact h4.out.1, fun e => absurd e h4.out.2.2.2.1⟩
      rw [hll]
      exact heap_setCell_same w5 gx 0 _ _ _ hd5.at_
    · have h6 := h4.out.2.2.1 b o e
      have := hb5.size
      have := bx.size
      have := hz.out
      exact ⟨by omega, by omega⟩
  · have e0 : (E == 0) = false := by rw [beq_eq_false_iff_ne]; exact h0
    have hne := h0
    clear h0
    go_wp2
    go_ret
    exact ⟨rfl, A, ⟨c, hd5⟩, Bx.of_bw (h4.out.2.2.2.2.trans hb5), fun b o e => .inl rfl⟩
end Go.Proofs.YtldkhbkgmiicbaaGreatDoor

/- The statements' helpers of layer 11: whether a lent list was kept. -/
namespace Go.Proofs.YtldkhbkgmiicbaaGreatDoor
open Go.RowKit Go.Deep
set_option linter.unusedVariables false
set_option linter.unusedSimpArgs false

end Go.Proofs.YtldkhbkgmiicbaaGreatDoor
