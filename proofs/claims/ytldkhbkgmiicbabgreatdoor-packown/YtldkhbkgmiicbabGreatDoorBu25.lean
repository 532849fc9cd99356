/- Texts of mine, put together. -/
import Derived.Test.YtldkhbkgmiicbabGreatDoorBu24
import Derived.Deep.LoopGhost

/- What Put's work does, and the program's own Put, as landed at 7a0984bd. -/
namespace Go.Proofs.YtldkhbkgmiicbabGreatDoor
open Go.RowKit Go.Deep
set_option linter.unusedVariables false
set_option linter.unusedSimpArgs false

/-- so many records are put -/
def PutSt (L : List Px.Pr) (k : Nat) : Prop := Px.putE none L 0 = Px.putE (Px.lastK L k) (L.drop k) k ∧ ∀ p ∈ L.take k, Px.fits p = 0
theorem PutSt.bd {L : List Px.Pr} {k : Nat} (h : PutSt L k) (hn : L.length ≤ 64) : (Px.all9 (L.take k)).length ≤ 68096 := by
  have h1 := Px.all9_bd _ h.2
  have h2 : (L.take k).length ≤ 64 := by rw [List.length_take]; omega
  omega
theorem bx_below {S : Nat → Prop} {W a b : World} (h : Bx S W a) (k : Below W.heap.size a b) : Bx S W b := ⟨k.os.trans h.os, k.tape.trans h.tape, k.output.trans h.output, Nat.le_trans h.size k.size, fun x hx hs => (k.block x hx).trans (h.block x hx hs)⟩
/-- what Put's work has done -/
def Put1 (L : List Px.Pr) (gat gb : Nat) (W : World) (er : Nat) (w' : World) : Prop :=
  Bx (fun b => b = gat ∨ b = gb) W w' ∧ ∃ (i : Nat) (v : Value), VarAt w' gat 3 (.int .i64 (i : Int)) ∧ VarAt w' gb 24 v ∧ (∃ m xs, w'.ownsRow W.heap.size 5 1 v m xs) ∧
    (er ≠ 0 → Px.putE none L 0 = (i, er)) ∧ (er = 0 → Px.putE none L 0 = (0, 0) ∧ w'.ownsRow W.heap.size 5 1 v (Px.all9 L).length (Px.cellsB (Px.all9 L)))
set_option maxRecDepth 100000 in
set_option maxHeartbeats 4000000 in
theorem put1_any (lo gat gl gb : Nat) (A : Option Addr) (cap : Nat) (L : List Px.Pr) (W : World) (hn : L.length ≤ 64) (hcap : L.length ≤ cap) (hS : ∀ p ∈ L, p.1.length ≤ 140737488355328 ∧ p.2.length ≤ 140737488355328)
    (hlo1 : lo ≤ gat) (hlo2 : lo ≤ gl) (hlo3 : lo ≤ gb) (hlo : lo ≤ W.heap.size) (hne1 : gat ≠ gb) (hne2 : gl ≠ gb) (hne3 : gl ≠ gat) (hk : ∀ u, Below lo W u → KAt u) (ha : PrsAt W A L) (hA : L = [] ∨ ∀ b o, A = some ⟨b, o, none⟩ → b < lo)
    (va : VarAt W gat 3 (.int .i64 0)) (vl : VarAt W gl 37 (.slice A L.length cap)) (vb : VarAt W gb 24 (.slice none 0 0)) :
    Calls Tryz.prog 44 #[.pointer (some ⟨gat, 0, none⟩), .pointer (some ⟨gl, 0, none⟩), .pointer (some ⟨gb, 0, none⟩)] W fun e w' => ∃ er, Asks er e ∧ Put1 L gat gb W er w' := by
  obtain ⟨n, hnn⟩ : ∃ n, Hid (L.length = n) := ⟨_, rfl⟩
  rw [hnn.out] at hn hcap vl
  have HA : Hid (PrsAt W A L) := ha
  have HS : Hid (∀ p ∈ L, p.1.length ≤ 140737488355328 ∧ p.2.length ≤ 140737488355328) := hS
  have HK : Hid (∀ u, Below lo W u → KAt u) := hk
  clear ha hS hk
  have la := va.lt
  have ll := vl.lt
  have lb := vb.lt
  go_enter Tryz.func44, Tryz.ntmps44
  go_wp2
  go_loopg [] n (fun g wx => ∃ k : Nat, k + g = n ∧ VarAt wx gat 3 (.int .i64 (k : Int)) ∧ VarAt wx gl 37 (.slice A n cap) ∧ Bx (fun b => b = gat ∨ b = gb) W wx ∧ Hid (PutSt L k) ∧ ∃ v, VarAt wx gb 24 v ∧ wx.ownsRow W.heap.size 5 1 v (Px.all9 (L.take k)).length (Px.cellsB (Px.all9 (L.take k))))
  case atStart => exact ⟨0, by omega, va, vl, Bx.refl _ _, ⟨rfl, fun p hp => by simp at hp⟩, _, vb, World.ownsRow_nil _ _ _ _⟩
  case round =>
    obtain ⟨k, hkg, va2, vl2, hbx, hst, v, vb2, ho⟩ := hrel
    have k0 : (0 : Int) ≤ (k : Int) := Int.natCast_nonneg _
    have vac := va2.cell
    have vlc := vl2.cell
    have hblo : Below lo W wr := hbx.below hlo (fun b hb => by rcases hb with rfl | rfl <;> assumption)
    have hsz := hbx.size
    cases gk with
    | zero =>
      obtain rfl : k = n := by omega
      have hE : Hid (Px.putE none L 0 = (0, 0)) := by
        show _ = _
        rw [hst.out.1, ← hnn.out, List.drop_length]
        cases Px.lastK L L.length <;> rfl
      have hT : L.take k = L := by rw [← hnn.out, List.take_length]
      rw [hT] at ho
      go_wp2
      refine bodyPost_end (results_none rfl _ _ _) rfl ?_
      exact ⟨0, .inl ⟨rfl, rfl⟩, hbx, k, v, va2, vb2, ⟨_, _, ho⟩, fun h => absurd rfl h, fun _ => ⟨hE.out, ho⟩⟩
    | succ g =>
      have k1 : (k : Int) < (n : Int) := by omega
      obtain ⟨p, hp⟩ : ∃ p, Hid (L[k]? = some p) := ⟨_, List.getElem?_eq_getElem (by rw [hnn.out]; omega)⟩
      have ha2 := HA.out.keepb hblo hA
      obtain ⟨b, off, rfl, hc⟩ := ha2.at (by rw [hnn.out]; omega)
      obtain ⟨c1, c2⟩ := hc k p hp.out
      have hbl : b < lo := by
        rcases hA with h | h
        · rw [h] at hp; exact absurd hp.out (by simp)
        · exact h b off rfl
      have hsp := HS.out p (List.mem_of_getElem? hp.out)
      have hs1 : (Nm.S p.1).size ≤ 140737488355328 := by rw [Nm.size_S]; exact hsp.1
      have hs2 : (Nm.S p.2).size ≤ 140737488355328 := by rw [Nm.size_S]; exact hsp.2
      have KK : Hid (∀ u, Bw wr u → KAt u) := fun u h => HK.out u (hblo.trans (h.mono (Nat.le_trans hlo hsz)))
      have hbd := hst.out.bd (by rw [hnn.out]; exact hn)
      have hstep : Hid (Px.putE none L 0 = if Px.fits p ≠ 0 then (k, Px.fits p) else if Px.behind (Px.lastK L k) p.1 = false then (k, 92) else Px.putE (Px.lastK L (k + 1)) (L.drop (k + 1)) (k + 1)) := by show _ = _; rw [hst.out.1, Px.putE_at hp.out]
      clear hc
      go_wp2
      refine put_reg2 lo W.heap.size gat gl gb b off n cap k p (Px.all9 (L.take k)) v wr _ _ _ _ _ _ _ _ _ _ _ _ _ _ _ _ _ _ _ _ _ _ (by omega) hn va2 vl2 c1 c2 (fun _ _ d _ _ h => by cases d <;> exact h) vb2 hs1 hs2 KK ho (by omega) hsz la ll lb (by omega) hne1 hne2 (by omega) ?_ ?_
      · intro hf a w' hd hw'
        refine ⟨hd, Px.fits p, .inr ⟨hf, rfl⟩, hbx.trans (Bx.of_bw hw'), k, v, va2.keep hw' va2.lt, vb2.keep hw' vb2.lt, ⟨_, _, own_keep ho hw'⟩, fun _ => ?_, fun h => absurd h hf⟩
        rw [hstep.out, if_pos hf]
      · intro hf y9 y10 y11 y12 y13 y14 y15 A3 c3 m3 w3 hm3 hb3 ho3
        have hbx4 : Bx (fun b => b = gat ∨ b = gb) W (w3.setCell ⟨gb, 0, none⟩ (.slice A3 m3 c3)) := (bx_below hbx hb3).put (.inr rfl)
        have va4 := (va2.keep hb3 la).other (.slice A3 m3 c3) hne1
        have vl4 := (vl2.keep hb3 ll).other (.slice A3 m3 c3) hne2
        have vb4 := (vb2.keep hb3 lb).set (.slice A3 m3 c3)
        have ho4 := own_set9 (u := .slice A3 m3 c3) ho3 lb
        have HM : Hid ((Px.all9 (L.take (k + 1))).length = m3) := by show _ = _; rw [Px.all9_take hp.out]; exact hm3.out
        rw [← Px.all9_take hp.out] at ho4
        generalize w3.setCell ⟨gb, 0, none⟩ (.slice A3 m3 c3) = w4 at hbx4 va4 vl4 vb4 ho4 ⊢
        have hb4 : Below lo W w4 := hbx4.below hlo (fun b hb => by rcases hb with rfl | rfl <;> assumption)
        have ha4 := HA.out.keepb hb4 hA
        obtain ⟨b', off', e, hc4⟩ := ha4.at (by rw [hnn.out]; omega)
        cases e
        obtain ⟨d1, d2⟩ := hc4 k p hp.out
        have hst2 : Hid (∀ q ∈ L.take (k + 1), Px.fits q = 0) := fun q hq => by
          rw [List.take_add_one, hp.out] at hq
          rcases List.mem_append.1 hq with hq | hq
          · exact hst.out.2 q hq
          · rw [List.mem_singleton.1 hq]; exact hf
        have hsz4 := hbx4.size
        clear hc4 va2 vl2 vb2 ho ho3 hb3 hbx vac vlc c1 c2 ha2
        go_wp2
        refine put_reg3 gat gl gb b off n cap k L p w4 _ _ _ _ _ _ _ _ _ _ _ _ _ _ _ _ _ _ _ _ _ _ (by omega) hn va4 vl4 d1 d2 (fun _ _ d _ _ h => by cases d <;> exact h) hnn.out hcap ha4 ?_ ?_
        · intro hr a w' hd hw'
          have hbe : Px.behind (Px.lastK L k) p.1 = false := by
            cases hb : Px.behind (Px.lastK L k) p.1
            · rfl
            · exact absurd (by unfold Px.riseK; rw [if_pos hb]) hr
          have h92 : Px.riseK L k p.1 = 92 := by unfold Px.riseK; rw [hbe]; rfl
          refine ⟨hd, Px.riseK L k p.1, .inr ⟨hr, rfl⟩, hbx4.trans (Bx.of_bw hw'), k, _, va4.keep hw' va4.lt, vb4.keep hw' vb4.lt, ⟨_, _, own_keep ho4 hw'⟩, fun _ => ?_, fun h => absurd h hr⟩
          rw [hstep.out, if_neg (fun h => h hf), if_pos hbe, h92]
        · intro hr y16 y17 y18 y19 y20 y21 y22 y23 w5 hw5
          have hbe : Px.behind (Px.lastK L k) p.1 = true := by
            cases hb : Px.behind (Px.lastK L k) p.1
            · exact absurd hr (by unfold Px.riseK; rw [hb]; decide)
            · rfl
          have hst3 : Hid (PutSt L (k + 1)) := ⟨by rw [hstep.out, if_neg (fun h => h hf), if_neg (by rw [hbe]; exact fun h => by cases h)], hst2.out⟩
          have va5 := va4.keep hw5 va4.lt
          have vl5 := vl4.keep hw5 vl4.lt
          have vb5 := vb4.keep hw5 vb4.lt
          have ho5 := own_keep ho4 hw5
          have hbx5 : Bx (fun b => b = gat ∨ b = gb) W w5 := hbx4.trans (Bx.of_bw hw5)
          have vac5 := va5.cell
          have vaf5 := va5.free
          clear va4 vl4 vb4 ho4 hbx4 hb4 ha4 d1 d2
          go_wp2
          go_roundg g
          case measure => omega
          case rel => exact ⟨k + 1, by omega, by have := va5.set (.int .i64 ((k : Int) + 1)); exact this, vl5.other _ hne3, hbx5.put (.inl rfl), hst3, _, vb5.other _ (Ne.symm hne1), by rw [HM.out]; exact own_set9 ho5 la⟩
/-- what Put answers -/
def PutOwn (L : List Px.Pr) (base : Nat) (e : Ending) (w' : World) : Prop := ∃ v, e = .returned (.tuple #[v, .int .i64 ((Px.putF L).2.1 : Int), .int .i64 ((Px.putF L).2.2 : Int)]) ∧ w'.ownsRow base 5 1 v (Px.putF L).1.length (Px.cellsB (Px.putF L).1)
theorem prs_lt {w : World} {A : Option Addr} {L : List Px.Pr} (ha : PrsAt w A L) : L = [] ∨ ∀ b o, A = some ⟨b, o, none⟩ → b < w.heap.size := by
  rcases ha with h | ⟨b, off, h1, h2⟩
  · exact .inl h
  · cases L with
    | nil => exact .inl rfl
    | cons p l => exact .inr fun b' o' e => by rw [h1] at e; cases e; exact block_lt_of_cell (h2 0 p rfl).1
set_option maxRecDepth 100000 in
set_option maxHeartbeats 2000000 in
theorem pput_own (A : Option Addr) (cap : Nat) (L : List Px.Pr) (hn : L.length ≤ 4611686018427387904) (hcap : L.length ≤ cap) (hS : ∀ p ∈ L, p.1.length ≤ 140737488355328 ∧ p.2.length ≤ 140737488355328) (w : World) (hk : KAt w) (ha : PrsAt w A L) :
    Calls Tryz.prog 31 #[.slice A L.length cap] w fun e w' => PutOwn L w.heap.size e w' ∧ Bw w w' := by
  by_cases h64 : 64 < L.length
  · have e : Px.putF L = ([], 64, 3) := by unfold Px.putF; rw [if_pos h64]
    unfold PutOwn
    rw [e]
    obtain ⟨n, hnn⟩ : ∃ n, Hid (L.length = n) := ⟨_, rfl⟩
    rw [hnn.out] at h64 hn ⊢
    have t1 : (64 : Int) < (n : Int) := by omega
    have hw0 : Bw w (w.alloc (.cells #[.slice A n cap] 37)) := Below.alloc (Below.refl _ _) (Nat.le_refl _) _
    go_enter Tryz.func31, Tryz.ntmps31
    go_wp2
    refine bodyPost_ret (results_tmp3 rfl _ _ _) rfl ?_
    exact ⟨⟨_, rfl, World.ownsRow_nil _ _ _ _⟩, hw0⟩
  · have hmf : ∀ (fn : Fn) (first cap : Array Value) (w : World), (Instr.makeFunc fn first cap).run Tryz.prog w = .ok (.func fn first cap) w := fun _ _ _ _ => rfl
    obtain ⟨W1, hW1⟩ : ∃ W, Hid (w.alloc (.cells #[.slice A L.length cap] 37) = W) := ⟨_, rfl⟩
    obtain ⟨W2, hW2⟩ : ∃ W, Hid (W1.alloc (.cells #[.slice none 0 0] 24) = W) := ⟨_, rfl⟩
    obtain ⟨W3, hW3⟩ : ∃ W, Hid (W2.alloc (.cells #[.int .i64 0] 3) = W) := ⟨_, rfl⟩
    have s1 : Hid (W1.heap.size = w.heap.size + 1) := by show _ = _; rw [← hW1.out]; exact alloc_size9 _ _
    have s2 : Hid (W2.heap.size = w.heap.size + 2) := by show _ = _; rw [← hW2.out, alloc_size9, s1.out]
    have s3 : Hid (W3.heap.size = w.heap.size + 3) := by show _ = _; rw [← hW3.out, alloc_size9, s2.out]
    have b1 : Bw w W1 := by rw [← hW1.out]; exact Below.alloc (Below.refl _ _) (Nat.le_refl _) _
    have b2 : Bw W1 W2 := by rw [← hW2.out]; exact Below.alloc (Below.refl _ _) (Nat.le_refl _) _
    have b3 : Bw W2 W3 := by rw [← hW3.out]; exact Below.alloc (Below.refl _ _) (Nat.le_refl _) _
    have b4 : Bw W3 (W3.alloc (.cells #[.int .i64 0] 29)) := Below.alloc (Below.refl _ _) (Nat.le_refl _) _
    have b14 : Bw w (W3.alloc (.cells #[.int .i64 0] 29)) := b1.trans (b2.trans (b3.trans b4))
    have s4 : Hid ((W3.alloc (.cells #[.int .i64 0] 29)).heap.size = w.heap.size + 4) := by show _ = _; rw [alloc_size9, s3.out]
    have hwork : Works 44 #[.pointer (some ⟨w.heap.size + 2, 0, none⟩), .pointer (some ⟨w.heap.size, 0, none⟩), .pointer (some ⟨w.heap.size + 1, 0, none⟩)] W3 (Put1 L (w.heap.size + 2) (w.heap.size + 1) (W3.alloc (.cells #[.int .i64 0] 29))) := by
      have v1 : VarAt W1 w.heap.size 37 (.slice A L.length cap) := by rw [← hW1.out]; exact VarAt.new _ _ _
      have v2 : VarAt W2 (w.heap.size + 1) 24 (.slice none 0 0) := by rw [← hW2.out, ← s1.out]; exact VarAt.new _ _ _
      have v3 : VarAt W3 (w.heap.size + 2) 3 (.int .i64 0) := by rw [← hW3.out, ← s2.out]; exact VarAt.new _ _ _
      have he : VarAt (W3.alloc (.cells #[.int .i64 0] 29)) W3.heap.size 29 (.int .i64 0) := VarAt.new _ _ _
      refine (put1_any w.heap.size (w.heap.size + 2) w.heap.size (w.heap.size + 1) A cap L _ (by omega) hcap hS (by omega) (Nat.le_refl _) (by omega) b14.size (by omega) (by omega) (by omega) (fun u h => hk.keep (Below.trans b14 h)) (ha.keep b14) (prs_lt ha) (v3.more _) ((v1.keep (b2.trans b3) v1.lt).more _) ((v2.keep b3 v2.lt).more _)).mono ?_
      rintro e w' ⟨er, hA, hR⟩
      have he2 : VarAt w' W3.heap.size 29 (.int .i64 0) := (hR.1.block _ he.lt (by rw [s3.out]; omega)).trans he
      exact ⟨er, hA, ⟨he2.cell, he2.free⟩, hR⟩
    have HC := caught_any 44 _ W3 _ (enters_of Tryz.func44 (by kernel_rfl) rfl) hwork
    have HH : Calls Tryz.prog 43 #[.func (.func 44) #[] #[.pointer (some ⟨w.heap.size + 2, 0, none⟩), .pointer (some ⟨w.heap.size, 0, none⟩), .pointer (some ⟨w.heap.size + 1, 0, none⟩)]] W3 fun e w' => ∃ (i : Nat) (v : Value) (er : Nat), e = .returned (.int .i64 (er : Int)) ∧ Bw w w' ∧ VarAt w' (w.heap.size + 2) 3 (.int .i64 (i : Int)) ∧ VarAt w' (w.heap.size + 1) 24 v ∧ (∃ m xs, w'.ownsRow w.heap.size 5 1 v m xs) ∧
        Hid ((er ≠ 0 → Px.putF L = ([], i, er)) ∧ (er = 0 → Px.putF L = (Px.all9 L, 0, 0) ∧ w'.ownsRow w.heap.size 5 1 v (Px.all9 L).length (Px.cellsB (Px.all9 L)))) := by
      refine HC.mono ?_
      rintro e w' ⟨er, w1, rfl, ⟨h2, i, v, h3, h4, ⟨m, xs, h5⟩, h6, h7⟩, rfl⟩
      have hb5 : Below w.heap.size (W3.alloc (.cells #[.int .i64 0] 29)) w1 := h2.below b14.size (fun b hb => by rcases hb with rfl | rfl <;> omega)
      have low : ∀ {n : Nat} {ys : List Value}, w1.ownsRow (W3.alloc (.cells #[.int .i64 0] 29)).heap.size 5 1 v n ys → (w1.setCell ⟨W3.heap.size, 0, none⟩ (.int .i64 (er : Int))).ownsRow w.heap.size 5 1 v n ys := fun h => own_lower9 (own_set9 h (by rw [alloc_size9]; omega)) b14.size
      refine ⟨i, v, er, rfl, (Below.trans b14 hb5).setCell (by show _ ≤ W3.heap.size; rw [s3.out]; omega) _, h3.other _ (by rw [s3.out]; omega), h4.other _ (by rw [s3.out]; omega), ⟨m, xs, low h5⟩, fun h => ?_, fun h => ⟨?_, low (h7 h).2⟩⟩
      · unfold Px.putF
        rw [if_neg h64, h6 h, if_pos h]
      · unfold Px.putF
        rw [if_neg h64, (h7 h).1, if_neg (fun h => h rfl)]
    clear HC hwork
    rw [← hW3.out, ← hW2.out, ← hW1.out] at HH
    obtain ⟨n, hnn⟩ : ∃ n, Hid (L.length = n) := ⟨_, rfl⟩
    rw [hnn.out] at h64 hn HH ⊢
    have t1 : (n : Int) ≤ 64 := by omega
    clear hcap ha b14 b4 b3 b2 b1 hS
    go_enter Tryz.func31, Tryz.ntmps31
    go_wp2_with (go_at_call 43; refine HH.mono ?_; rintro e w5 ⟨i, v, er, rfl, hw5, va5, vb5, ⟨m, xs, ho5⟩, hE⟩; refine Hid.out ?_)
    refine Lib.hid ?_
    obtain ⟨Av, cv, rfl⟩ := own_slice ho5
    have vac := va5.cell
    have vbc := vb5.cell
    by_cases h0 : er = 0
    · have hE2 := hE.out.2 h0
      have hm : Hid ((Px.all9 L).length = m) := by
        show _ = _
        rcases own_slice hE2.2 with ⟨A', c', e⟩
        cases e; rfl
      have e0 : ((er : Int) != 0) = false := by rw [bne_eq_false_iff_eq]; omega
      clear h0
      go_wp2
      refine bodyPost_ret (results_tmp3 rfl _ _ _) rfl ?_
      unfold PutOwn
      rw [hE2.1]
      refine ⟨⟨_, rfl, ?_⟩, hw5⟩
      exact hE2.2
    · have hE2 := hE.out.1 h0
      have e0 : ((er : Int) != 0) = true := by rw [bne_iff_ne]; omega
      go_wp2
      go_quiet (fail)
      go_wp2
      refine bodyPost_ret (results_tmp3 rfl _ _ _) rfl ?_
      unfold PutOwn
      rw [hE2]
      exact ⟨⟨_, rfl, World.ownsRow_nil _ _ _ _⟩, hw5.trans (Bw.drewN _ _)⟩
end Go.Proofs.YtldkhbkgmiicbabGreatDoor
