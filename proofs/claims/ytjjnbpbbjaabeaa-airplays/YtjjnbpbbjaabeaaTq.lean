/- Layer 19: an air beside what came and what went (for AirOnce). -/
import Derived.Test.YtjjnbpbbjaabeaaTr9
namespace Go.Proofs.Ytjjnbpbbjaabeaa
open Go.RowKit Go.Deep
set_option linter.unusedVariables false
set_option linter.unusedSimpArgs false

/-- none of the air's blocks, nor of the two lists' -/
def Free (P : Nat → Prop) (cv wv : Value) (b : Nat) : Prop := ¬ P b ∧ cv.ownBlock ≠ some b ∧ wv.ownBlock ≠ some b
/-- an air beside two lists of datagrams, made since a world -/
structure OnceP (w W : World) (P : Nat → Prop) (g : Nat) (S : Ai.St) (cv wv : Value) (EC EW : List Raw) (CM WN : List Ai.Dg) : Prop where
  air : AirAt W P g S
  new : ∀ b, P b → w.heap.size ≤ b
  bw : Bw w W
  cu : UndAt W cv EC
  cd : DgsV W EC CM
  wu : UndAt W wv EW
  wd : DgsV W EW WN
  cb : ∀ b, cv.ownBlock = some b → w.heap.size ≤ b ∧ ¬ P b
  wb : ∀ b, wv.ownBlock = some b → w.heap.size ≤ b ∧ ¬ P b
  two : ∀ b, cv.ownBlock = some b → wv.ownBlock ≠ some b
  cf : EIn (Free P cv wv) EC
  wf : EIn (Free P cv wv) EW
namespace OnceP
variable {w W W' : World} {P : Nat → Prop} {g : Nat} {S S' : Ai.St} {cv wv : Value} {EC EW : List Raw} {CM WN : List Ai.Dg}
theorem keep (h : OnceP w W P g S cv wv EC EW CM WN) (k : Bw W W') : OnceP w W' P g S cv wv EC EW CM WN :=
  ⟨h.air.keep k, h.new, h.bw.trans k, h.cu.keep k, h.cd.keep k, h.wu.keep k, h.wd.keep k, h.cb, h.wb, h.two, h.cf, h.wf⟩
theorem swap (h : OnceP w W P g S cv wv EC EW CM WN) : OnceP w W P g S wv cv EW EC WN CM :=
  ⟨h.air, h.new, h.bw, h.wu, h.wd, h.cu, h.cd, h.wb, h.cb, fun b hb e => h.two b e hb, h.wf.mono (fun b hb => ⟨hb.1, hb.2.2, hb.2.1⟩), h.cf.mono (fun b hb => ⟨hb.1, hb.2.2, hb.2.1⟩)⟩
theorem turn (h : OnceP w W P g S cv wv EC EW CM WN) (hA : AirAt W' (Gr P W W') g S') (kx : Bx P W W') : OnceP w W' (Gr P W W') g S' cv wv EC EW CM WN := by
  have hc := h.cu.lt
  have hw := h.wu.lt
  have h1 := h.cd.low
  have h2 := h.wd.low
  have hF : ∀ b, b < W.heap.size → ¬ P b → ¬ Gr P W W' b := fun b hb hn hG => by
    rcases hG with hG | hG
    · exact hn hG
    · omega
  refine ⟨hA, fun b hb => ?_, Below.trans h.bw (kx.below h.bw.size h.new), h.cu.keepx kx (fun b hb => (h.cb b hb).2), h.cd.keepx kx (h.cf.mono (fun b hb => hb.1)), h.wu.keepx kx (fun b hb => (h.wb b hb).2), h.wd.keepx kx (h.wf.mono (fun b hb => hb.1)),
    fun b hb => ⟨(h.cb b hb).1, hF b (hc b hb) (h.cb b hb).2⟩, fun b hb => ⟨(h.wb b hb).1, hF b (hw b hb) (h.wb b hb).2⟩, h.two, fun r hr b o n c e h0 => ?_, fun r hr b o n c e h0 => ?_⟩
  · rcases hb with hb | hb
    · exact h.new b hb
    · exact Nat.le_trans h.bw.size hb.1
  · have h3 := h.cf r hr b o n c e h0
    exact ⟨hF b (h1 r hr b o n c e h0) h3.1, h3.2⟩
  · have h3 := h.wf r hr b o n c e h0
    exact ⟨hF b (h2 r hr b o n c e h0) h3.1, h3.2⟩
theorem turn0 (h : OnceP w W P g S cv wv EC EW CM WN) (hA : AirAt W' P g S') (kx : Bx P W W') : OnceP w W' P g S' cv wv EC EW CM WN :=
  ⟨hA, h.new, Below.trans h.bw (kx.below h.bw.size h.new), h.cu.keepx kx (fun b hb => (h.cb b hb).2), h.cd.keepx kx (h.cf.mono (fun b hb => hb.1)), h.wu.keepx kx (fun b hb => (h.wb b hb).2), h.wd.keepx kx (h.wf.mono (fun b hb => hb.1)), h.cb, h.wb, h.two, h.cf, h.wf⟩
/-- one more came -/
theorem push {W2 : World} {r : Raw} {d : Ai.Dg} {g2 c2 n : Nat} (h : OnceP w W P g S cv wv EC EW CM WN) (hr1 : r.src = d.src) (hr2 : r.dst = d.dst) (hrow : RowV W r.v d.b) (hin : VIn (Free P cv wv) r.v) (hn : EC.length = n)
    (own2 : W2.ownsRow 0 35 3 (.slice (some ⟨g2, 0, none⟩) (n + 1) c2) (n + 1) (flat EC ++ [.int .i64 r.src, .int .i64 r.dst, r.v])) (gr : (W.alloc (.cells #[.int .i64 r.src, .int .i64 r.dst, r.v] 35)).grownBy W2 cv.ownBlock)
    (at2 : cv.ownBlock = some g2 ∨ g2 = W.heap.size + 1) : OnceP w W2 P g S (.slice (some ⟨g2, 0, none⟩) (n + 1) c2) wv (EC ++ [r]) EW (CM ++ [d]) WN ∧ Bx (fun b => cv.ownBlock = some b) W W2 := by
  subst hn
  have kA : Bw W (W.alloc (.cells #[.int .i64 r.src, .int .i64 r.dst, r.v] 35)) := bw_allocx (Bw.refl _)
  have hgx := bx_grown gr
  have hall : Bx (fun b => cv.ownBlock = some b) W W2 := (Bx.of_bw kA).trans hgx
  have hvl := hrow.low
  have h1 := h.cd.low
  have h2 := h.wd.low
  have hwl := h.wu.lt
  have hwlt := h.bw.size
  have hPl := h.air.low
  have hg2 : w.heap.size ≤ g2 ∧ ¬ P g2 ∧ wv.ownBlock ≠ some g2 ∧ (cv.ownBlock = some g2 ∨ W.heap.size ≤ g2) := by
    rcases at2 with h3 | h3
    · exact ⟨(h.cb g2 h3).1, (h.cb g2 h3).2, h.two g2 h3, .inl h3⟩
    · exact ⟨by omega, fun hb => by have := hPl g2 hb; omega, fun hb => by have := hwl g2 hb; omega, .inr (by omega)⟩
  have hfree : ∀ b, b < W.heap.size → Free P cv wv b → Free P (.slice (some ⟨g2, 0, none⟩) (EC.length + 1) c2) wv b := fun b hb hF => ⟨hF.1, fun e => by
    have e2 : g2 = b := by simpa [Value.ownBlock] using e
    rcases hg2.2.2.2 with h3 | h3
    · exact hF.2.1 (by rw [h3, e2])
    · omega, hF.2.2⟩
  have hlen : EC.length + 1 = (EC ++ [r]).length := by rw [List.length_append]; rfl
  refine ⟨⟨h.air.keepx hall (fun b hb e => (h.cb b e).2 hb), h.new, Below.trans h.bw (hall.below h.bw.size (fun b hb => (h.cb b hb).1)), ?_, ?_, h.wu.keepx hall (fun b hb e => h.two b e hb), h.wd.keepx hall (h.wf.mono (fun b hb => hb.2.1)), ?_, h.wb, ?_, ?_, ?_⟩, hall⟩
  · have e4 : flat EC ++ [.int .i64 r.src, .int .i64 r.dst, r.v] = flat (EC ++ [r]) := by rw [flat_append]; rfl
    rw [e4, hlen] at own2
    rw [hlen]
    exact (UndAt.of_own own2).1
  · exact DgsV.append (h.cd.keepx hall (h.cf.mono (fun b hb => hb.2.1))) (DgsV.one hr1 hr2 (hrow.keepx hall (hin.mono (fun b hb => hb.2.1))))
  · intro b hb
    have e2 : g2 = b := by simpa [Value.ownBlock] using hb
    subst e2
    exact ⟨hg2.1, hg2.2.1⟩
  · intro b hb
    have e2 : g2 = b := by simpa [Value.ownBlock] using hb
    subst e2
    exact hg2.2.2.1
  · exact EIn.append (fun x hx b o m c e h0 => hfree b (h1 x hx b o m c e h0) (h.cf x hx b o m c e h0)) (EIn.one (fun b o m c e h0 => hfree b (hvl b o m c e h0) (hin b o m c e h0)))
  · exact fun x hx b o m c e h0 => hfree b (h2 x hx b o m c e h0) (h.wf x hx b o m c e h0)
end OnceP
/-- what came is what went and what is under way -/
def Ai.Even (S : Ai.St) (CM WN : List Ai.Dg) : Prop := CM.Perm (WN ++ S.L)
theorem Ai.perm_erase {L : List Ai.Dg} {k : Nat} (h : k < L.length) : L.Perm (L[k] :: L.eraseIdx k) := by
  rw [List.eraseIdx_eq_take_drop_succ]
  have e : L = L.take k ++ L[k] :: L.drop (k + 1) := by rw [← List.drop_eq_getElem_cons h, List.take_append_drop]
  conv => lhs; rw [e]
  exact List.perm_middle
namespace Ai.Even
variable {S : Ai.St} {CM WN : List Ai.Dg}
theorem new (n : Nat) : Ai.Even (Ai.new n) [] [] := List.Perm.refl _
theorem send (h : Ai.Even S CM WN) {d : Ai.Dg} (hg : S.goes d = true) : Ai.Even (S.send d) (CM ++ [d]) WN := by
  unfold Ai.Even Ai.St.send
  rw [if_pos hg]
  show (CM ++ [d]).Perm (WN ++ (S.L ++ [d]))
  rw [← List.append_assoc]
  exact List.Perm.append_right _ h
theorem send_no (h : Ai.Even S CM WN) {d : Ai.Dg} (hg : S.goes d = false) : Ai.Even (S.send d) CM WN := by
  unfold Ai.Even Ai.St.send
  rw [if_neg (by rw [hg]; decide)]
  exact h
theorem lose (h : Ai.Even S CM WN) {i : Int} (hi : S.has i = true) : Ai.Even (S.lose i) CM (WN ++ [S.giv i]) := by
  obtain ⟨k, rfl, hk⟩ := Ai.has_nat hi
  unfold Ai.Even Ai.St.lose Ai.St.giv
  rw [if_pos hi, if_pos hi, Ai.at_of hk, Int.toNat_natCast]
  show CM.Perm (WN ++ [S.L[k]] ++ S.L.eraseIdx k)
  rw [List.append_assoc]
  exact h.trans (List.Perm.append_left _ (Ai.perm_erase hk))
theorem lose_no (h : Ai.Even S CM WN) {i : Int} (hi : S.has i = false) : Ai.Even (S.lose i) CM WN := by
  unfold Ai.Even Ai.St.lose
  rw [if_neg (by rw [hi]; decide)]
  exact h
theorem twice (h : Ai.Even S CM WN) {i : Int} (hi : S.dbl i = true) : Ai.Even (S.twice i) (CM ++ [S.giv i]) WN := by
  have hh : S.has i = true := by unfold Ai.St.dbl at hi; rw [Bool.and_eq_true] at hi; exact hi.1
  unfold Ai.Even Ai.St.twice Ai.St.giv
  rw [if_pos hi, if_pos hh]
  show (CM ++ [_]).Perm (WN ++ (S.L ++ [_]))
  rw [← List.append_assoc]
  exact List.Perm.append_right _ h
theorem twice_no (h : Ai.Even S CM WN) {i : Int} (hi : S.dbl i = false) : Ai.Even (S.twice i) CM WN := by
  unfold Ai.Even Ai.St.twice
  rw [if_neg (by rw [hi]; decide)]
  exact h
theorem hold (h : Ai.Even S CM WN) (i : Int) : Ai.Even (S.hold i) CM WN := by
  unfold Ai.Even Ai.St.hold
  split
  · rename_i hi
    obtain ⟨k, rfl, hk⟩ := Ai.has_nat hi
    rw [Ai.at_of hk, Int.toNat_natCast]
    show CM.Perm (WN ++ (S.L.eraseIdx k ++ [S.L[k]]))
    exact h.trans (List.Perm.append_left _ ((Ai.perm_erase hk).trans (List.perm_append_singleton _ _).symm))
  · exact h
theorem cut (h : Ai.Even S CM WN) (p q : Int) (b : Bool) : Ai.Even (S.cutW p q b) CM WN := by
  unfold Ai.Even Ai.St.cutW
  split
  · exact h
  · exact h
end Ai.Even
theorem Ai.goes_iff (S : Ai.St) (d : Ai.Dg) : S.goes d = (decide (S.sendE d = 0) && !S.cut d.src d.dst) := by
  unfold Ai.St.goes Ai.St.sendE
  cases hf : S.fits d
  · rw [if_pos rfl]; rfl
  · rw [if_neg (by decide)]
    by_cases hl : 262144 < d.b.length
    · rw [if_pos hl, decide_eq_false (by omega)]; rfl
    · rw [if_neg hl, decide_eq_true (show d.b.length ≤ 262144 by omega)]
      cases hc : S.cut d.src d.dst
      · rw [if_neg (by decide)]
        by_cases hk : 4096 ≤ S.L.length
        · rw [if_pos hk, decide_eq_false (by omega)]; rfl
        · rw [if_neg hk, decide_eq_true (by omega)]; rfl
      · rw [if_pos rfl]; rfl
end Go.Proofs.Ytjjnbpbbjaabeaa
