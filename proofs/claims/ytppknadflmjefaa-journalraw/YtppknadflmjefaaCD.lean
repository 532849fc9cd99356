/- Layer 14: the document's own Sync. -/
import Derived.Test.YtppknadflmjefaaCB
namespace Go.Proofs.Ytppknadflmjefaa
open Go.RowKit Go.Deep Go.Maps
set_option linter.unusedVariables false
set_option linter.unusedSimpArgs false

theorem RowU.congr {w : World} {v : Value} {f f' : Nat → Int} (h : RowU w v f) (hf : ∀ c, c < 64 → f' c = f c) : RowU w v f' := by
  obtain ⟨b, c, e, h1, h2, h3⟩ := h
  exact ⟨b, c, e, h1, h2, h3.congr hf⟩
theorem RefAt.congr {w : World} {g cb cap : Nat} {LV WV : Nat → Value} {S T : Dsk} (h : RefAt w g cb cap LV WV S) (e1 : T.n = S.n) (e5 : T.fuse = S.fuse) (e6 : T.dead = S.dead) (e2 : ∀ s, s < S.n → T.is s = S.is s)
    (e3 : ∀ s c, s < S.n → c < 64 → T.last (64 * s + c) = S.last (64 * s + c)) (e4 : ∀ s c, s < S.n → c < 64 → S.is s = true → T.wait (64 * s + c) = S.wait (64 * s + c)) (lb : ∀ i, 0 ≤ T.last i ∧ T.last i < 256) (wb : ∀ i, 0 ≤ T.wait i ∧ T.wait i < 256) : RefAt w g cb cap LV WV T := by
  refine ⟨by rw [e1, e5, e6]; exact h.top, h.blk, ?_, ?_, ?_, ?_, ?_, ?_, ⟨e1 ▸ h.ok.n0, e1 ▸ h.ok.n1, lb, wb, e5 ▸ h.ok.f0, e5 ▸ h.ok.f1⟩⟩
  · rw [e1]; exact h.c0
  · rw [e1]; exact h.c1
  · intro s hs; rw [e1] at hs; rw [e2 s hs]; exact h.c2 s hs
  · intro s hs; rw [e1] at hs; exact (h.last s hs).congr (fun c hc => e3 s c hs hc)
  · intro s hs hi; rw [e1] at hs; rw [e2 s hs] at hi; exact (h.wait s hs hi).congr (fun c hc => e4 s c hs hc hi)
  · rw [e1]; exact h.sl
/-- three cells stored anew -/
def set3 (w : World) (cb s : Nat) (l v : Value) (b : Bool) : World := ((w.setCell ⟨cb, s * 3, none⟩ l).setCell ⟨cb, s * 3 + 1, none⟩ v).setCell ⟨cb, s * 3 + 2, none⟩ (.bool b)
theorem set3_bx (w : World) (cb s : Nat) (l v : Value) (b : Bool) : Bx (· = cb) w (set3 w cb s l v b) := bx_put14 (bx_put14 (bx_put14 (Bx.refl _ w)))
theorem RefAt.set3 {w : World} {g cb cap : Nat} {LV WV : Nat → Value} {S : Dsk} (h : RefAt w g cb cap LV WV S) (s : Nat) (hs : s < S.n) (l v : Value) (S' : Dsk) (e1 : S'.n = S.n) (e5 : S'.fuse = S.fuse) (e6 : S'.dead = S.dead)
    (hl : RowU w l (fun c => S'.last (64 * s + c))) (hv : S'.is s = true → RowU w v (fun c => S'.wait (64 * s + c))) (hsl : ∃ A l c, v = .slice A l c)
    (o2 : ∀ t, t ≠ s → S'.is t = S.is t) (o0 : ∀ t c, t ≠ s → c < 64 → S'.last (64 * t + c) = S.last (64 * t + c)) (o1 : ∀ t c, t ≠ s → c < 64 → S'.wait (64 * t + c) = S.wait (64 * t + c))
    (lb : ∀ i, 0 ≤ S'.last i ∧ S'.last i < 256) (wb : ∀ i, 0 ≤ S'.wait i ∧ S'.wait i < 256) :
    RefAt (Go.Proofs.Ytppknadflmjefaa.set3 w cb s l v (S'.is s)) g cb cap (fun t => if t = s then l else LV t) (fun t => if t = s then v else WV t) S' := by
  have hk := set3_bx w cb s l v (S'.is s)
  have hN : NoU w (· = cb) := fun b hb => h.nou b (.inr hb)
  have n0 : ∀ {a b : Nat}, a ≠ b → (⟨cb, a, none⟩ : Addr) ≠ ⟨cb, b, none⟩ := fun hab e => hab (by injection e)
  refine h.upd hk ?_ s hs l v S' e1 e5 e6 ?_ ?_ ?_ ?_ (hl.keepn hk hN) (fun hi => (hv hi).keepn hk hN) hsl o2 o0 o1 lb wb
  · obtain ⟨cur, hc⟩ := h.blk
    exact ⟨_, heap_setCell_same _ cb _ _ _ _ (heap_setCell_same _ cb _ _ _ _ (heap_setCell_same w cb _ cur _ _ hc))⟩
  · unfold Go.Proofs.Ytppknadflmjefaa.set3
    rw [World.cell?_setCell_other _ _ _ _ (n0 (by omega)), World.cell?_setCell_other _ _ _ _ (n0 (by omega)), World.cell?_setCell_same _ _ _ (h.c0 s hs)]
  · unfold Go.Proofs.Ytppknadflmjefaa.set3
    rw [World.cell?_setCell_other _ _ _ _ (n0 (by omega)), World.cell?_setCell_same _ _ _ (by rw [World.cell?_setCell_other _ _ _ _ (n0 (by omega))]; exact h.c1 s hs)]
  · unfold Go.Proofs.Ytppknadflmjefaa.set3
    rw [World.cell?_setCell_same _ _ _ (by rw [World.cell?_setCell_other _ _ _ _ (n0 (by omega)), World.cell?_setCell_other _ _ _ _ (n0 (by omega))]; exact h.c2 s hs)]
  · intro j hj
    unfold Go.Proofs.Ytppknadflmjefaa.set3
    rw [World.cell?_setCell_other _ _ _ _ (n0 (by omega)), World.cell?_setCell_other _ _ _ _ (n0 (by omega)), World.cell?_setCell_other _ _ _ _ (n0 (by omega))]
namespace Dsk
/-- the sectors below q are synced -/
def upto (S : Dsk) (q : Nat) : Dsk := { S with last := fun p => if p / 64 < q ∧ S.is (p / 64) = true then S.wait p else S.last p, is := fun s => if s < q then false else S.is s }
theorem upto_zl (S : Dsk) (p : Nat) : (S.upto 0).last p = S.last p := by
  have h : ¬ (p / 64 < 0 ∧ S.is (p / 64) = true) := fun e => Nat.not_lt_zero _ e.1
  show (if p / 64 < 0 ∧ S.is (p / 64) = true then S.wait p else S.last p) = S.last p
  exact if_neg h
theorem upto_zi (S : Dsk) (s : Nat) : (S.upto 0).is s = S.is s := by
  have h : ¬ s < 0 := Nat.not_lt_zero _
  show (if s < 0 then false else S.is s) = S.is s
  exact if_neg h
theorem upto_lb {S : Dsk} (h : S.Ok) (q p : Nat) : 0 ≤ (S.upto q).last p ∧ (S.upto q).last p < 256 := by
  by_cases e : p / 64 < q ∧ S.is (p / 64) = true
  · rw [show (S.upto q).last p = S.wait p from if_pos e]; exact h.wb p
  · rw [show (S.upto q).last p = S.last p from if_neg e]; exact h.lb p
end Dsk
set_option maxRecDepth 100000 in
set_option maxHeartbeats 4000000 in
theorem rsync_ok {w : World} {g cb cap : Nat} {LV WV : Nat → Value} {S0 : Dsk} (h : RefAt w g cb cap LV WV S0) (hd : S0.dead = false) (hf : S0.fuse ≠ 0) :
    Calls Try.prog 77 #[.pointer (some ⟨g, 0, none⟩)] w fun e w' => e = .returned (.int .i64 0) ∧ (∃ LV' WV', RefAt w' g cb cap LV' WV' S0.burnt.synced) ∧ Bx (rIn g cb) w w' := by
  have HB := rburn_yes h hf
  have t1 := h.t1
  rw [hd] at t1
  obtain ⟨S, hS⟩ : ∃ S, Hid (S0.burnt = S) := ⟨_, rfl⟩
  rw [hS.out] at HB ⊢
  go_enter Try.func77, Try.ntmps77
  go_wp2_with (go_at_call 46; refine HB.mono ?_; rintro e w1 ⟨rfl, hd1, hb1⟩)
  have hok := hd1.ok
  have hn := hok.n1
  clear HB h
  go_loopw [3] (fun i wr => ∃ (q : Nat) (LV' WV' : Nat → Value), q ≤ S.n ∧ i = .int .i64 (q : Int) ∧ RefAt wr g cb cap LV' WV' (S.upto q) ∧ Bx (rIn g cb) w wr) (fun i _ => S.n - (intOf i).toNat)
  case atStart => exact ⟨0, LV, WV, Nat.zero_le _, rfl, hd1.congr rfl rfl rfl (fun s _ => Dsk.upto_zi S s) (fun s c _ _ => Dsk.upto_zl S _) (fun _ _ _ _ _ => rfl) (Dsk.upto_lb hok 0) hok.wb, hb1⟩
  case round =>
    obtain ⟨q, LV', WV', hq, rfl, hdq, hbq⟩ := hrel
    have q0 : (0 : Int) ≤ (q : Int) := Int.natCast_nonneg _
    have s0 := hdq.t0
    by_cases hlt : q < S.n
    · have q1 : (q : Int) < (S.n : Int) := by omega
      have d2 := hdq.c2 q hlt
      have hqq : (S.upto q).is q = S.is q := if_neg (Nat.lt_irrefl _)
      rw [hqq] at d2
      have hsame : ∀ p, p / 64 ≠ q → (S.upto (q + 1)).last p = (S.upto q).last p := fun p hp => by
        show (if p / 64 < q + 1 ∧ S.is (p / 64) = true then _ else _) = (if p / 64 < q ∧ S.is (p / 64) = true then _ else _)
        by_cases e : p / 64 < q ∧ S.is (p / 64) = true
        · rw [if_pos e, if_pos ⟨by omega, e.2⟩]
        · rw [if_neg e, if_neg (fun e' => e ⟨by omega, e'.2⟩)]
      have hsami : ∀ t, t ≠ q → (S.upto (q + 1)).is t = (S.upto q).is t := fun t ht => by
        show (if t < q + 1 then _ else _) = (if t < q then _ else _)
        by_cases e : t < q
        · rw [if_pos e, if_pos (by omega)]
        · rw [if_neg e, if_neg (by omega)]
      cases hi : S.is q
      · rw [hi] at d2
        have hd2 : RefAt wr g cb cap LV' WV' (S.upto (q + 1)) := hdq.congr rfl rfl rfl (fun s hs => by
            by_cases e : s = q
            · subst e; rw [hqq, hi]; exact if_pos (Nat.lt_succ_self _)
            · exact hsami s e) (fun s c hs hc => by
            by_cases e : s = q
            · subst e
              rw [show (S.upto (s + 1)).last (64 * s + c) = S.last (64 * s + c) from if_neg (fun e => by rw [show (64 * s + c) / 64 = s by omega, hi] at e; cases e.2), show (S.upto s).last (64 * s + c) = S.last (64 * s + c) from if_neg (fun e => by rw [show (64 * s + c) / 64 = s by omega, hi] at e; cases e.2)]
            · exact hsame _ (by omega)) (fun _ _ _ _ _ => rfl) (Dsk.upto_lb hok (q + 1)) hok.wb
        clear hsame hsami
        go_wp2
        exact ⟨⟨q + 1, LV', WV', hlt, rfl, hd2, hbq⟩, by simp only [intOf]; omega⟩
      · rw [hi] at d2
        have d0 := hdq.c0 q hlt
        have d1 := hdq.c1 q hlt
        have fz := hdq.fc
        have hwr := hdq.wait q hlt (hqq.trans hi)
        have hW := hdq.keep ((Bw.refl wr).drew)
        have hd2 := hdq.set3 q hlt (WV' q) (.slice none 0 0) (S.upto (q + 1)) rfl rfl rfl (hwr.congr (fun c hc => by
            show (if (64 * q + c) / 64 < q + 1 ∧ S.is ((64 * q + c) / 64) = true then _ else _) = _
            rw [show (64 * q + c) / 64 = q by omega, if_pos ⟨Nat.lt_succ_self _, hi⟩]; rfl)) (fun e => by rw [show (S.upto (q + 1)).is q = false from if_pos (Nat.lt_succ_self _)] at e; cases e) ⟨_, _, _, rfl⟩ hsami (fun t c ht hc => hsame _ (by omega)) (fun _ _ _ _ => rfl) (Dsk.upto_lb hok (q + 1)) hok.wb
        rw [show (S.upto (q + 1)).is q = false from if_pos (Nat.lt_succ_self _)] at hd2
        obtain ⟨bb, cc, eW, -, -, -⟩ := hwr
        rw [eW] at d1 hd2
        clear hsame hsami eW
        go_wp2
        go_region
        obtain ⟨V, hV⟩ : ∃ V, Hid ((Go.Proofs.Ytppknadflmjefaa.set3 wr cb q (.slice (some ⟨bb, 0, none⟩) 64 cc) (.slice none 0 0) false).drew = V) := ⟨_, rfl⟩
        have hV' : (((wr.setCell ⟨cb, q * 3, none⟩ (.slice (some ⟨bb, 0, none⟩) 64 cc)).setCell ⟨cb, q * 3 + 1, none⟩ (.slice none 0 0)).setCell ⟨cb, q * 3 + 2, none⟩ (.bool false)).drew = V := hV.out
        rw [hV']
        have hd3 := hd2.keep ((Bw.refl _).drew)
        have hb3 := bx_cb hbq ((set3_bx wr cb q (.slice (some ⟨bb, 0, none⟩) 64 cc) (.slice none 0 0) false).drew)
        rw [hV.out] at hd3 hb3
        clear hV' hd2 d0 d1 d2
        go_wp2
        exact ⟨⟨q + 1, _, _, hlt, rfl, hd3, hb3⟩, by simp only [intOf]; omega⟩
    · obtain rfl : q = S.n := by omega
      go_wp2
      go_ret
      refine ⟨rfl, ⟨LV', WV', hdq.congr rfl rfl rfl (fun s hs => (if_pos hs).symm) (fun s c hs hc => ?_) (fun _ _ _ _ _ => rfl) (fun i => hok.read i) hok.wb⟩, hbq⟩
      have hs' : s < S.n := hs
      show S.read (64 * s + c) = if (64 * s + c) / 64 < S.n ∧ S.is ((64 * s + c) / 64) = true then _ else _
      unfold Dsk.read
      rw [show (64 * s + c) / 64 = s by omega]
      cases hi : S.is s
      · rw [if_neg (by decide), if_neg (fun e => by cases e.2)]
      · rw [if_pos rfl, if_pos ⟨hs', rfl⟩]
theorem rsync_any {w : World} {g cb cap : Nat} {LV WV : Nat → Value} {S : Dsk} (h : RefAt w g cb cap LV WV S) :
    Calls Try.prog 77 #[.pointer (some ⟨g, 0, none⟩)] w fun e w' => e = .returned (.int .i64 S.syncs.1) ∧ (∃ LV' WV', RefAt w' g cb cap LV' WV' S.syncs.2) ∧ Bx (rIn g cb) w w' := by
  unfold Dsk.syncs
  have t1 := h.t1
  cases hd : S.dead
  · rw [if_neg (by decide)]
    rw [hd] at t1
    by_cases hf : S.fuse = 0
    · rw [if_pos hf]
      have HB := rburn_no h hf
      go_enter Try.func77, Try.ntmps77
      go_wp2_with (go_at_call 46; refine HB.mono ?_; rintro e w1 ⟨rfl, hd1, hb1⟩)
      go_ret
      exact ⟨rfl, ⟨_, _, hd1⟩, hb1⟩
    · rw [if_neg hf]; exact rsync_ok h hd hf
  · rw [if_pos rfl]
    rw [hd] at t1
    go_enter Try.func77, Try.ntmps77
    go_wp2
    go_ret
    exact ⟨rfl, ⟨_, _, h⟩, Bx.refl _ _⟩
end Go.Proofs.Ytppknadflmjefaa
