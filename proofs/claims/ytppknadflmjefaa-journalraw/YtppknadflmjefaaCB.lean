/- Layer 14: the document's own Write. -/
import Derived.Test.YtppknadflmjefaaCA
namespace Go.Proofs.Ytppknadflmjefaa
open Go.RowKit Go.Deep Go.Maps
set_option linter.unusedVariables false
set_option linter.unusedSimpArgs false

/-- 'append([]byte{}, x...)' at a step of a drawn region -/
theorem run_clone {W : World} (ty : TypeId) (ad : Addr) (L C : Nat) (f : Nat → Int) (hr : RowAt (W.alloc (.cells #[] 5)) (some ad) L f) (h0 : 0 < L) (hL : L ≤ 1000000) :
    ∃ gb cap2 w', (Builtin.append_ #[37, 37] ty #[.slice (some ⟨W.heap.size, 0, none⟩) 0 0, .slice (some ad) L C]).run Try.prog (W.alloc (.cells #[] 5)) = .ok (.slice (some ⟨gb, 0, none⟩) L cap2) w' ∧ W.heap.size ≤ gb ∧ L ≤ cap2 ∧ cap2 ≤ maxLen ∧ Own w' gb L f ∧ Bw W w' := by
  obtain ⟨i0, hi0, hz0, hz1, hz2⟩ := info_parts info_u8
  have hnews : ∀ j u, (cellsU f L)[j]? = some u → (W.alloc (.cells #[] 5)).cell? (ad.add j) = some u := fun j u hu => by
    obtain ⟨hj, rfl⟩ := cellsU_get f L j u hu
    obtain ⟨b, off, e', hc⟩ := hr.at hj
    cases e'
    rw [Addr.add_lit]; exact hc j hj
  obtain ⟨v', w', hrun, hown, hg, -⟩ := run_append_own (P := Try.prog) (W.alloc (.cells #[] 5)) W.heap.size 37 ty 5 i0 _ 1 1 Try.underlying37 hi0 hz0 hz1 hz2 rfl (by decide) _ 0 [] (own_empty W W.heap.size 5 (Nat.le_refl _)) ad L C (cellsU f L) (by rw [cellsU_len, Nat.mul_one]) hnews (cellsU_one f L) (by unfold maxLen; omega) (by omega) (by rw [size_alloc]; omega)
  rw [Nat.zero_add, List.nil_append] at hown
  obtain ⟨gb, cap2, rfl, h1, h2, h3, h4⟩ := Own.of hown h0
  exact ⟨gb, cap2, w', hrun, h1, h2, h3, h4, bw_fresh hg⟩
theorem step_clone {W : World} {ops : Array Oper} {o : Oper} {a : Act} {K : Act → World → Prop} {Q : Exit → Act → World → Prop} {E : Prop} (hgd : o.guard = none) (s x : Operand)
    (ho : o.op = .call { callee := .builtin .append, args := #[s, x], argTypes := #[37, 37] }) (ad : Addr) (L C : Nat) (f : Nat → Int)
    (hs : a.eval s = .slice (some ⟨W.heap.size, 0, none⟩) 0 0) (hx : a.eval x = .slice (some ad) L C) (hr : RowAt (W.alloc (.cells #[] 5)) (some ad) L f) (h0 : 0 < L) (hL : L ≤ 1000000)
    (hh : ∀ gb cap2 w', W.heap.size ≤ gb → L ≤ cap2 → cap2 ≤ maxLen → Own w' gb L f → Bw W w' → K (a.put o.dst (.slice (some ⟨gb, 0, none⟩) L cap2)) w') :
    if Region.wanted o (yielded ops a.tmps) = true then Oper.wp Try.prog o a (W.alloc (.cells #[] 5)) K Q else E := by
  have hw : Region.wanted o (yielded ops a.tmps) = true := by simp [Region.wanted, hgd]
  rw [if_pos hw]
  obtain ⟨gb, cap2, w', hrun, h1, h2, h3, h4, h5⟩ := run_clone o.type ad L C f hr h0 hL
  unfold Oper.wp execOp
  simp only [ho, resolve, invoke, builtin, Sem.run_bind, Sem.run_pure, Result.andThen_ok, List.map_toArray, List.map_cons, List.map_nil, hs, hx, hrun]
  exact hh gb cap2 w' h1 h2 h3 h4 h5
theorem wpList_clone {W : World} {ops : Array Oper} {rest : List Oper} {o : Oper} {a : Act} {Q : Exit → Act → World → Prop} (hgd : o.guard = none) (s x : Operand)
    (ho : o.op = .call { callee := .builtin .append, args := #[s, x], argTypes := #[37, 37] }) (ad : Addr) (L C : Nat) (f : Nat → Int)
    (hs : a.eval s = .slice (some ⟨W.heap.size, 0, none⟩) 0 0) (hx : a.eval x = .slice (some ad) L C) (hr : RowAt (W.alloc (.cells #[] 5)) (some ad) L f) (h0 : 0 < L) (hL : L ≤ 1000000)
    (hh : ∀ gb cap2 w', W.heap.size ≤ gb → L ≤ cap2 → cap2 ≤ maxLen → Own w' gb L f → Bw W w' → wpList Try.prog ops Q rest (a.put o.dst (.slice (some ⟨gb, 0, none⟩) L cap2)) w') : wpList Try.prog ops Q (o :: rest) a (W.alloc (.cells #[] 5)) := by
  refine wpList_plain hgd fun K hK => ?_
  obtain ⟨gb, cap2, w', hrun, h1, h2, h3, h4, h5⟩ := run_clone o.type ad L C f hr h0 hL
  unfold Oper.wp execOp
  simp only [ho, resolve, invoke, builtin, Sem.run_bind, Sem.run_pure, Result.andThen_ok, List.map_toArray, List.map_cons, List.map_nil, hs, hx, hrun]
  exact hK _ _ (hh gb cap2 w' h1 h2 h3 h4 h5)
/-- one of the cells stored anew -/
theorem RefAt.upd {w w' : World} {g cb cap : Nat} {LV WV : Nat → Value} {S : Dsk} (h : RefAt w g cb cap LV WV S) (k : Bx (· = cb) w w') (hb : ∃ cur, w'.heap[cb]? = some (.cells cur 68 (0, 0)))
    (s : Nat) (hs : s < S.n) (l v : Value) (S' : Dsk) (e1 : S'.n = S.n) (e5 : S'.fuse = S.fuse) (e6 : S'.dead = S.dead)
    (d0 : w'.cell? ⟨cb, s * 3, none⟩ = some l) (d1 : w'.cell? ⟨cb, s * 3 + 1, none⟩ = some v) (d2 : w'.cell? ⟨cb, s * 3 + 2, none⟩ = some (.bool (S'.is s)))
    (ho : ∀ j, j < s * 3 ∨ s * 3 + 3 ≤ j → w'.cell? ⟨cb, j, none⟩ = w.cell? ⟨cb, j, none⟩)
    (hl : RowU w' l (fun c => S'.last (64 * s + c))) (hv : S'.is s = true → RowU w' v (fun c => S'.wait (64 * s + c))) (hsl : ∃ A l c, v = .slice A l c)
    (o2 : ∀ t, t ≠ s → S'.is t = S.is t) (o0 : ∀ t c, t ≠ s → c < 64 → S'.last (64 * t + c) = S.last (64 * t + c)) (o1 : ∀ t c, t ≠ s → c < 64 → S'.wait (64 * t + c) = S.wait (64 * t + c))
    (lb : ∀ i, 0 ≤ S'.last i ∧ S'.last i < 256) (wb : ∀ i, 0 ≤ S'.wait i ∧ S'.wait i < 256) :
    RefAt w' g cb cap (fun t => if t = s then l else LV t) (fun t => if t = s then v else WV t) S' := by
  have hN : NoU w (· = cb) := fun b hb => h.nou b (.inr hb)
  have cg : ∀ {f f' : Nat → Int} {u : Value}, (∀ c, c < 64 → f' c = f c) → RowU w' u f → RowU w' u f' := fun hf ⟨b, c, e, h1, h2, h3⟩ => ⟨b, c, e, h1, h2, h3.congr hf⟩
  refine ⟨?_, hb, ?_, ?_, ?_, ?_, ?_, ?_, ⟨e1 ▸ h.ok.n0, e1 ▸ h.ok.n1, lb, wb, e5 ▸ h.ok.f0, e5 ▸ h.ok.f1⟩⟩
  · rw [e1, e5, e6, ← h.top]; exact k.block g h.lt h.ne
  · intro t ht
    rw [e1] at ht
    by_cases e : t = s
    · subst e; rw [if_pos rfl]; exact d0
    · rw [if_neg e, ho _ (by omega)]; exact h.c0 t ht
  · intro t ht
    rw [e1] at ht
    by_cases e : t = s
    · subst e; rw [if_pos rfl]; exact d1
    · rw [if_neg e, ho _ (by omega)]; exact h.c1 t ht
  · intro t ht
    rw [e1] at ht
    by_cases e : t = s
    · subst e; exact d2
    · rw [ho _ (by omega), o2 t e]; exact h.c2 t ht
  · intro t ht
    rw [e1] at ht
    by_cases e : t = s
    · subst e; rw [if_pos rfl]; exact hl
    · rw [if_neg e]; exact cg (fun c hc => o0 t c e hc) ((h.last t ht).keepn k hN)
  · intro t ht hi
    rw [e1] at ht
    by_cases e : t = s
    · subst e; rw [if_pos rfl]; exact hv hi
    · rw [if_neg e]; exact cg (fun c hc => o1 t c e hc) ((h.wait t ht (by rw [← o2 t e]; exact hi)).keepn k hN)
  · intro t ht
    rw [e1] at ht
    by_cases e : t = s
    · rw [if_pos e]; exact hsl
    · rw [if_neg e]; exact h.sl t ht
theorem bx_put14 {w w' : World} {g j : Nat} {v : Value} (h : Bx (· = g) w w') : Bx (· = g) w (w'.setCell ⟨g, j, none⟩ v) := h.put rfl
theorem same_at {LV : Nat → Value} {y : Nat} : (fun t => if t = y then LV y else LV t) = LV := funext fun t => by
  by_cases e : t = y
  · rw [if_pos e, e]
  · rw [if_neg e]
/-- the blocks that may turn in a round -/
theorem bx_cb {w a b : World} {g cb : Nat} (h : Bx (rIn g cb) w a) (k : Bx (· = cb) a b) : Bx (rIn g cb) w b := h.trans (k.more (fun _ e => .inr e))
set_option maxRecDepth 100000 in
set_option maxHeartbeats 4000000 in
theorem rwrite_ok {w : World} {g cb cap : Nat} {LV WV : Nat → Value} {S : Dsk} (h : RefAt w g cb cap LV WV S) (x L : Nat) (A : Option Addr) (c : Nat) (f : Nat → Int) (k : Nat) (hL : L = 64 * k) (hx : x + k ≤ S.n) (hd : S.dead = false) (hf : S.fuse ≠ 0) (hr : RowAt w A L f) (hA : ∀ b o, A = some ⟨b, o, none⟩ → 0 < L → ¬ rIn g cb b) (hc : L ≤ c) :
    Calls Try.prog 18 #[.pointer (some ⟨g, 0, none⟩), .int .i64 (x : Int), .slice A L c] w fun e w' => e = .returned (.int .i64 0) ∧ (∃ WV', RefAt w' g cb cap LV WV' (S.burnt.put x k f)) ∧ Bx (rIn g cb) w w' := by
  have HH := rthere_yes h (x : Int) (k : Int) ⟨Int.natCast_nonneg _, Int.natCast_nonneg _, by omega⟩
  have HB := rburn_yes h hf
  have t1 := h.t1
  rw [hd] at t1
  have hn := h.ok.n1
  have e1 : (L : Int) / 64 = (k : Int) := by omega
  have e2 : (L : Int) % 64 = 0 := by omega
  have k0 : (0 : Int) ≤ (L : Int) := Int.natCast_nonneg _
  have HL : Hid (L = 64 * k) := hL
  have HA : Hid (∀ b o, A = some ⟨b, o, none⟩ → 0 < L → ¬ rIn g cb b) := hA
  have HR : Hid (RowAt w A L f) := hr
  clear hL hA hr
  go_enter Try.func18, Try.ntmps18
  go_wp2_with (first
    | (go_at_call 43; refine HH.mono ?_; rintro e w1 ⟨rfl, hw⟩; obtain rfl := hw.symm)
    | (go_at_call 46; refine HB.mono ?_; rintro e w1 ⟨rfl, hd1, hb1⟩))
  clear HH HB h
  go_loopw [8] (fun i wr => ∃ (q : Nat) (WV' : Nat → Value), q ≤ k ∧ i = .int .i64 (q : Int) ∧ RefAt wr g cb cap LV WV' (S.burnt.put x q f) ∧ Bx (rIn g cb) w wr) (fun i _ => k - (intOf i).toNat)
  case atStart => exact ⟨0, WV, Nat.zero_le _, rfl, by rw [Dsk.put_zero]; exact hd1, hb1⟩
  case round =>
    obtain ⟨q, WV', hq, rfl, hdq, hbq⟩ := hrel
    have q0 : (0 : Int) ≤ (q : Int) := Int.natCast_nonneg _
    by_cases hlt : q < k
    · have q1 : (q : Int) < (k : Int) := by omega
      obtain ⟨b, off, rfl, hcell⟩ := HR.out.at (k := 0) (by have := HL.out; omega)
      clear hcell
      have hrq : RowAt wr (some ⟨b, off, none⟩) L f := HR.out.keepx hbq (fun b' o' e h0 => HA.out b' o' e h0)
      obtain ⟨p, hp⟩ : ∃ p, Hid (p = q * 64) := ⟨_, rfl⟩
      obtain ⟨r, hr⟩ : ∃ r, Hid (r = p + 64) := ⟨_, rfl⟩
      obtain ⟨y, hy⟩ : ∃ y, Hid (y = x + q) := ⟨_, rfl⟩
      have p0 : IntKind.i64.wrap ((q : Int) * 64) = (p : Int) := by rw [hp.out, IntKind.wrap_i64]; omega
      have p4 : IntKind.i64.wrap ((q : Int) + 1) = (q : Int) + 1 := by rw [IntKind.wrap_i64]; omega
      have p5 : IntKind.i64.wrap (((q : Int) + 1) * 64) = (r : Int) := by rw [hr.out, hp.out, IntKind.wrap_i64]; omega
      have p7 : IntKind.i64.wrap ((x : Int) + (q : Int)) = (y : Int) := by rw [hy.out, IntKind.wrap_i64]; omega
      have p1 : (p : Int) ≤ (r : Int) := by have := hr.out; omega
      have p2 : ¬ c = p := by have := HL.out; have := hp.out; omega
      have p3 : (0 : Int) ≤ (p : Int) := Int.natCast_nonneg _
      have p6 : (r : Int) ≤ (c : Int) := by have := HL.out; have := hp.out; have := hr.out; omega
      have hrp : Hid (r - p = 64) := by have := hr.out; show _ = _; omega
      have y0 : (0 : Int) ≤ (y : Int) := Int.natCast_nonneg _
      have y1 : (y : Int) < (S.n : Int) := by have := hy.out; omega
      have hyn : y < (S.burnt.put x q f).n := by show y < S.n; have := hy.out; omega
      have bw1 : Bw wr wr.drew := (Bw.refl _).drew
      have hd1' := hdq.keep bw1
      have Hrow : Hid (RowAt (wr.drew.alloc (.cells #[] 5)) (some ⟨b, off + p, none⟩) (r - p) (fun i => f (64 * q + i))) := by
        have ba : Bw wr.drew (wr.drew.alloc (.cells #[] 5)) := Below.alloc (Bw.refl _) (Nat.le_refl _) _
        have h1 := (hrq.keep bw1).keep ba
        show RowAt _ _ _ _
        rw [hrp.out, hp.out]
        refine ⟨Or.inr ⟨b, off + q * 64, rfl, fun i hi => ?_⟩, fun i => hrq.2 _⟩
        obtain ⟨b', off', e, hc'⟩ := h1.at (k := 64 * q + i) (by have := HL.out; omega)
        cases e
        have := hc' (64 * q + i) (by have := HL.out; omega)
        rw [show off + q * 64 + i = off + (64 * q + i) by omega]
        exact this
      have T0 : Hid (∀ W', Bw wr.drew W' → W'.cell? ⟨g, 0, none⟩ = some (.slice (some ⟨cb, 0, none⟩) S.n cap) ∧ W'.cell? ⟨cb, y * 3 + 1, none⟩ = some (WV' y) ∧ W'.frozen? ⟨cb, y * 3 + 1, none⟩ = false) := fun W' kW => ⟨(hd1'.keep kW).t0, (hd1'.keep kW).c1 y hyn, (hd1'.keep kW).fc _⟩
      have s0 := (T0.out wr.drew (Bw.refl _)).1
      have s1 := (T0.out (wr.drew.alloc (.cells #[] 5)) (Below.alloc (Bw.refl _) (Nat.le_refl _) _)).1
      have s1' : (wr.alloc (.cells #[] 5)).drew.cell? ⟨g, 0, none⟩ = some (.slice (some ⟨cb, 0, none⟩) S.n cap) := s1
      clear s1
      go_wp2
      go_region_held3 (fun w' => w'.cell? ⟨g, 0, none⟩ = some (.slice (some ⟨cb, 0, none⟩) S.n cap)) (first | exact s0 | exact s1' | exact s2 | exact s3) (first | ((refine step_clone (W := wr.drew) (by rfl) _ _ (by rfl) ⟨b, off + p, none⟩ (r - p) (c - p) (fun i => f (64 * q + i)) (by rfl) (by rfl) Hrow.out (by rw [hrp.out]; omega) (by rw [hrp.out]; omega) ?_); intro gb cap2 w2 hgb hcap hcm hown2 bw2; rw [hrp.out] at hown2 hcap; have s2 := (T0.out w2 bw2).1; have z1 := (T0.out w2 bw2).2.1; have z2 := (T0.out w2 bw2).2.2; have s3 : (w2.setCell ⟨cb, y * 3 + 1, none⟩ (.slice (some ⟨gb, 0, none⟩) (r - p) cap2)).cell? ⟨g, 0, none⟩ = some (.slice (some ⟨cb, 0, none⟩) S.n cap) := (by rw [World.cell?_setCell_other _ _ _ _ (fun e => by cases e)]; exact s2)))
      rw [hrp.out] at s3 ⊢
      obtain ⟨V1, hV1⟩ : ∃ V, Hid (w2.setCell ⟨cb, y * 3 + 1, none⟩ (.slice (some ⟨gb, 0, none⟩) 64 cap2) = V) := ⟨_, rfl⟩
      rw [hV1.out] at s3 ⊢
      have bwr2 : Bw wr w2 := bw1.trans bw2
      have hdw := hdq.keep bwr2
      have hblk1 : ∃ cur, V1.heap[cb]? = some (.cells cur 68 (0, 0)) := by
        obtain ⟨cur, hc1⟩ := hdw.blk
        rw [← hV1.out]; exact ⟨_, heap_setCell_same w2 cb _ cur _ _ hc1⟩
      have v2 : V1.cell? ⟨cb, y * 3 + 2, none⟩ = some (.bool ((S.burnt.put x q f).is y)) := by rw [← hV1.out, World.cell?_setCell_other _ _ _ _ (fun e => by injection e with _ e _; omega)]; exact hdw.c2 y hyn
      have vf : V1.frozen? ⟨cb, y * 3 + 2, none⟩ = false := by obtain ⟨cur, hc1⟩ := hblk1; exact frozen_of_row V1 cb _ _ _ hc1
      have hx12 : Bx (· = cb) w2 (V1.setCell ⟨cb, y * 3 + 2, none⟩ (.bool true)) := by rw [← hV1.out]; exact bx_put14 (bx_put14 (Bx.refl _ w2))
      have hx1r : Bx (· = cb) wr (V1.setCell ⟨cb, y * 3 + 2, none⟩ (.bool true)) := (Bx.of_bw bwr2).trans hx12
      have hgcb : gb ≠ cb := fun e => by have := hdq.ltc; have h2 : wr.heap.size ≤ gb := hgb; omega
      have hup := hdq.upd hx1r (by obtain ⟨cur, hc1⟩ := hblk1; exact ⟨_, heap_setCell_same V1 cb _ cur _ _ hc1⟩) y hyn (LV y) (.slice (some ⟨gb, 0, none⟩) 64 cap2) (S.burnt.put x (q + 1) f) rfl rfl rfl
        (by rw [World.cell?_setCell_other _ _ _ _ (fun e => by injection e with _ e _; omega), ← hV1.out, World.cell?_setCell_other _ _ _ _ (fun e => by injection e with _ e _; omega)]; exact hdw.c0 y hyn)
        (by rw [World.cell?_setCell_other _ _ _ _ (fun e => by injection e with _ e _; omega), ← hV1.out, World.cell?_setCell_same _ _ _ (hdw.c1 y hyn)])
        (by rw [World.cell?_setCell_same _ _ _ v2]; have : (S.burnt.put x (q + 1) f).is y = true := if_pos (by have := hy.out; omega); rw [this])
        (fun j hj => by rw [World.cell?_setCell_other _ _ _ _ (fun e => by injection e with _ e _; omega), ← hV1.out, World.cell?_setCell_other _ _ _ _ (fun e => by injection e with _ e _; omega)]; exact World.cell?_of_block (bwr2.block cb hdq.ltc))
        ((hdw.last y hyn).keepn hx12 (fun b hb => hdw.nou b (.inr hb)))
        (fun _ => ⟨gb, cap2, rfl, hcap, hcm, (hown2.keepx hx12 hgcb).congr (fun i hi => by
          show (if 64 * x ≤ 64 * y + i ∧ 64 * y + i < 64 * (x + (q + 1)) then f (64 * y + i - 64 * x) else _) = _
          have := hy.out
          rw [if_pos (by omega)]; congr 1; omega)⟩)
        ⟨_, _, _, rfl⟩
        (fun t ht => by
          show (if x ≤ t ∧ t < x + (q + 1) then true else _) = (if x ≤ t ∧ t < x + q then true else _)
          have := hy.out
          by_cases e : x ≤ t ∧ t < x + q
          · rw [if_pos e, if_pos (by omega)]
          · rw [if_neg e, if_neg (by omega)])
        (fun _ _ _ _ => rfl)
        (fun t d ht hd => by
          show (if 64 * x ≤ 64 * t + d ∧ 64 * t + d < 64 * (x + (q + 1)) then _ else _) = (if 64 * x ≤ 64 * t + d ∧ 64 * t + d < 64 * (x + q) then _ else _)
          have := hy.out
          by_cases e : 64 * x ≤ 64 * t + d ∧ 64 * t + d < 64 * (x + q)
          · rw [if_pos e, if_pos (by omega)]
          · rw [if_neg e, if_neg (by omega)])
        hdq.ok.lb (fun i => put_bd hd1.ok.wb (fun i => HR.out.2 i) i)
      rw [same_at] at hup
      have hbx' := bx_cb hbq hx1r
      have p8 : (x : Int) + (q : Int) = (y : Int) := by have := hy.out; omega
      clear hx12 hx1r hdw hblk1 hown2 z1 z2 s2 s0 s1' Hrow T0 hrq p0 p4 p5 p7 p1 p2 p3 p6
      go_wp2
      go_roundw
      case rel => exact ⟨q + 1, _, hlt, rfl, hup, hbx'⟩
      case measure => simp only [intOf]; omega
    · obtain rfl : q = k := by omega
      go_wp2
      go_ret
      exact ⟨rfl, ⟨_, hdq⟩, hbq⟩
theorem rwrite_any {w : World} {g cb cap : Nat} {LV WV : Nat → Value} {S : Dsk} (h : RefAt w g cb cap LV WV S) (x : Int) (bx : x < 9223372036854775808) (A : Option Addr) (L c : Nat) (f : Nat → Int) (hL : L < 9223372036854775808) (hr : RowAt w A L f) (hA : ∀ b o, A = some ⟨b, o, none⟩ → 0 < L → ¬ rIn g cb b) (hc : L ≤ c) :
    Calls Try.prog 18 #[.pointer (some ⟨g, 0, none⟩), .int .i64 x, .slice A L c] w fun e w' => e = .returned (.int .i64 (S.wrote x L f).1) ∧ (∃ WV', RefAt w' g cb cap LV WV' (S.wrote x L f).2) ∧ Bx (rIn g cb) w w' := by
  have t1 := h.t1
  have k0 : (0 : Int) ≤ (L : Int) := Int.natCast_nonneg _
  unfold Dsk.wrote
  cases hd : S.dead
  · rw [if_neg (by decide)]
    rw [hd] at t1
    by_cases hs : L % 64 = 0
    · rw [if_neg (Decidable.not_not.2 hs)]
      by_cases ht : 0 ≤ x ∧ x + ((L / 64 : Nat) : Int) ≤ S.n
      · rw [if_neg (Decidable.not_not.2 ht)]
        by_cases hf : S.fuse = 0
        · rw [if_pos hf]
          obtain ⟨k, hk⟩ : ∃ k : Nat, k = L / 64 := ⟨_, rfl⟩
          rw [← hk] at ht
          have e1 : (L : Int) / 64 = (k : Int) := by omega
          have e2 : (L : Int) % 64 = 0 := by omega
          have HH := rthere_yes h x (k : Int) ⟨ht.1, Int.natCast_nonneg _, ht.2⟩
          have HB := rburn_no h hf
          clear hk ht
          go_enter Try.func18, Try.ntmps18
          go_wp2_with (first
            | (go_at_call 43; refine HH.mono ?_; rintro e w1 ⟨rfl, hw⟩; obtain rfl := hw.symm)
            | (go_at_call 46; refine HB.mono ?_; rintro e w1 ⟨rfl, hd1, hb1⟩))
          go_ret
          exact ⟨rfl, ⟨_, hd1⟩, hb1⟩
        · rw [if_neg hf]
          obtain ⟨y, rfl⟩ : ∃ y : Nat, x = (y : Int) := ⟨x.toNat, by omega⟩
          rw [Int.toNat_natCast]
          exact rwrite_ok h y L A c f (L / 64) (by omega) (by omega) hd hf hr hA hc
      · rw [if_pos ht]
        obtain ⟨k, hk⟩ : ∃ k : Nat, k = L / 64 := ⟨_, rfl⟩
        rw [← hk] at ht
        have e1 : (L : Int) / 64 = (k : Int) := by omega
        have e2 : (L : Int) % 64 = 0 := by omega
        have HH := rthere_no h x (k : Int) bx (fun t => ht ⟨t.1, t.2.2⟩)
        clear hk ht
        go_enter Try.func18, Try.ntmps18
        go_wp2_with (go_at_call 43; refine HH.mono ?_; rintro e w1 ⟨rfl, hw⟩; obtain rfl := hw.symm)
        go_ret
        exact ⟨rfl, ⟨_, h⟩, Bx.refl _ _⟩
    · rw [if_pos hs]
      obtain ⟨r, hr'⟩ : ∃ r : Nat, r = L % 64 := ⟨_, rfl⟩
      have e1 : (L : Int) % 64 = (r : Int) := by omega
      have e2 : ((r : Int) != 0) = true := by rw [bne_iff_ne]; omega
      clear hr'
      go_enter Try.func18, Try.ntmps18
      go_wp2
      go_ret
      exact ⟨rfl, ⟨_, h⟩, Bx.refl _ _⟩
  · rw [if_pos rfl]
    rw [hd] at t1
    go_enter Try.func18, Try.ntmps18
    go_wp2
    go_ret
    exact ⟨rfl, ⟨_, h⟩, Bx.refl _ _⟩
end Go.Proofs.Ytppknadflmjefaa
