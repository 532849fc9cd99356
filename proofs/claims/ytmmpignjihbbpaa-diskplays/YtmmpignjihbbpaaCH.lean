/- Layer 14: the document's own Rot. -/
import Derived.Test.YtmmpignjihbbpaaCG
namespace Go.Proofs.Ytmmpignjihbbpaa
open Go.RowKit Go.Deep Go.Maps
set_option linter.unusedVariables false
set_option linter.unusedSimpArgs false

theorem rrot_no {w : World} {g cb cap : Nat} {LV WV : Nat → Value} {S : Dsk} (h : RefAt w g cb cap LV WV S) (x z y : Int) (hx : ¬ (0 ≤ x ∧ x < S.n ∧ 0 ≤ z ∧ z < 64)) :
    Calls Try.prog 31 #[.pointer (some ⟨g, 0, none⟩), .int .i64 x, .int .i64 z, .int .u8 y] w fun e w' => e = .returned (.int .i64 1) ∧ w' = w := by
  have t0 := h.t0
  by_cases h1 : x < 0
  · clear hx
    go_enter Try.func31, Try.ntmps31
    go_wp2
    go_ret
    exact ⟨rfl, rfl⟩
  · by_cases h2 : (S.n : Int) ≤ x
    · clear hx
      go_enter Try.func31, Try.ntmps31
      go_wp2
      go_ret
      exact ⟨rfl, rfl⟩
    · by_cases h3 : z < 0
      · clear hx
        go_enter Try.func31, Try.ntmps31
        go_wp2
        go_ret
        exact ⟨rfl, rfl⟩
      · have h4 : 64 ≤ z := by omega
        clear hx
        go_enter Try.func31, Try.ntmps31
        go_wp2
        go_ret
        exact ⟨rfl, rfl⟩
/-- a cell in a block of its own -/
def Cell3 (w : World) (z : Nat) (l v : Value) (b : Bool) : Prop := w.heap[z]? = some (.cells #[l, v, .bool b] 60 (0, 0))
theorem Cell3.k0 {w : World} {z : Nat} {l v : Value} {b : Bool} (h : Cell3 w z l v b) : w.cell? ⟨z, 0, none⟩ = some l := cell_of_row w z 0 _ _ _ h
theorem Cell3.k1 {w : World} {z : Nat} {l v : Value} {b : Bool} (h : Cell3 w z l v b) : w.cell? ⟨z, 1, none⟩ = some v := cell_of_row w z 1 _ _ _ h
theorem Cell3.k2 {w : World} {z : Nat} {l v : Value} {b : Bool} (h : Cell3 w z l v b) : w.cell? ⟨z, 2, none⟩ = some (.bool b) := cell_of_row w z 2 _ _ _ h
theorem Cell3.fz {w : World} {z : Nat} {l v : Value} {b : Bool} (h : Cell3 w z l v b) (j : Nat) : w.frozen? ⟨z, j, none⟩ = false := frozen_of_row w z j _ _ h
theorem Cell3.keep {w w' : World} {z : Nat} {l v : Value} {b : Bool} (h : Cell3 w z l v b) (k : Bw w w') : Cell3 w' z l v b := (k.block z (Array.getElem?_eq_some_iff.1 h).1).trans h
theorem Cell3.keepx {P : Nat → Prop} {w w' : World} {z : Nat} {l v : Value} {b : Bool} (h : Cell3 w z l v b) (k : Bx P w w') (hz : ¬ P z) : Cell3 w' z l v b := (k.block z (Array.getElem?_eq_some_iff.1 h).1 hz).trans h
theorem Cell3.s0 {w : World} {z : Nat} {l v : Value} {b : Bool} (h : Cell3 w z l v b) (l' : Value) : Cell3 (w.setCell ⟨z, 0, none⟩ l') z l' v b := heap_setCell_same w z 0 _ _ _ h
theorem Cell3.s1 {w : World} {z : Nat} {l v : Value} {b : Bool} (h : Cell3 w z l v b) (v' : Value) : Cell3 (w.setCell ⟨z, 1, none⟩ v') z l v' b := heap_setCell_same w z 1 _ _ _ h
theorem Cell3.lt {w : World} {z : Nat} {l v : Value} {b : Bool} (h : Cell3 w z l v b) : z < w.heap.size := (Array.getElem?_eq_some_iff.1 h).1
theorem Cell3.ne {w : World} {z g n : Nat} {l v : Value} {b : Bool} {f : Nat → Int} (h : Cell3 w z l v b) (k : Own w g n f) : z ≠ g := fun e => by
  obtain ⟨cur, h1, _⟩ := k
  unfold Cell3 at h
  rw [e, h1] at h
  simp only [Option.some.injEq, Obj.cells.injEq] at h
  exact absurd h.2.1 (by decide)
set_option maxRecDepth 100000 in
set_option maxHeartbeats 4000000 in
theorem rrot_ok {w : World} {g cb cap : Nat} {LV WV : Nat → Value} {S : Dsk} (h : RefAt w g cb cap LV WV S) (s c : Nat) (y : Int) (hy : 0 ≤ y ∧ y < 256) (hs : s < S.n) (hc : c < 64) :
    Calls Try.prog 31 #[.pointer (some ⟨g, 0, none⟩), .int .i64 (s : Int), .int .i64 (c : Int), .int .u8 y] w fun e w' => e = .returned (.int .i64 0) ∧ (∃ LV' WV', RefAt w' g cb cap LV' WV' (S.rot s c y)) ∧ Bx (rIn g cb) w w' := by
  have hok := h.ok
  have hn := hok.n1
  have k0 : (0 : Int) ≤ (s : Int) := Int.natCast_nonneg _
  have k1 : (s : Int) < (S.n : Int) := by omega
  have k2 : (0 : Int) ≤ (c : Int) := Int.natCast_nonneg _
  have k3 : (c : Int) < 64 := by omega
  have t0 := h.t0
  have c0 := h.c0 s hs
  have c1 := h.c1 s hs
  have c2 := h.c2 s hs
  obtain ⟨bl, cl, eL, hcl, hclm, hrl⟩ := (h.last s hs).row (fun i => hok.lb _)
  obtain ⟨wa, wl, wc, eW⟩ := h.sl s hs
  rw [eL] at c0
  rw [eW] at c1
  have HW : Hid (S.is s = true → RowU w (.slice wa wl wc) (fun c => S.wait (64 * s + c))) := fun hi => by have := h.wait s hs hi; rwa [eW] at this
  have HL : Hid (RowAt w (some ⟨bl, 0, none⟩) 64 (fun c => S.last (64 * s + c))) := hrl
  obtain ⟨isb, hisb⟩ : ∃ b, Hid (S.is s = b) := ⟨_, rfl⟩
  rw [hisb.out] at c2
  have H : Hid (RefAt w g cb cap LV WV S) := h
  have r1 : bits .xor .u8 (S.last (64 * s + c)) y = x8 (S.last (64 * s + c)) y := x8_bits (hok.lb _) hy
  have r2 : bits .xor .u8 (S.wait (64 * s + c)) y = x8 (S.wait (64 * s + c)) y := x8_bits (hok.wb _) hy
  clear hrl h
  go_enter Try.func31, Try.ntmps31
  go_upto_region 6 with fail
  obtain ⟨z, hz⟩ : ∃ z, Hid (w.heap.size = z) := ⟨_, rfl⟩
  obtain ⟨W1, hW1⟩ : ∃ W, Hid (w.alloc (.cells #[.slice (some ⟨bl, 0, none⟩) 64 cl, .slice wa wl wc, .bool isb] 60) = W) := ⟨_, rfl⟩
  have hz1 : Cell3 W1 z (.slice (some ⟨bl, 0, none⟩) 64 cl) (.slice wa wl wc) isb := by rw [← hW1.out, ← hz.out]; exact (Go.MapKept.heap_alloc _ _).1
  have bw1 : Bw w W1 := by rw [← hW1.out]; exact Below.alloc (Bw.refl _) (Nat.le_refl _) _
  have hzw : w.heap.size ≤ z := by rw [hz.out]; exact Nat.le_refl _
  rw [hW1.out, hz.out]
  have ba1 : Bw W1 (W1.alloc (.cells #[] 5)) := Below.alloc (Bw.refl _) (Nat.le_refl _) _
  have z0a := (hz1.keep ba1).k0
  have HLa := HL.out.keep (bw1.trans ba1)
  clear c0 c1 c2 t0
  go_upto_region 7 with (first
    | (at_builtin; refine wpList_clone (W := W1) (by rfl) _ _ (by rfl) ⟨bl, 0, none⟩ 64 cl (fun c => S.last (64 * s + c)) (by rfl) (by rfl) HLa (by omega) (by omega) ?_; intro gb cap2 w2 hgb hcap hcm hown bw2; have hz2 := hz1.keep bw2; have z0b := hz2.k0; have zfb := hz2.fz 0; have hz3 := hz2.s0 (.slice (some ⟨gb, 0, none⟩) 64 cap2); have hne := hz2.ne hown))
  obtain ⟨W3, hW3⟩ : ∃ W, Hid (w2.setCell ⟨z, 0, none⟩ (.slice (some ⟨gb, 0, none⟩) 64 cap2) = W) := ⟨_, rfl⟩
  have hx3 : Bx (· = z) w2 W3 := by rw [← hW3.out]; exact bx_put14 (Bx.refl _ _)
  have bw3 : Bw w W3 := bw_bx (bw1.trans bw2) hx3 hzw
  have hown3 := hown.keepx hx3 (fun e => hne e.symm)
  rw [hW3.out] at hz3 ⊢
  have hgw : w.heap.size ≤ gb := Nat.le_trans bw1.size hgb
  have hz3d := hz3.keep ((Bw.refl W3).drew)
  have g0 := hz3d.k0
  have hcl3 := (hown3.keep ((Bw.refl W3).drew)).cell hc
  have g1 := hcl3.1
  have g2 := hcl3.2
  have cap2i : (64 : Int) ≤ (cap2 : Int) := by omega
  clear z0a z0b zfb hz2 hown HLa ba1 hz1
  go_region
  obtain ⟨W4, hW4⟩ : ∃ W, Hid ((W3.setCell ⟨gb, c, none⟩ (.int .u8 (x8 (S.last (64 * s + c)) y))).drew = W) := ⟨_, rfl⟩
  have hx4 : Bx (· = gb) W3 W4 := by rw [← hW4.out]; exact (bx_put14 (Bx.refl _ _)).drew
  have bw4 : Bw w W4 := bw_bx bw3 hx4 hgw
  have hz4 := hz3.keepx hx4 hne
  have hown4 : Own W4 gb 64 (fun i => rotF S.last (64 * s + c) y (64 * s + i)) := by
    rw [← hW4.out]
    exact (hown3.set (f' := fun i => rotF S.last (64 * s + c) y (64 * s + i)) hc (by show rotF _ _ _ _ = _; unfold rotF; rw [if_pos rfl]) (fun i _ hi => by show rotF _ _ _ _ = _; unfold rotF; rw [if_neg (by omega)])).keep ((Bw.refl _).drew)
  rw [hW4.out]
  have zz2 := hz4.k2
  clear g0 g1 g2 hcl3 hz3d hown3 hz3 hx3 hx4
  cases isb
  · have hzf := hz4
    have hownL := hown4
    have hR := H.out.keep bw4
    have q0 := hR.t0
    have q1 := hR.c0 s hs
    have q2 := hR.c1 s hs
    have q3 := hR.c2 s hs
    have q4 := hR.fc
    have m0 := hzf.k0
    have m1 := hzf.k1
    have m2 := hzf.k2
    have hup := hR.set3 s hs (.slice (some ⟨gb, 0, none⟩) 64 cap2) (.slice wa wl wc) (S.rot s c y) rfl rfl rfl ⟨gb, cap2, rfl, hcap, hcm, hownL⟩ (fun hi => by
          have hi' : S.is s = true := hi
          rw [hisb.out] at hi'; cases hi') ⟨_, _, _, rfl⟩ (fun _ _ => rfl) (fun t d ht hd => by show rotF _ _ _ _ = _; unfold rotF; rw [if_neg (by omega)]) (fun t d ht hd => by show rotF _ _ _ _ = _; unfold rotF; rw [if_neg (by omega)]) (fun i => rotF_bd hok.lb hy i) (fun i => rotF_bd hok.wb hy i)
    rw [show (S.rot s c y).is s = false from hisb.out] at hup
    have hbx := (Bx.of_bw (S := rIn g cb) bw4).trans ((set3_bx W4 cb s (.slice (some ⟨gb, 0, none⟩) 64 cap2) (.slice wa wl wc) false).more (fun _ e => .inr e))
    go_wp2
    go_region
    obtain ⟨V, hV⟩ : ∃ V, Hid ((Go.Proofs.Ytmmpignjihbbpaa.set3 W4 cb s (.slice (some ⟨gb, 0, none⟩) 64 cap2) (.slice wa wl wc) false).drew = V) := ⟨_, rfl⟩
    have hV' : (((W4.setCell ⟨cb, s * 3, none⟩ (.slice (some ⟨gb, 0, none⟩) 64 cap2)).setCell ⟨cb, s * 3 + 1, none⟩ (.slice wa wl wc)).setCell ⟨cb, s * 3 + 2, none⟩ (.bool false)).drew = V := hV.out
    rw [hV']
    have hd5 := hup.keep ((Bw.refl _).drew)
    have hb5 := hbx.drew
    rw [hV.out] at hd5 hb5
    clear hV' hup hbx q0 q1 q2 q3 q4 m0 m1 m2 hR
    go_wp2
    go_ret
    exact ⟨rfl, ⟨_, _, hd5⟩, hb5⟩
  · obtain ⟨bw, cw, eW', hcw, hcwm, hrw⟩ := (HW.out hisb.out).row (fun i => hok.wb _)
    cases eW'
    have ba4 : Bw W4 (W4.alloc (.cells #[] 5)) := Below.alloc (Bw.refl _) (Nat.le_refl _) _
    have z1a := (hz4.keep ba4).k1
    have HWa := hrw.keep (bw4.trans ba4)
    go_upto_region 10 with (first
      | (at_builtin; refine wpList_clone (W := W4) (by rfl) _ _ (by rfl) ⟨bw, 0, none⟩ 64 _ (fun c => S.wait (64 * s + c)) (by rfl) (by rfl) HWa (by omega) (by omega) ?_; intro gw cap3 w5 hgb5 hcap5 hcm5 hown5 bw5; have hz5 := hz4.keep bw5; have z1b := hz5.k1; have zfb := hz5.fz 1; have hz6 := hz5.s1 (.slice (some ⟨gw, 0, none⟩) 64 cap3); have hne5 := hz5.ne hown5))
    obtain ⟨W6, hW6⟩ : ∃ W, Hid (w5.setCell ⟨z, 1, none⟩ (.slice (some ⟨gw, 0, none⟩) 64 cap3) = W) := ⟨_, rfl⟩
    have hx6 : Bx (· = z) w5 W6 := by rw [← hW6.out]; exact bx_put14 (Bx.refl _ _)
    have bw6 : Bw w W6 := bw_bx (bw4.trans bw5) hx6 hzw
    have hown6 := hown5.keepx hx6 (fun e => hne5 e.symm)
    have hownL6 := (hown4.keep bw5).keepx hx6 (fun e => hne e.symm)
    rw [hW6.out] at hz6 ⊢
    have hgw5 : w.heap.size ≤ gw := Nat.le_trans bw4.size hgb5
    have hgg : gb ≠ gw := fun e => by have := hown4.lt; omega
    have hz6d := hz6.keep ((Bw.refl W6).drew)
    have g0 := hz6d.k1
    have hcl6 := (hown6.keep ((Bw.refl W6).drew)).cell hc
    have g1 := hcl6.1
    have g2 := hcl6.2
    have cap3i : (64 : Int) ≤ (cap3 : Int) := by omega
    clear z1a z1b zfb hz5 hown5 HWa ba4
    go_region
    obtain ⟨W7, hW7⟩ : ∃ W, Hid ((W6.setCell ⟨gw, c, none⟩ (.int .u8 (x8 (S.wait (64 * s + c)) y))).drew = W) := ⟨_, rfl⟩
    have hx7 : Bx (· = gw) W6 W7 := by rw [← hW7.out]; exact (bx_put14 (Bx.refl _ _)).drew
    have bw7 : Bw w W7 := bw_bx bw6 hx7 hgw5
    have hzf := hz6.keepx hx7 hne5
    have hownL := hownL6.keepx hx7 hgg
    have hownW : Own W7 gw 64 (fun i => rotF S.wait (64 * s + c) y (64 * s + i)) := by
      rw [← hW7.out]
      exact (hown6.set (f' := fun i => rotF S.wait (64 * s + c) y (64 * s + i)) hc (by show rotF _ _ _ _ = _; unfold rotF; rw [if_pos rfl]) (fun i _ hi => by show rotF _ _ _ _ = _; unfold rotF; rw [if_neg (by omega)])).keep ((Bw.refl _).drew)
    rw [hW7.out]
    clear g0 g1 g2 hcl6 hz6d hown6 hz6 hx6 hx7 hownL6 hz4 zz2
    have hR := H.out.keep bw7
    have q0 := hR.t0
    have q1 := hR.c0 s hs
    have q2 := hR.c1 s hs
    have q3 := hR.c2 s hs
    have q4 := hR.fc
    have m0 := hzf.k0
    have m1 := hzf.k1
    have m2 := hzf.k2
    have hup := hR.set3 s hs (.slice (some ⟨gb, 0, none⟩) 64 cap2) (.slice (some ⟨gw, 0, none⟩) 64 cap3) (S.rot s c y) rfl rfl rfl ⟨gb, cap2, rfl, hcap, hcm, hownL⟩ (fun _ => ⟨gw, cap3, rfl, hcap5, hcm5, hownW⟩) ⟨_, _, _, rfl⟩ (fun _ _ => rfl) (fun t d ht hd => by show rotF _ _ _ _ = _; unfold rotF; rw [if_neg (by omega)]) (fun t d ht hd => by show rotF _ _ _ _ = _; unfold rotF; rw [if_neg (by omega)]) (fun i => rotF_bd hok.lb hy i) (fun i => rotF_bd hok.wb hy i)
    rw [show (S.rot s c y).is s = true from hisb.out] at hup
    have hbx := (Bx.of_bw (S := rIn g cb) bw7).trans ((set3_bx W7 cb s (.slice (some ⟨gb, 0, none⟩) 64 cap2) (.slice (some ⟨gw, 0, none⟩) 64 cap3) true).more (fun _ e => .inr e))
    go_wp2
    go_region
    obtain ⟨V, hV⟩ : ∃ V, Hid ((Go.Proofs.Ytmmpignjihbbpaa.set3 W7 cb s (.slice (some ⟨gb, 0, none⟩) 64 cap2) (.slice (some ⟨gw, 0, none⟩) 64 cap3) true).drew = V) := ⟨_, rfl⟩
    have hV' : (((W7.setCell ⟨cb, s * 3, none⟩ (.slice (some ⟨gb, 0, none⟩) 64 cap2)).setCell ⟨cb, s * 3 + 1, none⟩ (.slice (some ⟨gw, 0, none⟩) 64 cap3)).setCell ⟨cb, s * 3 + 2, none⟩ (.bool true)).drew = V := hV.out
    rw [hV']
    have hd5 := hup.keep ((Bw.refl _).drew)
    have hb5 := hbx.drew
    rw [hV.out] at hd5 hb5
    clear hV' hup hbx q0 q1 q2 q3 q4 m0 m1 m2 hR
    go_wp2
    go_ret
    exact ⟨rfl, ⟨_, _, hd5⟩, hb5⟩
theorem rrot_any {w : World} {g cb cap : Nat} {LV WV : Nat → Value} {S : Dsk} (h : RefAt w g cb cap LV WV S) (x z y : Int) (hy : 0 ≤ y ∧ y < 256) :
    Calls Try.prog 31 #[.pointer (some ⟨g, 0, none⟩), .int .i64 x, .int .i64 z, .int .u8 y] w fun e w' => e = .returned (.int .i64 (S.rots x z y).1) ∧ (∃ LV' WV', RefAt w' g cb cap LV' WV' (S.rots x z y).2) ∧ Bx (rIn g cb) w w' := by
  unfold Dsk.rots
  by_cases hx : 0 ≤ x ∧ x < S.n ∧ 0 ≤ z ∧ z < 64
  · rw [if_pos hx]
    obtain ⟨s, rfl⟩ : ∃ s : Nat, x = (s : Int) := ⟨x.toNat, by omega⟩
    obtain ⟨c, rfl⟩ : ∃ c : Nat, z = (c : Int) := ⟨z.toNat, by omega⟩
    rw [Int.toNat_natCast, Int.toNat_natCast]
    exact rrot_ok h s c y hy (by omega) (by omega)
  · rw [if_neg hx]
    exact (rrot_no h x z y hx).mono fun e w' ⟨h1, h2⟩ => ⟨h1, ⟨LV, WV, by rw [h2]; exact h⟩, by rw [h2]; exact Bx.refl _ _⟩
end Go.Proofs.Ytmmpignjihbbpaa
