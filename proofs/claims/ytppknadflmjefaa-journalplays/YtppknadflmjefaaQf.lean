/- Layer 15: the document's write. -/
import Derived.Test.YtppknadflmjefaaQd
namespace Go.Proofs.Ytppknadflmjefaa
open Go.RowKit Go.Deep Go.Maps
set_option linter.unusedVariables false
set_option linter.unusedSimpArgs false

theorem ropen15_any {w : World} {g cb cap : Nat} {LV WV : Nat → Value} {S : Dsk} (h : RefAt w g cb cap LV WV S) (x y : Int) (bx : -9223372036854775808 ≤ x ∧ x < 9223372036854775808) (bY : -9223372036854775808 ≤ y ∧ y < 9223372036854775808) :
    Calls Try.prog 28 #[.pointer (some ⟨g, 0, none⟩), .agg #[.int .i64 x, .int .i64 y]] w fun e w' => ROpenV w g (Jl.openE S x y) (Jl.openJ S x y) e w' := by
  unfold Jl.openJ Jl.openE
  by_cases hbad : y < 4 ∨ ¬ (0 ≤ x ∧ x + y ≤ S.n)
  · rw [if_pos hbad, if_neg (by decide)]
    exact ropen15_bad h x y bx bY hbad
  · rw [if_neg hbad]
    obtain ⟨r0, rfl⟩ : ∃ r : Nat, x = (r : Int) := ⟨x.toNat, by omega⟩
    obtain ⟨rc, rfl⟩ : ∃ r : Nat, y = (r : Int) := ⟨y.toNat, by omega⟩
    rw [Int.toNat_natCast, Int.toNat_natCast]
    cases hd : S.dead
    · rw [if_neg (by decide)]
      have h1 := ropen15_ok h r0 rc (by omega) (by omega) hd
      cases ho : Jl.opn S r0 rc with
      | none => rw [ho] at h1; simpa using h1
      | some J => rw [ho] at h1; simpa using h1
    · rw [if_pos rfl, if_neg (by decide)]
      exact ropen15_dead h r0 rc (by omega) (by omega) hd
theorem rrecords15_any {w : World} {base gj g : Nat} {R : Nat → Prop} {v : Value} {J : Jl.Jn} (h : RjAt w base gj g R v J) :
    Calls Try.prog 58 #[.pointer (some ⟨gj, 0, none⟩)] w fun e w' => e = .returned v ∧ w' = w := by
  have c6 := h.c6
  obtain ⟨A, c, rfl⟩ := h.form
  clear h
  go_enter Try.func58, Try.ntmps58
  go_wp2
  go_ret
  exact ⟨rfl, rfl⟩
theorem rrecords15_nil (w : World) : Calls Try.prog 58 #[.pointer none] w fun e w' => e = .returned (.slice none 0 0) ∧ w' = w := by
  go_enter Try.func58, Try.ntmps58
  go_wp2
  go_ret
  exact ⟨rfl, rfl⟩
theorem rcount15_any {w : World} {base gj g : Nat} {R : Nat → Prop} {v : Value} {J : Jl.Jn} (h : RjAt w base gj g R v J) :
    Calls Try.prog 60 #[.pointer (some ⟨gj, 0, none⟩)] w fun e w' => e = .returned (.int .u64 (J.h.n : Int)) ∧ w' = w := by
  have c3 := h.c3
  clear h
  go_enter Try.func60, Try.ntmps60
  go_wp2
  go_ret
  exact ⟨rfl, rfl⟩
theorem rcount15_nil (w : World) : Calls Try.prog 60 #[.pointer none] w fun e w' => e = .returned (.int .u64 0) ∧ w' = w := by
  go_enter Try.func60, Try.ntmps60
  go_wp2
  go_ret
  exact ⟨rfl, rfl⟩
theorem rroom15_nil (w : World) : Calls Try.prog 59 #[.pointer none] w fun e w' => e = .returned (.int .i64 0) ∧ w' = w := by
  go_enter Try.func59, Try.ntmps59
  go_wp2
  go_ret
  exact ⟨rfl, rfl⟩
theorem rroom15_any {w : World} {base gj g : Nat} {R : Nat → Prop} {v : Value} {J : Jl.Jn} (h : RjAt w base gj g R v J) :
    Calls Try.prog 59 #[.pointer (some ⟨gj, 0, none⟩)] w fun e w' => e = .returned (.int .i64 ((Jl.room J.rc - J.h.len : Nat) : Int)) ∧ Bw w w' := by
  have hok := h.ok
  have HR := rhalf15_any (J.r0 : Int) J.rc hok.rc4 hok.rc w.drew
  have c1 := h.c1
  have c2 := h.c2
  have c5 := h.c5
  have hlen := hok.fit.2.2
  have hrl := Jl.room_le hok.rc
  obtain ⟨q, hq⟩ : ∃ q, Hid (J.h.len = q) := ⟨_, rfl⟩
  have H : Hid (RjAt w base gj g R v J) := h
  rw [hq.out] at hlen c5 ⊢
  obtain ⟨rm, hrm⟩ : ∃ q, Hid (Jl.room J.rc = q) := ⟨_, rfl⟩
  obtain ⟨hf, hhf⟩ : ∃ q, Hid (Jl.half J.rc = q) := ⟨_, rfl⟩
  have e1 : (hf : Int) * 64 = (rm : Int) := by
    have h1 : Jl.room J.rc = Jl.half J.rc * 64 := rfl
    rw [hrm.out, hhf.out] at h1
    omega
  rw [hrm.out] at hlen hrl ⊢
  rw [hhf.out] at HR
  have ew0 : IntKind.i64.wrap ((hf : Int) * 64) = (rm : Int) := by rw [IntKind.wrap_i64]; omega
  have ew : IntKind.i64.wrap ((rm : Int) - (q : Int)) = (rm : Int) - (q : Int) := by rw [IntKind.wrap_i64]; omega
  have e3 : Hid ((rm : Int) - (q : Int) = ((rm - q : Nat) : Int)) := by show _ = _; omega
  clear h hok e1
  go_enter Try.func59, Try.ntmps59
  go_wp2
  go_region_held3 (fun w' => w'.cell? ⟨gj, 1, none⟩ = some (.int .i64 (J.r0 : Int)) ∧ w'.cell? ⟨gj, 2, none⟩ = some (.int .i64 (J.rc : Int)) ∧ w'.cell? ⟨gj, 5, none⟩ = some (.int .i64 (q : Int)))
    (first | exact ⟨c1, c2, c5⟩ | exact ⟨d1, d2, d5⟩ | assumption)
    (first | (go_at_call 55; refine HR.mono ?_; rintro e w1 ⟨rfl, hb1⟩; have hb1' : Bw w w1 := Bw.trans ((Bw.refl w).drew) hb1; have H1 := H.out.keep hb1'; have d1 := H1.c1; have d2 := H1.c2; have d5 := H1.c5; rw [hq.out] at d5; clear H1))
  go_wp2
  go_ret
  exact ⟨by rw [← e3.out]; rfl, hb1'⟩
/-- how Packed ends -/
def PackedV (w : World) (L : List (List Nat)) (e : Ending) (w' : World) : Prop := Bw w w' ∧ ((Jl.long L = true ∧ e = .returned (.tuple #[.slice none 0 0, .bool false])) ∨ (Jl.long L = false ∧ ∃ v, e = .returned (.tuple #[v, .bool true]) ∧ w'.ownsRow w.heap.size 5 1 v (Jl.packed L).length (cellsL (Jl.packed L))))
set_option maxRecDepth 100000 in
set_option maxHeartbeats 4000000 in
theorem rpacked15_any {w : World} {A : Option Addr} {n : Nat} (ca : Nat) {vs : List Value} {L : List (List Nat)} (h : MatV w A n vs L) (hn : n ≤ 1000000) (hs : (Jl.packed L).length ≤ 1000000) :
    Calls Try.prog 61 #[.slice A n ca] w fun e w' => PackedV w L e w' := by
  obtain ⟨i0, hi0, hz0, hz1, hz2⟩ := info_parts info_u8
  obtain ⟨N, hN⟩ : ∃ N, Hid ((Jl.packed L).length = N) := ⟨_, rfl⟩
  rw [hN.out] at hs
  have H : Hid (MatV w A n vs L) := h
  clear h
  have hown0 : w.ownsRow w.heap.size 5 1 (.slice none 0 0) 0 [] := World.ownsRow_nil _ _ _ _
  go_enter Try.func61, Try.ntmps61
  go_wp2
  go_loopw [4, 5] (fun v i wr => ∃ k : Nat, k ≤ n ∧ i = .int .i64 (k : Int) ∧ wr.ownsRow w.heap.size 5 1 v (Jl.packed (L.take k)).length (cellsL (Jl.packed (L.take k))) ∧ Hid (∀ x ∈ L.take k, x.length ≤ 65535) ∧ Bw w wr) (fun _ i _ => n - (intOf i).toNat)
  case atStart => exact ⟨0, Nat.zero_le _, rfl, (by rw [List.take_zero]; exact hown0), fun x hx => by simp at hx, Bw.refl _⟩
  case round =>
    obtain ⟨k, hk, rfl, hown, hsh, hbw⟩ := hrel
    have k0 : (0 : Int) ≤ (k : Int) := Int.natCast_nonneg _
    by_cases hlt : k < n
    · have k1 : (k : Int) < (n : Int) := by omega
      obtain ⟨r, b, off, A', c', hr, rfl, hcellw, hc1, hc2, hc3, hc4⟩ := H.out.row hlt
      have HCell : Hid (∀ u, Bw w u → u.cell? ⟨b, off + k, none⟩ = some (.slice A' r.length c')) := fun u ku => (ku.cell (p := ⟨b, off + k, none⟩) (block_lt_of_cell hcellw)).trans hcellw
      have hcell := HCell.out _ hbw
      clear hcellw
      by_cases h65 : r.length ≤ 65535
      · have hsh2 : Hid (∀ x ∈ L.take (k + 1), x.length ≤ 65535) := fun x hx => by
          rw [List.take_add_one, hr] at hx
          rcases List.mem_append.1 hx with hx | hx
          · exact hsh.out x hx
          · simp at hx; subst hx; exact h65
        have h2 := packed_take_le L (k + 1)
        have e2 := packed_take hr
        obtain ⟨P, hP⟩ : ∃ P, Hid (Jl.packed (L.take k) = P) := ⟨_, rfl⟩
        rw [hP.out] at hown e2
        rw [e2, List.length_append, List.length_cons, List.length_cons, hN.out] at h2
        have E2 : Hid (Jl.packed (L.take (k + 1)) = P ++ r.length / 256 :: r.length % 256 :: r) := e2
        obtain ⟨m, hm⟩ : ∃ m, Hid (r.length = m) := ⟨_, rfl⟩
        obtain ⟨p, hp⟩ : ∃ p, Hid (P.length = p) := ⟨_, rfl⟩
        rw [hm.out] at hcell h2 h65 hc1 hc3 hc4
        rw [hp.out] at hown h2
        have m1 : (m : Int) / 256 % 256 = (m : Int) / 256 := by omega
        have hR : Hid (RowAt w A' m (Jl.rowL r)) := hc4
        obtain ⟨x0, hx0⟩ : ∃ x : Nat, Hid (m / 256 = x) := ⟨_, rfl⟩
        obtain ⟨x1, hx1⟩ : ∃ x : Nat, Hid (m % 256 = x) := ⟨_, rfl⟩
        have e0 : (m : Int) / 256 = (x0 : Int) := by have := hx0.out; omega
        have e1 : (m : Int) % 256 = (x1 : Int) := by have := hx1.out; omega
        have e0' : (x0 : Int) % 256 = (x0 : Int) := by have := hx0.out; omega
        have hx2 : RowAt (wr.alloc (.cells #[.int .u8 (x0 : Int), .int .u8 (x1 : Int)] 5)) (some ⟨wr.heap.size, 0, none⟩) 2 (Jl.rowL [x0, x1]) := row_new wr _ _ 2 _ (Jl.rowL_bd (fun y hy => by
          have := hx0.out; have := hx1.out
          simp only [List.mem_cons, List.not_mem_nil, or_false] at hy
          rcases hy with rfl | rfl <;> omega)) (fun i hi => by
            rcases i with _ | _ | i
            · rfl
            · rfl
            · omega)
        have p1 : p + 2 ≤ maxLen := by unfold maxLen; omega
        have p2 : p + 2 + m ≤ maxLen := by unfold maxLen; omega
        have hfin : Hid (∀ v2 w2, w2.ownsRow w.heap.size 5 1 v2 (p + 2 + m) ((cellsL P ++ cellsU (Jl.rowL [x0, x1]) 2) ++ cellsU (Jl.rowL r) m) → Bw w w2 → (∃ k' : Nat, k' ≤ n ∧ Value.int .i64 ((k : Int) + 1) = .int .i64 (k' : Int) ∧ w2.ownsRow w.heap.size 5 1 v2 (Jl.packed (L.take k')).length (cellsL (Jl.packed (L.take k'))) ∧ Hid (∀ x ∈ L.take k', x.length ≤ 65535) ∧ Bw w w2) ∧ n - (intOf (.int .i64 ((k : Int) + 1))).toNat < n - (intOf (.int .i64 (k : Int))).toNat) := fun v2 w2 ho hb => by
          refine ⟨⟨k + 1, hlt, rfl, ?_, hsh2, hb⟩, by simp only [intOf]; omega⟩
          rw [E2.out, List.length_append, List.length_cons, List.length_cons, hp.out, hm.out, show p + (m + 1 + 1) = p + 2 + m by omega]
          have h1 : cellsU (Jl.rowL [x0, x1]) 2 = cellsL [x0, x1] := cellsL_of [x0, x1]
          have h2 : cellsU (Jl.rowL r) m = cellsL r := by rw [← hm.out]; exact cellsL_of r
          rw [h1, h2] at ho
          rw [hx0.out, hx1.out]
          unfold cellsL at *
          simpa using ho
        clear e2 hr hown0 hc4 m1
        have h65' : ¬ (65535 : Int) < (m : Int) := by omega
        rw [hm.out] at HCell
        go_wp2_with (first
          | (at_builtin; refine wpList_append_rowat _ (by rfl) (.tmp 20) (.tmp 26) _ (by rfl) w.heap.size 5 i0 _ 1 Try.underlying37 hi0 hz0 hz1 hz2 rfl _ _ _ (by rfl) (hown.alloc _) (some ⟨wr.heap.size, 0, none⟩) 2 2 (Jl.rowL [x0, x1]) (by rfl) hx2 (fun e => by cases e) p1 (by omega) (Nat.le_trans hbw.size (by rw [size_alloc]; omega)) ?_; intro v2 w2 hown2 hgrow2; have hbw2 : Bw w w2 := bw_grow hgrow2 (Below.alloc hbw hbw.size _) (Nat.le_trans hbw.size (by rw [size_alloc]; omega)) (hown.alloc _); clear hx2 hown hgrow2; have hcell2 := HCell.out _ hbw2)
          | (at_builtin; refine wpList_append_rowat _ (by rfl) (.tmp 28) (.tmp 32) _ (by rfl) w.heap.size 5 i0 _ 1 Try.underlying37 hi0 hz0 hz1 hz2 rfl _ _ _ (by rfl) hown2 A' m c' (Jl.rowL r) (by rfl) (hR.out.keep hbw2) hc2 p2 (by omega) hbw2.size ?_; intro v3 w3 hown3 hgrow3; have hbw3 : Bw w w3 := bw_grow hgrow3 hbw2 hbw2.size hown2; have hf3 := hfin.out v3 w3 hown3 hbw3; replace hf3 := (show Hid _ from hf3)))
        exact hf3.out

      · have hl : Hid (PackedV w L (.returned (.tuple #[.slice none 0 0, .bool false])) wr) := ⟨hbw, .inl ⟨(long_iff L).2 ⟨r, List.mem_of_getElem? hr, by omega⟩, rfl⟩⟩
        obtain ⟨m, hm⟩ : ∃ m, Hid (r.length = m) := ⟨_, rfl⟩
        rw [hm.out] at hcell h65 hc3
        have h65' : (65535 : Int) < (m : Int) := by omega
        clear hown hsh hr hc4 hown0
        go_wp2
        go_ret2
        exact hl.out
    · have hkn : k = n := by omega
      have e : L.take k = L := List.take_of_length_le (by rw [H.out.lenL, hkn]; exact Nat.le_refl _)
      rw [e] at hown hsh
      have hnl : Hid (Jl.long L = false) := by
        refine (?_ : _ = _)
        cases hq : Jl.long L
        · rfl
        · obtain ⟨r, hr, h1⟩ := (long_iff L).1 hq
          have := hsh.out r hr
          omega
      have k1 : ¬ (k : Int) < (n : Int) := by omega
      have hown2 : Hid (PackedV w L (.returned (.tuple #[u4, .bool true])) wr) := ⟨hbw, .inr ⟨hnl.out, _, rfl, hown⟩⟩
      clear e hown hsh hown0
      go_wp2
      go_ret2
      exact hown2.out
end Go.Proofs.Ytppknadflmjefaa
namespace Go.Proofs.Ytppknadflmjefaa
open Go.RowKit Go.Deep Go.Maps
set_option linter.unusedVariables false
set_option linter.unusedSimpArgs false

theorem rj_ne {w : World} {base gj g g' cb cap : Nat} {R : Nat → Prop} {v : Value} {J : Jl.Jn} {LV WV : Nat → Value} {S : Dsk} (h : RjAt w base gj g' R v J) (k : RefAt w g cb cap LV WV S) : ∀ b, jIn gj v b → ¬ rIn g cb b := fun b hb hd => by
  have hty : ∃ cur t, w.heap[b]? = some (.cells cur t (0, 0)) ∧ (t = 66 ∨ t = 68) := by
    rcases hd with rfl | rfl
    · exact ⟨_, _, k.top, .inl rfl⟩
    · obtain ⟨cur, h1⟩ := k.blk
      exact ⟨_, _, h1, .inr rfl⟩
  obtain ⟨cur, t, h1, ht⟩ := hty
  rcases hb with rfl | hb
  · rw [h.cells] at h1
    simp only [Option.some.injEq, Obj.cells.injEq] at h1
    rcases ht with rfl | rfl <;> exact absurd h1.2.1 (by decide)
  · obtain ⟨vs, k1, _⟩ := h.recs
    rcases k1.2 with ⟨rfl, _⟩ | ⟨g2, cap2, cur2, rfl, _, hg, _⟩
    · cases hb
    · cases hb
      rw [hg] at h1
      simp only [Option.some.injEq, Obj.cells.injEq] at h1
      rcases ht with rfl | rfl <;> exact absurd h1.2.1 (by decide)
theorem RjAt.nou {w : World} {base gj g : Nat} {R : Nat → Prop} {v : Value} {J : Jl.Jn} (h : RjAt w base gj g R v J) : NoU w (jIn gj v) := fun b hb cur fr e => by
  rcases hb with rfl | hb
  · rw [h.cells] at e
    simp only [Option.some.injEq, Obj.cells.injEq] at e
    exact absurd e.2.1 (by decide)
  · obtain ⟨vs, k1, _⟩ := h.recs
    rcases k1.2 with ⟨rfl, _⟩ | ⟨g2, cap2, cur2, rfl, _, hg, _⟩
    · cases hb
    · cases hb
      rw [hg] at e
      simp only [Option.some.injEq, Obj.cells.injEq] at e
      exact absurd e.2.1 (by decide)
theorem RjAt.keepr {w w' : World} {base gj g g' cb cap : Nat} {R : Nat → Prop} {v : Value} {J : Jl.Jn} {LV WV : Nat → Value} {S : Dsk} (h : RjAt w base gj g' R v J) (k : RefAt w g cb cap LV WV S) (hR : ∀ b, R b → ¬ rIn g cb b) (x : Bx (rIn g cb) w w') : RjAt w' base gj g' R v J :=
  h.keepx x (rj_ne h k _ (.inl rfl)) (fun b hb => rj_ne h k b (.inr hb)) hR
theorem RefAt.keepj {w w' : World} {base gj g g' cb cap : Nat} {R : Nat → Prop} {v : Value} {J : Jl.Jn} {LV WV : Nat → Value} {S : Dsk} {P : Nat → Prop} (k : RefAt w g cb cap LV WV S) (h : RjAt w base gj g' R v J) (hP : ∀ b, P b → jIn gj v b) (x : Bx P w w') : RefAt w' g cb cap LV WV S :=
  k.keepn (x.more hP) h.nou (fun e => rj_ne h k _ e (.inl rfl)) (fun e => rj_ne h k _ e (.inr rfl))
theorem rown_ne {w : World} {base gj g : Nat} {R : Nat → Prop} {v : Value} {J : Jl.Jn} (h : RjAt w base gj g R v J) : ∀ b, v.ownBlock = some b → b ≠ gj := fun b hb e => by
  obtain ⟨vs, k1, _⟩ := h.recs
  rcases k1.2 with ⟨rfl, _⟩ | ⟨g2, cap2, cur2, rfl, _, hg, _⟩
  · cases hb
  · cases hb
    have h1 := h.cells
    rw [← e, hg] at h1
    simp only [Option.some.injEq, Obj.cells.injEq] at h1
    exact absurd h1.2.1 (by decide)
/-- its numbers are set -/
theorem RjAt.setJ {w w' : World} {base gj g : Nat} {R : Nat → Prop} {v : Value} {J J' : Jl.Jn} (h : RjAt w base gj g R v J) (k : Bx (· = gj) w w') (hc : w'.heap[gj]? = some (.cells (jcells g v J') 92 (0, 0))) (hL : J'.L = J.L) (hok : J'.Ok) : RjAt w' base gj g R v J' := by
  obtain ⟨vs, k1, k2, k3, k4⟩ := h.recs
  rw [← hL] at k1 k2
  exact ⟨hc, ⟨vs, own_keepx15 k1 k (fun b hb e => rown_ne h b hb e), k2.keepx k (k4.mono (fun b hb e => hb (.inl e))), k3, k4⟩, h.ge, hok⟩
theorem RjAt.setDead {w : World} {base gj g : Nat} {R : Nat → Prop} {v : Value} {J : Jl.Jn} (h : RjAt w base gj g R v J) (d : Bool) : RjAt (w.setCell ⟨gj, 7, none⟩ (.bool d)) base gj g R v { J with dead := d } :=
  h.setJ ((Bx.refl _ w).put rfl) (heap_setCell_same w gj 7 _ _ _ h.cells) rfl ⟨h.ok.rc4, h.ok.rc, h.ok.r0, h.ok.fit, h.ok.few⟩
/-- how write ends -/
def RPutV (base gj g cb cap : Nat) (R : Nat → Prop) (v : Value) (P : Int × Dsk × Jl.Jn) (w : World) (e : Ending) (w' : World) : Prop := e = .returned (.int .i64 P.1) ∧ (∃ LV WV, RefAt w' g cb cap LV WV P.2.1) ∧ RjAt w' base gj g R v P.2.2 ∧ Bx (fun b => rIn g cb b ∨ b = gj) w w'
/-- what stands while write goes on -/
structure WrAt (w0 : World) (base gj g cb cap : Nat) (R : Nat → Prop) (v : Value) (J : Jl.Jn) (A : Option Addr) (B : List Nat) (S : Dsk) (w : World) : Prop where
  d : ∃ LV WV, RefAt w g cb cap LV WV S
  j : RjAt w base gj g R v { J with dead := true }
  b : RowAt w A B.length (Jl.rowL B)
  bx : Bx (fun b => rIn g cb b ∨ b = gj) w0 w
namespace WrAt
variable {w0 w w' : World} {base gj g cb cap : Nat} {R : Nat → Prop} {v : Value} {J : Jl.Jn} {A : Option Addr} {B : List Nat} {S S' : Dsk}
theorem keep (h : WrAt w0 base gj g cb cap R v J A B S w) (k : Bw w w') : WrAt w0 base gj g cb cap R v J A B S w' := by
  obtain ⟨LV, WV, hd⟩ := h.d
  exact ⟨⟨LV, WV, hd.keep k⟩, h.j.keep k, h.b.keep k, h.bx.trans (Bx.of_bw k)⟩
theorem turn (h : WrAt w0 base gj g cb cap R v J A B S w) (hR : ∀ b, R b → ¬ rIn g cb b) (hA : ∀ b o, A = some ⟨b, o, none⟩ → 0 < B.length → ¬ (rIn g cb b ∨ b = gj)) (hd : ∃ LV WV, RefAt w' g cb cap LV WV S') (k : Bx (rIn g cb) w w') : WrAt w0 base gj g cb cap R v J A B S' w' := by
  obtain ⟨LV, WV, hd0⟩ := h.d
  exact ⟨hd, h.j.keepr hd0 hR k, h.b.keepx k (fun b o e h0 hb => hA b o e h0 (.inl hb)), h.bx.trans (k.more (fun b e => .inl e))⟩
end WrAt
end Go.Proofs.Ytppknadflmjefaa
