/- Contract of the closure in the program's reduce: one turn of the reckoning. -/
import Derived.Test.YtpgjkhlffcomgaaP3
import Derived.Test.YtpgjkhlffcomgaaM14
import Derived.BigRegion
import Derived.WalkMore
namespace Go.Proofs.Ytpgjkhlffcomgaa
open Go.RowKit

/-- rows changed about, one of them multiplied: the document's own way to say it -/
theorem swap_scaled {Z : Nat → Nat → Int} {r q j : Nat} (hZ : ∀ r c, 0 ≤ Z r c ∧ Z r c < 256) :
    upd (upd (upd Z r (Z q)) q (Z r)) r (fun l => mulI (invR (upd (upd Z r (Z q)) q (Z r) r j)) (upd (upd Z r (Z q)) q (Z r) r l)) = swapZ Z r q j := by
  have e : upd (upd Z r (Z q)) q (Z r) r = Z q := by
    by_cases h : r = q
    · subst h; rw [upd_at]
    · rw [upd_ne _ _ h, upd_at]
  rw [e]
  funext k l
  unfold swapZ
  by_cases hk : k = r
  · subst hk; rw [upd_at, upd_at, mul_comm _ _ (invR_bd _).2 (hZ q l).2]
  · rw [upd_ne _ _ hk, upd_ne _ _ hk]
    by_cases hq : k = q
    · subst hq; rw [upd_at, upd_at]
    · rw [upd_ne _ _ hq, upd_ne _ _ hq, upd_ne _ _ hk]

theorem cut_sep {a b m : Nat} (h : a ≠ b) : a * m + m ≤ b * m ∨ b * m + m ≤ a * m := by
  rcases Nat.lt_or_gt_of_ne h with h | h
  · have := Nat.mul_le_mul_right m (show a + 1 ≤ b from h)
    rw [Nat.succ_mul] at this; omega
  · have := Nat.mul_le_mul_right m (show b + 1 ≤ a from h)
    rw [Nat.succ_mul] at this; omega

theorem doneZ_bd {Z : Nat → Nat → Int} {r j i : Nat} (hZ : ∀ r c, 0 ≤ Z r c ∧ Z r c < 256) (k l : Nat) : 0 ≤ doneZ Z r j i k l ∧ doneZ Z r j i k l < 256 := by
  unfold doneZ; split
  · exact addI_bd _ _ (hZ k l).2 (mulI_bd _ _ (hZ k j).2).2
  · exact hZ k l

theorem swapZ_bd {Z : Nat → Nat → Int} {r q j : Nat} (hZ : ∀ r c, 0 ≤ Z r c ∧ Z r c < 256) (k l : Nat) : 0 ≤ swapZ Z r q j k l ∧ swapZ Z r q j k l < 256 := by
  unfold swapZ upd
  split
  · exact mulI_bd _ _ (hZ q l).2
  · split
    · exact hZ r l
    · exact hZ k l

set_option maxRecDepth 100000 in
set_option maxHeartbeats 1000000 in
theorem settle_any (g h n m r q j bw br : Nat) (P : Nat → Nat) (Z : Nat → Nat → Int) (w : World) (d : Grid w g h n m P Z) (hw : w.heap[bw]? = some (.cells #[.slice (some ⟨h, 0, none⟩) n n] 30 (0, 0)))
    (hr : w.heap[br]? = some (.cells #[.int .i64 (r : Int)] 3 (0, 0))) (n1 : bw ≠ g) (n2 : bw ≠ h) (n3 : br ≠ g) (n4 : br ≠ h) (n5 : bw ≠ br) (hrn : r < n) (hqn : q < n) (hj : j < m) (hn : n ≤ 131072) (hm : m ≤ 1048576) :
    Calls Try.prog 42 #[.int .i64 (q : Int), .int .i64 (j : Int), .pointer (some ⟨bw, 0, none⟩), .pointer (some ⟨br, 0, none⟩)] w fun e w' => e = .returned (.tuple #[]) ∧
      (∃ P', Grid w' g h n m P' (doneZ (swapZ Z r q j) r j n)) ∧ w'.heap[br]? = some (.cells #[.int .i64 ((r : Int) + 1)] 3 (0, 0)) ∧ Bx (fun b => b = g ∨ b = h ∨ b = br) w w' := by
  have cw := cell_of_one hw
  have cr := cell_of_one hr
  obtain ⟨c1, f1⟩ := d.head hrn
  obtain ⟨c2, f2⟩ := d.head hqn
  have d1 := d.swap hrn hqn
  have i1 : (0 : Int) ≤ (r : Int) := Int.natCast_nonneg _
  have i2 : (r : Int) < (n : Int) := by omega
  have i3 : (0 : Int) ≤ (q : Int) := Int.natCast_nonneg _
  have i4 : (q : Int) < (n : Int) := by omega
  obtain ⟨v3, c3⟩ : ∃ v, (w.setCell ⟨h, r, none⟩ (.slice (some ⟨g, P q * m, none⟩) m m)).cell? ⟨h, q, none⟩ = some v := by
    by_cases e : r = q
    · subst e; exact ⟨_, World.cell?_setCell_same' _ _ _ (by rw [c1]; rfl)⟩
    · exact ⟨_, (cell_other' (fun e' => by simp only [Addr.mk.injEq] at e'; omega)).trans c2⟩
  have hx1 : Bx (fun b => b = g ∨ b = h ∨ b = br) w ((w.setCell ⟨h, r, none⟩ (.slice (some ⟨g, P q * m, none⟩) m m)).setCell ⟨h, q, none⟩ (.slice (some ⟨g, P r * m, none⟩) m m)).drew := (Bx.put (Bx.put (Bx.refl _ w) (Or.inr (Or.inl rfl))) (Or.inr (Or.inl rfl))).drew
  have lw : bw < w.heap.size := (Array.getElem?_eq_some_iff.1 hw).1
  have lr : br < w.heap.size := (Array.getElem?_eq_some_iff.1 hr).1
  have hxh : Bx (· = h) w ((w.setCell ⟨h, r, none⟩ (.slice (some ⟨g, P q * m, none⟩) m m)).setCell ⟨h, q, none⟩ (.slice (some ⟨g, P r * m, none⟩) m m)).drew := (Bx.put (Bx.put (Bx.refl (· = h) w) rfl) rfl).drew
  have hw1 := (hxh.block bw lw n2).trans hw
  have hr1 := (hxh.block br lr n4).trans hr
  have dd : Grid ((w.setCell ⟨h, r, none⟩ (.slice (some ⟨g, P q * m, none⟩) m m)).setCell ⟨h, q, none⟩ (.slice (some ⟨g, P r * m, none⟩) m m)).drew g h n m (upd (upd P r (P q)) q (P r)) (upd (upd Z r (Z q)) q (Z r)) := ⟨d1.heads, d1.cells, d1.lt, d1.inj, d1.ne, d1.bd⟩
  have hsw := swap_scaled (r := r) (q := q) (j := j) d.bd
  go_enter Try.func42, Try.ntmps42
  go_wp2
  rename_i K hK
  have hrest : K { tmps := #[.int .i64 (q : Int), .int .i64 (j : Int), .pointer (some ⟨bw, 0, none⟩), .pointer (some ⟨br, 0, none⟩), undef, undef, undef, undef, undef, Value.slice (some ⟨h, 0, none⟩) n n, .int .i64 (r : Int), Value.slice (some ⟨h, 0, none⟩) n n, .int .i64 (q : Int), Value.slice (some ⟨h, 0, none⟩) n n, .int .i64 (q : Int), .pointer (some ⟨h, q, none⟩), .slice (some ⟨g, P q * m, none⟩) m m, Value.slice (some ⟨h, 0, none⟩) n n, .int .i64 (r : Int), .pointer (some ⟨h, r, none⟩), .slice (some ⟨g, P r * m, none⟩) m m, .pointer (some ⟨h, r, none⟩), .pointer (some ⟨h, q, none⟩), undef, undef, undef, undef, undef, undef, undef, undef, undef, undef, undef, undef, undef, undef, undef, undef, undef, undef, undef, undef, undef, undef, undef, undef, undef, undef, undef, undef, undef, undef], defers := [] } ((w.setCell ⟨h, r, none⟩ (.slice (some ⟨g, P q * m, none⟩) m m)).setCell ⟨h, q, none⟩ (.slice (some ⟨g, P r * m, none⟩) m m)).drew := by
    refine hK _ _ ?_
    clear hK
    generalize ((w.setCell ⟨h, r, none⟩ (.slice (some ⟨g, P q * m, none⟩) m m)).setCell ⟨h, q, none⟩ (.slice (some ⟨g, P r * m, none⟩) m m)).drew = W1 at *
    generalize upd (upd P r (P q)) q (P r) = P1 at *
    generalize upd (upd Z r (Z q)) q (Z r) = Z1 at *
    clear c1 c2 c3 cw cr d1
    have cw := cell_of_one hw1
    have cr := cell_of_one hr1
    obtain ⟨c1, -⟩ := dd.head hrn
    obtain ⟨c2, -⟩ := dd.cell hrn hj
    have z1 := dd.bd r j
    have j0 : (0 : Int) ≤ (j : Int) := Int.natCast_nonneg _
    have j1 : (j : Int) < (m : Int) := by omega
    go_wp2_with (go_at_call 43; refine (scale_grid (by omega) (by omega) dd hrn hm).mono ?_; rintro e W2 ⟨rfl, d2, hx2⟩; have cw2 := cell_of_one ((hx2.block bw (Nat.lt_of_lt_of_le lw hx1.size) n1).trans hw1))
    rw [hsw] at d2
    generalize hZ2 : swapZ Z r q j = Z2 at *
    have hx2' : Bx (fun b => b = g ∨ b = h ∨ b = br) w W2 := hx1.trans (hx2.more (fun b e => Or.inl e))
    have hw2 := (hx2.block bw (Nat.lt_of_lt_of_le lw hx1.size) n1).trans hw1
    have hr2 := (hx2.block br (Nat.lt_of_lt_of_le lr hx1.size) n3).trans hr1
    have hd0 : Grid W2 g h n m P1 (doneZ Z2 r j 0) := by rw [doneZ_zero]; exact d2
    clear c1 c2 cw cr cw2 hx1 hx2 hxh hw1 hr1 dd hsw z1 d
    go_loopw [35] (fun i wr => ∃ k : Nat, k ≤ n ∧ i = .int .i64 k ∧ Grid wr g h n m P1 (doneZ Z2 r j k) ∧ wr.heap[bw]? = some (.cells #[.slice (some ⟨h, 0, none⟩) n n] 30 (0, 0)) ∧ wr.heap[br]? = some (.cells #[.int .i64 (r : Int)] 3 (0, 0)) ∧ Bx (fun b => b = g ∨ b = h ∨ b = br) w wr) (fun i _ => n - (intOf i).toNat)
    case atStart => exact ⟨0, Nat.zero_le _, rfl, hd0, hw2, hr2, hx2'⟩
    case round =>
      obtain ⟨k, hk, rfl, dk, hwk, hrk, hxk⟩ := hrel
      have cr := cell_of_one hrk
      have fr := free_of_one hrk
      by_cases hlt : k < n
      · obtain ⟨c1, -⟩ := dk.head hlt
        obtain ⟨c2, -⟩ := dk.cell hlt hj
        rw [doneZ_at] at c2
        have z2 := d2.bd k j
        have k0 : (0 : Int) ≤ (k : Int) := Int.natCast_nonneg _
        have k1 : (k : Int) < (n : Int) := by omega
        by_cases hkr : k = r
        · subst hkr
          have e1 : ((k : Int) != (k : Int)) = false := by simp
          go_wp2
          go_roundw
          case rel => exact ⟨k + 1, by omega, by go_num, by rw [doneZ_skip]; exact dk, hwk, hrk, hxk⟩
          case measure => simp [intOf]; omega
        · have e1 : ((k : Int) != (r : Int)) = true := by simp; omega
          have hrow := dk.row hrn
          rw [doneZ_piv] at hrow
          go_wp2_with (go_at_call 30; refine (add_grid (by omega) (by omega) dk hlt hm hrow (fun a ha => by cases ha; exact Or.inr (cut_sep (fun e => hkr (dk.inj k r hlt hrn e.symm))))).mono ?_; rintro e w3 ⟨rfl, d3, hx3⟩)
          go_roundw
          case rel =>
            have lk := hxk.size
            refine ⟨k + 1, by omega, by go_num, ?_, (hx3.block bw (Nat.lt_of_lt_of_le lw lk) n1).trans hwk, (hx3.block br (Nat.lt_of_lt_of_le lr lk) n3).trans hrk, hxk.trans (hx3.more (fun b e => Or.inl e))⟩
            rw [doneZ_next _ _ _ _ hkr]
            rw [doneZ_at] at d3
            exact d3
          case measure => simp [intOf]; omega
      · have ek : n = k := by omega
        subst ek
        go_wp2
        go_end0
        refine ⟨rfl, ⟨P1, hZ2 ▸ dk.keepx ((Bx.refl (· = br) wr).put rfl) (fun e => n3 e.symm) (fun e => n4 e.symm)⟩, ?_, Bx.put hxk (Or.inr (Or.inr rfl))⟩
        exact one_setCell hrk
  go_region
  exact hrest

end Go.Proofs.Ytpgjkhlffcomgaa
