/- Layer 16: two runs held against each other. -/
import Derived.Test.YtfdfkhmaeeonpaaRc
import Derived.Deep.CutRange
import Derived.Deep.LoopGhost
namespace Go.Proofs.Ytfdfkhmaeeonpaa
open Go.RowKit Go.Deep
set_option linter.unusedVariables false
set_option linter.unusedSimpArgs false

theorem heap3_16 (w : World) (A B C : Obj) : (((w.alloc A).alloc B).alloc C).heap[w.heap.size + 1 + 1]? = some C := by
  have := (Go.MapKept.heap_alloc ((w.alloc A).alloc B) C).1
  rwa [size_alloc, size_alloc] at this
theorem sizeR {x y : Value} : (Try.prog.info? 48).map (·.size) = some (#[x, y] : Array Value).size := by
  obtain ⟨i, hi, _, hs, _⟩ := info_parts infoR; rw [hi]; simp [hs]
/-- two boxes of runs -/
structure Box2 (W : World) (p q : Nat) (r o : Sp.Rn) : Prop where
  a0 : W.cell? ⟨p, 0, none⟩ = some (.int .i64 (r.1 : Int))
  a1 : W.cell? ⟨p, 1, none⟩ = some (.int .i64 (r.2 : Int))
  b0 : W.cell? ⟨q, 0, none⟩ = some (.int .i64 (o.1 : Int))
  b1 : W.cell? ⟨q, 1, none⟩ = some (.int .i64 (o.2 : Int))
theorem Box2.keep {W W' : World} {p q : Nat} {r o : Sp.Rn} (h : Box2 W p q r o) (k : Bw W W') : Box2 W' p q r o := ⟨keep_cell16 h.a0 k, keep_cell16 h.a1 k, keep_cell16 h.b0 k, keep_cell16 h.b1 k⟩
theorem box2_new (w : World) (r o : Sp.Rn) (t u : Nat) : Box2 ((w.alloc (.cells #[.int .i64 (r.1 : Int), .int .i64 (r.2 : Int)] t)).alloc (.cells #[.int .i64 (o.1 : Int), .int .i64 (o.2 : Int)] u)) w.heap.size (w.heap.size + 1) r o := by
  have h1 := cells2_new w (.int .i64 (r.1 : Int)) (.int .i64 (r.2 : Int)) t
  have h2 := cells2_new (w.alloc (.cells #[.int .i64 (r.1 : Int), .int .i64 (r.2 : Int)] t)) (.int .i64 (o.1 : Int)) (.int .i64 (o.2 : Int)) u
  have k : Bw (w.alloc (.cells #[.int .i64 (r.1 : Int), .int .i64 (r.2 : Int)] t)) ((w.alloc (.cells #[.int .i64 (r.1 : Int), .int .i64 (r.2 : Int)] t)).alloc (.cells #[.int .i64 (o.1 : Int), .int .i64 (o.2 : Int)] u)) := bw_alloc16 (Bw.refl _) _
  rw [size_alloc] at h2
  exact ⟨keep_cell16 h1.1 k, keep_cell16 h1.2 k, h2.1, h2.2⟩
set_option maxRecDepth 100000 in
set_option maxHeartbeats 1000000 in
theorem reached_any (r o : Sp.Rn) (ho : o.1 + o.2 ≤ 1099511627776) (w : World) :
    Calls Try.prog 40 #[rv r, rv o] w fun e w' => e = .returned (.bool (decide (r.1 ≤ o.1 + o.2))) ∧ Bw w w' := by
  have HE : Hid (∀ u, Calls Try.prog 37 #[rv o] u fun e w' => e = .returned (.int .i64 ((o.1 + o.2 : Nat) : Int)) ∧ Bw u w') := fun u => end_any o ho u
  obtain ⟨W, hW⟩ : ∃ W, W = (w.alloc (.cells #[.int .i64 (r.1 : Int), .int .i64 (r.2 : Int)] 48)).alloc (.cells #[.int .i64 (o.1 : Int), .int .i64 (o.2 : Int)] 48) := ⟨_, rfl⟩
  have kW : Bw w W := by rw [hW]; exact bw_alloc16 (bw_alloc16 (Bw.refl _) _) _
  have hB : Box2 W w.heap.size (w.heap.size + 1) r o := by rw [hW]; exact box2_new w r o _ _
  have HB : Hid (Box2 W w.heap.size (w.heap.size + 1) r o) := hB
  obtain ⟨x0, x1, y0, y1⟩ := hB
  obtain ⟨q, hq⟩ : ∃ q, Hid (o.1 + o.2 = q) := ⟨_, rfl⟩
  rw [hq.out] at HE ⊢
  go_enter Try.func40, Try.ntmps40
  go_upto_region 1 with fail
  rw [← hW]
  clear hW
  go_region_with (go_at_call 37; refine (HE.out _).mono ?_; rintro e w1 ⟨rfl, hb1⟩; have z0 := (HB.out.keep ((Bw.refl _).drew.trans hb1)).a0)
  all_goals go_wp2
  all_goals go_ret
  all_goals exact ⟨rfl, kW.trans ((Bw.refl _).drew.trans hb1)⟩
set_option maxRecDepth 100000 in
set_option maxHeartbeats 1000000 in
theorem ahead_any (r o : Sp.Rn) (hr : r.1 + r.2 ≤ 1099511627776) (w : World) :
    Calls Try.prog 41 #[rv r, rv o] w fun e w' => e = .returned (.bool (decide (r.1 + r.2 < o.1))) ∧ Bw w w' := by
  have HE : Hid (∀ u, Calls Try.prog 37 #[rv r] u fun e w' => e = .returned (.int .i64 ((r.1 + r.2 : Nat) : Int)) ∧ Bw u w') := fun u => end_any r hr u
  obtain ⟨W, hW⟩ : ∃ W, W = (w.alloc (.cells #[.int .i64 (r.1 : Int), .int .i64 (r.2 : Int)] 48)).alloc (.cells #[.int .i64 (o.1 : Int), .int .i64 (o.2 : Int)] 48) := ⟨_, rfl⟩
  have kW : Bw w W := by rw [hW]; exact bw_alloc16 (bw_alloc16 (Bw.refl _) _) _
  have hB : Box2 W w.heap.size (w.heap.size + 1) r o := by rw [hW]; exact box2_new w r o _ _
  have HB : Hid (Box2 W w.heap.size (w.heap.size + 1) r o) := hB
  obtain ⟨x0, x1, y0, y1⟩ := hB
  obtain ⟨q, hq⟩ : ∃ q, Hid (r.1 + r.2 = q) := ⟨_, rfl⟩
  rw [hq.out] at HE ⊢
  go_enter Try.func41, Try.ntmps41
  go_upto_region 1 with fail
  rw [← hW]
  clear hW
  go_region_with (go_at_call 37; refine (HE.out _).mono ?_; rintro e w1 ⟨rfl, hb1⟩; have z0 := (HB.out.keep ((Bw.refl _).drew.trans hb1)).b0)
  all_goals go_wp2
  all_goals go_ret
  all_goals exact ⟨rfl, kW.trans ((Bw.refl _).drew.trans hb1)⟩
/-- do two runs meet, as the program asks it -/
def Sp.meetB (r o : Sp.Rn) : Bool := decide (o.1 ≤ r.1 ∧ r.1 < o.1 + o.2) || decide (r.1 ≤ o.1 ∧ o.1 < r.1 + r.2)
set_option maxRecDepth 100000 in
set_option maxHeartbeats 1000000 in
theorem meets_any (r o : Sp.Rn) (hr : r.1 + r.2 ≤ 1099511627776) (ho : o.1 + o.2 ≤ 1099511627776) (w : World) :
    Calls Try.prog 33 #[rv r, rv o] w fun e w' => e = .returned (.bool (Sp.meetB r o)) ∧ Bw w w' := by
  have H1 : Hid (∀ u, Calls Try.prog 43 #[rv o, .int .i64 (r.1 : Int)] u fun e w' => e = .returned (.bool (decide (o.1 ≤ r.1 ∧ r.1 < o.1 + o.2))) ∧ Bw u w') := fun u => has_any o ho r.1 u
  have H2 : Hid (∀ u, Calls Try.prog 43 #[rv r, .int .i64 (o.1 : Int)] u fun e w' => e = .returned (.bool (decide (r.1 ≤ o.1 ∧ o.1 < r.1 + r.2))) ∧ Bw u w') := fun u => has_any r hr o.1 u
  unfold Sp.meetB
  obtain ⟨d1, hd1⟩ : ∃ d, Hid (decide (o.1 ≤ r.1 ∧ r.1 < o.1 + o.2) = d) := ⟨_, rfl⟩
  obtain ⟨d2, hd2⟩ : ∃ d, Hid (decide (r.1 ≤ o.1 ∧ o.1 < r.1 + r.2) = d) := ⟨_, rfl⟩
  rw [hd1.out] at H1 ⊢
  rw [hd2.out] at H2 ⊢
  obtain ⟨W, hW⟩ : ∃ W, W = (w.alloc (.cells #[.int .i64 (r.1 : Int), .int .i64 (r.2 : Int)] 48)).alloc (.cells #[.int .i64 (o.1 : Int), .int .i64 (o.2 : Int)] 48) := ⟨_, rfl⟩
  have kW : Bw w W := by rw [hW]; exact bw_alloc16 (bw_alloc16 (Bw.refl _) _) _
  have hB : Box2 W w.heap.size (w.heap.size + 1) r o := by rw [hW]; exact box2_new w r o _ _
  have HB : Hid (Box2 W w.heap.size (w.heap.size + 1) r o) := hB
  obtain ⟨x0, x1, y0, y1⟩ := hB
  have tok1 : Hid (w = w) := rfl
  cases d1 with
  | true =>
    go_enter Try.func33, Try.ntmps33
    go_upto_region 1 with fail
    rw [← hW]
    clear hW
    go_wp2_with (go_at_call 43; refine (H1.out _).mono ?_; rintro e w1 ⟨rfl, hb1⟩)
    go_ret
    exact ⟨rfl, kW.trans hb1⟩
  | false =>
    go_enter Try.func33, Try.ntmps33
    go_upto_region 1 with fail
    rw [← hW]
    clear hW
    go_wp2_with (first
      | (go_at_call 43; clear tok1; refine (H1.out _).mono ?_; rintro e w1 ⟨rfl, hb1⟩; obtain ⟨z0, z1, u0, u1⟩ := HB.out.keep hb1; have tok2 : Hid (w = w) := rfl)
      | (go_at_call 43; clear tok2; refine (H2.out _).mono ?_; rintro e w2 ⟨rfl, hb2⟩))
    go_ret
    exact ⟨rfl, (kW.trans hb1).trans hb2⟩
set_option maxRecDepth 100000 in
set_option maxHeartbeats 1000000 in
theorem with_any (r o : Sp.Rn) (hr : r.2 + o.2 ≤ 1099511627776) (w : World) :
    Calls Try.prog 44 #[rv r, rv o] w fun e w' => e = .returned (rv (min r.1 o.1, r.2 + o.2)) ∧ Bw w w' := by
  obtain ⟨a, c⟩ := r
  obtain ⟨b, d⟩ := o
  dsimp only at hr ⊢
  have e1 : ((min a b : Nat) : Int) = min (a : Int) (b : Int) := by omega
  show Calls _ _ _ _ fun e w' => e = .returned (.agg #[.int .i64 ((min a b : Nat) : Int), .int .i64 ((c + d : Nat) : Int)]) ∧ _
  rw [e1, Int.natCast_add]
  have h0 : (0 : Int) ≤ (c : Int) + (d : Int) := by omega
  have h1 : (c : Int) + (d : Int) ≤ 1099511627776 := by omega
  by_cases hm : (a : Int) ≤ (b : Int)
  · rw [Int.min_eq_left hm]
    go_enter Try.func44, Try.ntmps44
    go_wp2
    refine bodyPost_ret (results_cell_row rfl _ _ (w.heap.size + 1 + 1) _ #[.int .i64 (a : Int), .int .i64 ((c : Int) + (d : Int))] _ _ (by rfl) (heap3_16 _ _ _ _) Try.underlying48 rfl sizeR) rfl ?_
    exact ⟨rfl, bw_alloc16 (bw_alloc16 (bw_alloc16 (Bw.refl _) _) _) _⟩
  · rw [Int.min_eq_right (by omega)]
    have hm' : (b : Int) ≤ (a : Int) := by omega
    have hm2 : ¬ (a : Int) ≤ (b : Int) := hm
    go_enter Try.func44, Try.ntmps44
    go_wp2
    refine bodyPost_ret (results_cell_row rfl _ _ (w.heap.size + 1 + 1) _ #[.int .i64 (b : Int), .int .i64 ((c : Int) + (d : Int))] _ _ (by rfl) (heap3_16 _ _ _ _) Try.underlying48 rfl sizeR) rfl ?_
    exact ⟨rfl, bw_alloc16 (bw_alloc16 (bw_alloc16 (Bw.refl _) _) _) _⟩
end Go.Proofs.Ytfdfkhmaeeonpaa
