/- Layer 15: the document's own journal in memory; Open. -/
import Derived.Test.YtppknadflmjefaaQb
namespace Go.Proofs.Ytppknadflmjefaa
open Go.RowKit Go.Deep Go.Maps
set_option linter.unusedVariables false
set_option linter.unusedSimpArgs false

/-- the document's journal in block gj over the disk in block g; its records at v, their bytes in blocks of R -/
structure RjAt (w : World) (base gj g : Nat) (R : Nat → Prop) (v : Value) (J : Jl.Jn) : Prop where
  cells : w.heap[gj]? = some (.cells (jcells g v J) 92 (0, 0))
  recs : ∃ vs, w.ownsRow base 37 1 v J.L.length vs ∧ RowsV w vs J.L ∧ RIn R vs ∧ RIn (fun b => ¬ jIn gj v b) vs
  ge : base ≤ gj
  ok : J.Ok
namespace RjAt
variable {w w' : World} {base gj g : Nat} {R : Nat → Prop} {v : Value} {J : Jl.Jn}
theorem lt (h : RjAt w base gj g R v J) : gj < w.heap.size := (Array.getElem?_eq_some_iff.1 h.cells).1
theorem keep (h : RjAt w base gj g R v J) (k : Bw w w') : RjAt w' base gj g R v J := by
  obtain ⟨vs, h1, h2, h3⟩ := h.recs
  exact ⟨(k.block gj h.lt).trans h.cells, ⟨vs, own_keep h1 k, h2.keep k, h3⟩, h.ge, h.ok⟩
theorem keepx {P : Nat → Prop} (h : RjAt w base gj g R v J) (k : Bx P w w') (h1 : ¬ P gj) (h2 : ∀ b, v.ownBlock = some b → ¬ P b) (h3 : ∀ b, R b → ¬ P b) : RjAt w' base gj g R v J := by
  obtain ⟨vs, k1, k2, k3⟩ := h.recs
  exact ⟨(k.block gj h.lt h1).trans h.cells, ⟨vs, own_keepx15 k1 k h2, k2.keepx k (k3.1.mono h3), k3⟩, h.ge, h.ok⟩
theorem more {R' : Nat → Prop} (h : RjAt w base gj g R v J) (k : ∀ b, R b → R' b) : RjAt w base gj g R' v J := by
  obtain ⟨vs, k1, k2, k3⟩ := h.recs
  exact ⟨h.cells, ⟨vs, k1, k2, k3.1.mono k, k3.2⟩, h.ge, h.ok⟩
theorem low (h : RjAt w base gj g R v J) : RjAt w base gj g (fun b => R b ∧ b < w.heap.size) v J := by
  obtain ⟨vs, k1, k2, k3⟩ := h.recs
  exact ⟨h.cells, ⟨vs, k1, k2, fun v hv b o n c e h0 => ⟨k3.1 v hv b o n c e h0, k2.low v hv b o n c e h0⟩, k3.2⟩, h.ge, h.ok⟩
theorem base_le {base' : Nat} (h : RjAt w base gj g R v J) (k : base' ≤ base) : RjAt w base' gj g R v J := by
  obtain ⟨vs, k1, k2, k3⟩ := h.recs
  exact ⟨h.cells, ⟨vs, own_low15 k1 k, k2, k3⟩, Nat.le_trans k h.ge, h.ok⟩
theorem jge (h : RjAt w base gj g R v J) : ∀ b, jIn gj v b → base ≤ b := fun b hb => by
  obtain ⟨vs, k1, _⟩ := h.recs
  rcases hb with rfl | hb
  · exact h.ge
  · exact own_ge k1 b hb
theorem jlow (h : RjAt w base gj g R v J) : ∀ b, jIn gj v b → b < w.heap.size := fun b hb => by
  obtain ⟨vs, k1, _⟩ := h.recs
  rcases hb with rfl | hb
  · exact h.lt
  · rcases k1.2 with ⟨rfl, _⟩ | ⟨g', cap, cur, rfl, _, hg, _⟩
    · cases hb
    · simp only [Value.ownBlock, Option.some.injEq] at hb
      subst hb
      exact (Array.getElem?_eq_some_iff.1 hg).1
theorem form (h : RjAt w base gj g R v J) : ∃ A c, v = .slice A J.L.length c := by
  obtain ⟨vs, k1, _⟩ := h.recs
  rcases k1.2 with ⟨rfl, h0⟩ | ⟨g', cap, cur, rfl, _⟩
  · exact ⟨none, 0, by rw [h0]⟩
  · exact ⟨_, _, rfl⟩
theorem c0 (h : RjAt w base gj g R v J) : w.cell? ⟨gj, 0, none⟩ = some (.pointer (some ⟨g, 0, none⟩)) := cell_of_row w gj 0 _ _ _ h.cells
theorem c1 (h : RjAt w base gj g R v J) : w.cell? ⟨gj, 1, none⟩ = some (.int .i64 (J.r0 : Int)) := cell_of_row w gj 1 _ _ _ h.cells
theorem c2 (h : RjAt w base gj g R v J) : w.cell? ⟨gj, 2, none⟩ = some (.int .i64 (J.rc : Int)) := cell_of_row w gj 2 _ _ _ h.cells
theorem c3 (h : RjAt w base gj g R v J) : w.cell? ⟨gj, 3, none⟩ = some (.int .u64 (J.h.n : Int)) := cell_of_row w gj 3 _ _ _ h.cells
theorem c4 (h : RjAt w base gj g R v J) : w.cell? ⟨gj, 4, none⟩ = some (.int .i64 (J.h.area : Int)) := cell_of_row w gj 4 _ _ _ h.cells
theorem c5 (h : RjAt w base gj g R v J) : w.cell? ⟨gj, 5, none⟩ = some (.int .i64 (J.h.len : Int)) := cell_of_row w gj 5 _ _ _ h.cells
theorem c6 (h : RjAt w base gj g R v J) : w.cell? ⟨gj, 6, none⟩ = some v := cell_of_row w gj 6 _ _ _ h.cells
theorem c7 (h : RjAt w base gj g R v J) : w.cell? ⟨gj, 7, none⟩ = some (.bool J.dead) := cell_of_row w gj 7 _ _ _ h.cells
theorem fz (h : RjAt w base gj g R v J) (k : Nat) : w.frozen? ⟨gj, k, none⟩ = false := frozen_of_row w gj k _ _ h.cells
end RjAt

theorem LstAt.rj {w : World} {base gj g : Nat} {v : Value} {J : Jl.Jn} (h : LstAt base w v J.L) (hc : w.heap[gj]? = some (.cells (jcells g v J) 92 (0, 0))) (hge : base ≤ gj) (hok : J.Ok) (hgj : ∀ vs, RowsV w vs J.L → RIn (fun b => b ≠ gj) vs) : RjAt w base gj g (fun b => base ≤ b) v J := by
  obtain ⟨vs, h1, h2, h3, h4⟩ := h
  exact ⟨hc, ⟨vs, h1, h2, h3, fun u hu b o n c e h0 hb => by
    rcases hb with hb | hb
    · exact hgj vs h2 u hu b o n c e h0 hb
    · exact h4 u hu b o n c e h0 hb⟩, hge, hok⟩
/-- a row of bytes does not lie in a journal's block -/
theorem row_not_j {w : World} {v : Value} {l : List Nat} (h : RowV w v l) {gj g : Nat} {u : Value} {J : Jl.Jn} {t : TypeId} (hu : ∃ A n c, u = .slice A n c) (hc : w.heap[gj]? = some (.cells (jcells g u J) t (0, 0))) : VIn (fun b => b ≠ gj) v := by
  obtain ⟨A, c, rfl, h1, h2, h3, h4⟩ := h
  intro b o n c' e h0 hb
  cases e
  subst hb
  obtain ⟨b', o', e', hc'⟩ := h4.at h0
  cases e'
  have h5 := hc' 0 h0
  rw [cell_of_row w b _ _ _ _ hc] at h5
  obtain ⟨A2, n2, c2, rfl⟩ := hu
  have h6 := (Array.getElem?_eq_some_iff.1 h5).1
  have h7 : o + 0 < 8 := h6
  have h8 : ∀ k, k < 8 → (jcells g (.slice A2 n2 c2) J)[k]? ≠ some (Value.int .u8 (Jl.rowL l 0)) := fun k hk => by
    match k, hk with
    | 0, _ => simp [jcells]
    | 1, _ => simp [jcells]
    | 2, _ => simp [jcells]
    | 3, _ => simp [jcells]
    | 4, _ => simp [jcells]
    | 5, _ => simp [jcells]
    | 6, _ => simp [jcells]
    | 7, _ => simp [jcells]
  exact h8 _ h7 h5
def RReadEnds2 (w : World) (N : Nat) (F : Nat → Int) (e : Ending) (w' : World) : Prop := ∃ A c, e = .returned (.tuple #[.slice A N c, .int .i64 0]) ∧ N ≤ c ∧ c ≤ maxLen ∧ RowAt w' A N F ∧ Bw w w'
set_option maxRecDepth 100000 in
set_option maxHeartbeats 4000000 in
theorem rread2_ok {w : World} {g cb cap : Nat} {LV WV : Nat → Value} {S : Dsk} (h : RefAt w g cb cap LV WV S) (x k : Nat) (hd : S.dead = false) (hx : x + k ≤ S.n) :
    Calls Try.prog 16 #[.pointer (some ⟨g, 0, none⟩), .int .i64 (x : Int), .int .i64 (k : Int)] w fun e w' => RReadEnds2 w (k * 64) (fun i => S.read (64 * x + i)) e w' := by
  have t1 := h.t1
  rw [hd] at t1
  have HH := rthere_yes h (x : Int) (k : Int) ⟨Int.natCast_nonneg _, Int.natCast_nonneg _, by omega⟩
  have hn := h.ok.n1
  have hrb := h.ok.read
  have H : Hid (RefAt w g cb cap LV WV S) := h
  have k0 : (0 : Int) ≤ (k : Int) := Int.natCast_nonneg _
  have x0 : (0 : Int) ≤ (x : Int) := Int.natCast_nonneg _
  have xk : (x : Int) + (k : Int) ≤ 65536 := by omega
  clear h
  go_enter Try.func16, Try.ntmps16
  go_wp2_with (go_at_call 43; refine HH.mono ?_; rintro e w1 ⟨rfl, hw⟩; obtain rfl := hw.symm)
  clear HH
  go_loopw [8, 9] (fun v i wr => ∃ q : Nat, q ≤ k ∧ i = .int .i64 ((x + q : Nat) : Int) ∧ wr.ownsRow w.heap.size 5 1 v (64 * q) (cellsU (fun i => S.read (64 * x + i)) (64 * q)) ∧ Bw w wr) (fun _ i _ => x + k - (intOf i).toNat)
  case atStart => exact ⟨0, Nat.zero_le _, rfl, World.ownsRow_nil w _ _ _, Bw.refl _⟩
  case round =>
    obtain ⟨q, hq, rfl, hown, hb⟩ := hrel
    obtain ⟨y, hy⟩ : ∃ y, Hid (x + q = y) := ⟨_, rfl⟩
    rw [hy.out]
    have y0 : (0 : Int) ≤ (y : Int) := Int.natCast_nonneg _
    by_cases hlt : q < k
    · have y1 : (y : Int) < (x : Int) + (k : Int) := by have := hy.out; omega
      have HRd := rreads_any (H.out.keep hb) (s := y) (by have := hy.out; omega)
      have hws := hb.size
      go_wp2_with (first
        | (go_at_call 44; refine HRd.mono ?_; rintro e w2 ⟨v2, rfl, hv2, hw⟩; obtain rfl := hw.symm; obtain ⟨b2, c2, rfl, hc2, hm2, hr2⟩ := hv2.row (fun i => hrb _))
        | (at_builtin; refine wpList_more (by rfl) _ _ (by rfl) w.heap.size _ (64 * q) (fun i => S.read (64 * x + i)) (by rfl) hown ⟨b2, 0, none⟩ 64 c2 (fun c => S.read (64 * y + c)) (by rfl) hr2 (by omega) hws ?_; intro v3 w3 hown3 hg3))
      have hb3 : Bw w w3 := bw_grow hg3 hb hws hown
      have hown4 : w3.ownsRow w.heap.size 5 1 v3 (64 * (q + 1)) (cellsU (fun i => S.read (64 * x + i)) (64 * (q + 1))) := by
        rw [show 64 * (q + 1) = 64 * q + 64 by omega]
        have : cellsU (fun c => if c < 64 * q then S.read (64 * x + c) else S.read (64 * y + (c - 64 * q))) (64 * q + 64) = cellsU (fun i => S.read (64 * x + i)) (64 * q + 64) := by
          unfold cellsU
          refine List.map_congr_left (fun i hi => ?_)
          dsimp only
          by_cases e : i < 64 * q
          · rw [if_pos e]
          · rw [if_neg e, ← hy.out, show 64 * (x + q) + (i - 64 * q) = 64 * x + i by omega]
        rw [← this]; exact hown3
      exact ⟨⟨q + 1, hlt, by rw [← hy.out]; rfl, hown4, hb3⟩, by simp only [intOf]; omega⟩
    · obtain rfl : q = k := by omega
      have y1 : ¬ (y : Int) < (x : Int) + (q : Int) := by have := hy.out; omega
      obtain ⟨A, c, e, h1, h2, hr, -⟩ := row_of_own (fun i => hrb _) hown
      subst e
      go_wp2
      go_ret2
      rw [Nat.mul_comm q 64]
      exact ⟨A, c, rfl, h1, h2, hr, hb⟩

theorem cells2_15 (w : World) (x y : Value) (t : Nat) : (w.alloc (.cells #[x, y] t)).cell? ⟨w.heap.size, 0, none⟩ = some x ∧ (w.alloc (.cells #[x, y] t)).cell? ⟨w.heap.size, 1, none⟩ = some y := by
  have h := (Go.MapKept.heap_alloc w (.cells #[x, y] t)).1
  exact ⟨cell_of_row _ _ 0 _ _ _ h, cell_of_row _ _ 1 _ _ _ h⟩
set_option maxRecDepth 100000 in
theorem rhalf15_any (x : Int) (rc : Nat) (h4 : 4 ≤ rc) (hr : rc ≤ 65536) (w : World) : Calls Try.prog 55 #[.agg #[.int .i64 x, .int .i64 (rc : Int)]] w fun e w' => e = .returned (.int .i64 (Jl.half rc : Int)) ∧ Bw w w' := by
  have e2 : Hid (((rc : Int) - 2) / 2 = ((Jl.half rc : Nat) : Int)) := by show _ = _; unfold Jl.half; omega
  have h0 : (0 : Int) ≤ (rc : Int) - 2 := by omega
  have h1 : (rc : Int) - 2 ≤ 65536 := by omega
  obtain ⟨c0, c1⟩ := cells2_15 w (.int .i64 x) (.int .i64 (rc : Int)) 23
  go_enter Try.func55, Try.ntmps55
  go_wp2
  go_ret
  refine ⟨?_, Below.alloc (Bw.refl _) (Nat.le_refl _) _⟩
  rw [← e2.out]
  rfl
def seqH (F : Nat → Int) (room : Nat) : Nat → Jl.Hed
  | 0 => Jl.no
  | i + 1 => Jl.pick (seqH F room i) (Jl.hed (fun j => F (64 * i + j)) i room)
theorem seqH_two (F : Nat → Int) (room : Nat) : seqH F room 2 = Jl.hold F room := by
  unfold Jl.hold
  rw [seqH, seqH, seqH]
  have e : (fun j => F (64 * 0 + j)) = F := funext fun j => by rw [Nat.mul_zero, Nat.zero_add]
  have e2 : (fun j => F (64 * 1 + j)) = fun j => F (64 + j) := funext fun j => by rw [Nat.mul_one]
  rw [e, e2]
def RoAt (w : World) (base g : Nat) (R : Nat → Prop) (p v : Value) : Option Jl.Jn → Prop
  | none => p = .pointer none ∧ v = .slice none 0 0
  | some J => ∃ gj, p = .pointer (some ⟨gj, 0, none⟩) ∧ RjAt w base gj g R v J
/-- how Open ends -/
def ROpenV (w : World) (g : Nat) (E : Int) (O : Option Jl.Jn) (e : Ending) (w' : World) : Prop := Bw w w' ∧ ∃ p v, e = .returned (.tuple #[p, .int .i64 E]) ∧ RoAt w' w.heap.size g (fun b => w.heap.size ≤ b) p v O
theorem ropenV_err {w w' : World} {g : Nat} {E : Int} (h : Bw w w') : ROpenV w g E none (.returned (.tuple #[.pointer none, .int .i64 E])) w' := ⟨h, _, _, rfl, rfl, rfl⟩
set_option maxRecDepth 100000 in
theorem ropen15_nil (x y : Int) (w : World) : Calls Try.prog 28 #[.pointer none, .agg #[.int .i64 x, .int .i64 y]] w fun e w' => e = .returned (.tuple #[.pointer none, .int .i64 8]) ∧ Bw w w' := by
  go_enter Try.func28, Try.ntmps28
  go_wp2
  go_ret2
  exact ⟨rfl, Below.alloc (Bw.refl _) (Nat.le_refl _) _⟩
set_option maxRecDepth 100000 in
set_option maxHeartbeats 4000000 in
theorem ropen15_bad {w : World} {g cb cap : Nat} {LV WV : Nat → Value} {S : Dsk} (h : RefAt w g cb cap LV WV S) (x y : Int) (bx : -9223372036854775808 ≤ x ∧ x < 9223372036854775808) (bY : -9223372036854775808 ≤ y ∧ y < 9223372036854775808) (hbad : y < 4 ∨ ¬ (0 ≤ x ∧ x + y ≤ S.n)) :
    Calls Try.prog 28 #[.pointer (some ⟨g, 0, none⟩), .agg #[.int .i64 x, .int .i64 y]] w fun e w' => ROpenV w g 1 none e w' := by
  have hn := h.ok.n1
  obtain ⟨n, hnn⟩ : ∃ n, Hid (S.n = n) := ⟨_, rfl⟩
  rw [hnn.out] at hn hbad
  have kA : Bw w (w.alloc (.cells #[.int .i64 x, .int .i64 y] 23)) := Below.alloc (Bw.refl _) (Nat.le_refl _) _
  have c0 := (h.keep kA).t0
  rw [hnn.out] at c0
  obtain ⟨z0, z1⟩ := cells2_15 w (.int .i64 x) (.int .i64 y) 23
  have HE : Hid (ROpenV w g 1 none (.returned (.tuple #[.pointer none, .int .i64 1])) (w.alloc (.cells #[.int .i64 x, .int .i64 y] 23))) := ropenV_err kA
  have bx1 := bx.2
  clear h kA bx bY
  by_cases h1 : y < 4
  · have d1 : decide (y < 4) = true := by rw [decide_eq_true_eq]; exact h1
    clear hbad h1
    go_enter Try.func28, Try.ntmps28
    go_wp2
    go_ret2
    exact HE.out
  · have d1 : decide (y < 4) = false := by rw [decide_eq_false_iff_not]; exact h1
    by_cases h2 : x < 0
    · have d2 : decide (x < 0) = true := by rw [decide_eq_true_eq]; exact h2
      clear hbad h1 h2
      go_enter Try.func28, Try.ntmps28
      go_wp2
      go_ret2
      exact HE.out
    · have d2 : decide (x < 0) = false := by rw [decide_eq_false_iff_not]; exact h2
      by_cases h3 : (n : Int) < x
      · have d3 : decide ((n : Int) < x) = true := by rw [decide_eq_true_eq]; exact h3
        clear hbad h1 h2 h3
        go_enter Try.func28, Try.ntmps28
        go_wp2
        go_ret2
        exact HE.out
      · have d3 : decide ((n : Int) < x) = false := by rw [decide_eq_false_iff_not]; exact h3
        have p1 : (0 : Int) ≤ (n : Int) - x := by omega
        have p2 : (n : Int) - x ≤ 65536 := by omega
        have d4 : decide ((n : Int) - x < y) = true := by rw [decide_eq_true_eq]; omega
        clear hbad h1 h2 h3
        go_enter Try.func28, Try.ntmps28
        go_wp2
        go_ret2
        exact HE.out
set_option maxRecDepth 100000 in
set_option maxHeartbeats 4000000 in
theorem ropen15_dead {w : World} {g cb cap : Nat} {LV WV : Nat → Value} {S : Dsk} (h : RefAt w g cb cap LV WV S) (r0 rc : Nat) (h4 : 4 ≤ rc) (hin : r0 + rc ≤ S.n) (hd : S.dead = true) :
    Calls Try.prog 28 #[.pointer (some ⟨g, 0, none⟩), .agg #[.int .i64 (r0 : Int), .int .i64 (rc : Int)]] w fun e w' => ROpenV w g 140 none e w' := by
  have hn := h.ok.n1
  have kA : Bw w (w.alloc (.cells #[.int .i64 (r0 : Int), .int .i64 (rc : Int)] 23)) := Below.alloc (Bw.refl _) (Nat.le_refl _) _
  have hE : S.readE (r0 : Int) (rc : Int) = 140 := by unfold Dsk.readE; rw [hd]; rfl
  have HR : Hid (Calls Try.prog 16 #[.pointer (some ⟨g, 0, none⟩), .int .i64 (r0 : Int), .int .i64 (rc : Int)] (w.alloc (.cells #[.int .i64 (r0 : Int), .int .i64 (rc : Int)] 23)) fun e w' => e = .returned (.tuple #[.slice none 0 0, .int .i64 140]) ∧ w' = (w.alloc (.cells #[.int .i64 (r0 : Int), .int .i64 (rc : Int)] 23))) := by
    have h1 := rread_bad (h.keep kA) (r0 : Int) (rc : Int) (by omega) (by rw [hE]; decide)
    rw [hE] at h1
    exact h1
  obtain ⟨n, hnn⟩ : ∃ n, Hid (S.n = n) := ⟨_, rfl⟩
  rw [hnn.out] at hn hin
  have c0 := (h.keep kA).t0
  rw [hnn.out] at c0
  obtain ⟨z0, z1⟩ := cells2_15 w (.int .i64 (r0 : Int)) (.int .i64 (rc : Int)) 23
  have HE : Hid (ROpenV w g 140 none (.returned (.tuple #[.pointer none, .int .i64 140])) (w.alloc (.cells #[.int .i64 (r0 : Int), .int .i64 (rc : Int)] 23))) := ropenV_err kA
  have p0 : (4 : Int) ≤ (rc : Int) := by omega
  have p1 : (0 : Int) ≤ (n : Int) - (r0 : Int) := by omega
  have p2 : (n : Int) - (r0 : Int) ≤ 65536 := by omega
  have p3 : (rc : Int) ≤ (n : Int) - (r0 : Int) := by omega
  have p4 : (r0 : Int) ≤ (n : Int) := by omega
  have p5 : (0 : Int) ≤ (r0 : Int) := Int.natCast_nonneg _
  clear h hE kA hin h4
  go_enter Try.func28, Try.ntmps28
  go_wp2_with (go_at_call 16; refine HR.out.mono ?_; rintro e w2 ⟨rfl, hw⟩; obtain rfl := hw.symm)
  go_ret2
  exact HE.out
end Go.Proofs.Ytppknadflmjefaa
