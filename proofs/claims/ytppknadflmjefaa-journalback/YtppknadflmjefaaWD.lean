/- Layer 15: lay, sector, isThere; headOf. -/
import Derived.Test.YtppknadflmjefaaWC
namespace Go.Proofs.Ytppknadflmjefaa
open Go.RowKit Go.Deep Go.Maps
set_option linter.unusedVariables false
set_option linter.unusedSimpArgs false

theorem byt_zero (n : Nat) : Jl.byt n 0 = n % 256 := by unfold Jl.byt; rw [Nat.pow_zero, Nat.div_one]
set_option maxRecDepth 100000 in
theorem jlay_any (g o N L ca : Nat) (F : Nat → Int) (n : Nat) (hL : L ≤ 8) (hN : o + L ≤ N) (hn : n < 18446744073709551616) (w : World) (hB : BlockIs w g N F) :
    Calls Try.prog 84 #[.slice (some ⟨g, o, none⟩) L ca, .int .u64 (n : Int)] w fun e w' => e = .returned (.tuple #[]) ∧ BlockIs w' g N (cpyF F o L (fun i => ((Jl.byt n (L - 1 - i) : Nat) : Int))) ∧ Bx (· = g) w w' := by
  go_enter Try.func84, Try.ntmps84
  go_wp2
  go_loopw [1, 7] (fun v i wr => ∃ k m : Nat, k ≤ L ∧ i = .int .i64 k ∧ v = .int .u64 (m : Int) ∧ Hid (m = n / 256 ^ k) ∧ BlockIs wr g N (fun c => if o + L - k ≤ c ∧ c < o + L then ((Jl.byt n (o + L - 1 - c) : Nat) : Int) else F c) ∧ Bx (· = g) w wr) (fun _ i _ => L - (intOf i).toNat)
  case atStart => exact ⟨0, n, Nat.zero_le _, rfl, rfl, (by rw [Nat.pow_zero, Nat.div_one] : n = n / 256 ^ 0), hB.congr (fun c _ => if_neg (by omega)), Bx.refl _ _⟩
  case round =>
    obtain ⟨k, m, hk, rfl, rfl, hm, hb, hx⟩ := hrel
    by_cases hlt : k < L
    · have m0 : m < 18446744073709551616 := by rw [hm.out]; exact Nat.lt_of_le_of_lt (Nat.div_le_self _ _) hn
      obtain ⟨q, hq⟩ : ∃ q, Hid (q + k + 1 = L) := ⟨L - 1 - k, by show L - 1 - k + k + 1 = L; omega⟩
      have eq : (L : Int) - 1 - (k : Int) = (q : Int) := by have := hq.out; omega
      have q0 : (q : Int) < (L : Int) := by have := hq.out; omega
      have q1 : (0 : Int) ≤ (q : Int) := Int.natCast_nonneg _
      obtain ⟨l1, l2⟩ := hb.cell (c := o + q) (by have := hq.out; omega)
      have hb2 : BlockIs (wr.setCell ⟨g, o + q, none⟩ (.int .u8 ((m : Int) % 256))) g N (fun c => if o + L - (k + 1) ≤ c ∧ c < o + L then ((Jl.byt n (o + L - 1 - c) : Nat) : Int) else F c) := by
        have := hq.out
        refine hb.set (by omega) ?_ (fun c hc hne => ?_)
        · show (if o + L - (k + 1) ≤ o + q ∧ o + q < o + L then ((Jl.byt n (o + L - 1 - (o + q)) : Nat) : Int) else F (o + q)) = _
          rw [if_pos (by omega), show o + L - 1 - (o + q) = k by omega, hm.out]
          unfold Jl.byt
          omega
        · show (if o + L - (k + 1) ≤ c ∧ c < o + L then ((Jl.byt n (o + L - 1 - c) : Nat) : Int) else F c) = if o + L - k ≤ c ∧ c < o + L then ((Jl.byt n (o + L - 1 - c) : Nat) : Int) else F c
          by_cases e : o + L - k ≤ c ∧ c < o + L
          · rw [if_pos e, if_pos (by omega)]
          · rw [if_neg e, if_neg (by omega)]
      have hx2 : Bx (· = g) w (wr.setCell ⟨g, o + q, none⟩ (.int .u8 ((m : Int) % 256))) := hx.put rfl
      clear hb hx hB
      go_wp2
      go_roundw
      case rel => exact ⟨k + 1, m / 256, by omega, by go_num, by simp, (by rw [hm.out, Nat.div_div_eq_div_mul, ← Nat.pow_succ] : m / 256 = n / 256 ^ (k + 1)), hb2, hx2⟩
      case measure => simp [intOf]; omega
    · have ek : k = L := by omega
      subst ek
      go_wp2
      go_end0
      refine ⟨rfl, hb.congr (fun c hc => ?_), hx⟩
      unfold cpyF
      by_cases e : o ≤ c ∧ c < o + k
      · rw [if_pos e, if_pos (by omega)]
        show ((Jl.byt n (k - 1 - (c - o)) : Nat) : Int) = _
        rw [show k - 1 - (c - o) = o + k - 1 - c by omega]
      · rw [if_neg e, if_neg (by omega)]
theorem isthere_any (x y : Int) (n : Nat) (hn : n ≤ 65536) (bx : x < 9223372036854775808) (w : World) :
    Calls Try.prog 48 #[.agg #[.int .i64 x, .int .i64 y], .int .i64 (n : Int)] w fun e w' => e = .returned (.bool (decide (0 ≤ x ∧ y ≤ (n : Int) - x))) ∧ Bw w w' := by
  have hb : Bw w (w.alloc (.cells #[.int .i64 x, .int .i64 y] 23)) := Below.alloc (Bw.refl _) (Nat.le_refl _) _
  by_cases h1 : 0 ≤ x
  · by_cases h2 : y ≤ (n : Int) - x
    · rw [decide_eq_true (⟨h1, h2⟩ : 0 ≤ x ∧ y ≤ (n : Int) - x)]
      go_enter Try.func48, Try.ntmps48
      go_wp2
      go_ret
      exact ⟨rfl, hb⟩
    · rw [decide_eq_false (fun c : 0 ≤ x ∧ y ≤ (n : Int) - x => h2 c.2)]
      go_enter Try.func48, Try.ntmps48
      go_wp2
      go_ret
      exact ⟨rfl, hb⟩
  · rw [decide_eq_false (fun c : 0 ≤ x ∧ y ≤ (n : Int) - x => h1 c.1)]
    go_enter Try.func48, Try.ntmps48
    go_wp2
    go_ret
    exact ⟨rfl, hb⟩
/-- a head's three cells -/
def hcell (h : Jl.Hed) : Array Value := #[.int .u64 (h.n : Int), .int .i64 (h.area : Int), .int .i64 (h.len : Int)]
theorem hb_laid (h : Jl.Hed) (ha : h.area ≤ 1) (hl : h.len ≤ 4294967295) (c : Nat) (hc : c < 64) (G : Nat → Int) (hG : ∀ c, G c = if c = 8 then (h.area : Int) else cpyF (fun _ => 0) 0 8 (fun i => ((Jl.byt h.n (8 - 1 - i) : Nat) : Int)) c) :
    Jl.hb h c = cpyF (cpyF G 9 4 (fun i => ((Jl.byt h.len (4 - 1 - i) : Nat) : Int))) 56 8 (fun i => ((Jl.byt h.n (8 - 1 - i) : Nat) : Int)) c := by
  unfold Jl.hb
  by_cases h1 : c < 8
  · rw [if_pos h1]
    unfold cpyF
    rw [if_neg (by omega), if_neg (by omega), hG, if_neg (by omega)]
    unfold cpyF
    rw [if_pos (by omega)]
    show _ = ((Jl.byt h.n (8 - 1 - (c - 0)) : Nat) : Int)
    rw [show 8 - 1 - (c - 0) = 7 - c by omega]
  · rw [if_neg h1]
    by_cases h2 : c = 8
    · subst h2
      unfold cpyF
      rw [if_pos rfl, if_neg (by omega), if_neg (by omega), hG, if_pos rfl, Nat.mod_eq_of_lt (by omega)]
    · rw [if_neg h2]
      by_cases h3 : c < 13
      · unfold cpyF
        rw [if_pos h3, if_neg (by omega), if_pos (by omega)]
        show _ = ((Jl.byt h.len (4 - 1 - (c - 9)) : Nat) : Int)
        rw [show 4 - 1 - (c - 9) = 12 - c by omega]
      · rw [if_neg h3]
        by_cases h4 : 56 ≤ c ∧ c < 64
        · unfold cpyF
          rw [if_pos h4, if_pos (by omega)]
          show _ = ((Jl.byt h.n (8 - 1 - (c - 56)) : Nat) : Int)
          rw [show 8 - 1 - (c - 56) = 63 - c by omega]
        · unfold cpyF
          rw [if_neg h4, if_neg (by omega), if_neg (by omega), hG, if_neg h2]
          unfold cpyF
          rw [if_neg (by omega)]
set_option maxRecDepth 100000 in
theorem jsector_any (h : Jl.Hed) (h1 : h.n < 18446744073709551616) (h2 : h.area ≤ 1) (h3 : h.len ≤ 4294967295) (w : World) :
    Calls Try.prog 74 #[.agg (hcell h)] w fun e w' => ∃ b, e = .returned (.slice (some ⟨b, 0, none⟩) 64 64) ∧ w.heap.size ≤ b ∧ BlockIs w' b 64 (Jl.hb h) ∧ Bw w w' := by
  unfold hcell
  obtain ⟨M, hM, hM0, hmk⟩ := made_bytes 64 (by omega)
  replace hmk : ∀ w, (Instr.makeSlice 37 (.int .i64 64) (.int .i64 64)).run Try.prog w = .ok (.slice (some ⟨w.heap.size, 0, none⟩) 64 64) (w.alloc (.cells M 5)) := hmk
  obtain ⟨z, hz⟩ : ∃ z, Hid (w.heap.size = z) := ⟨_, rfl⟩
  obtain ⟨W2, hW2⟩ : ∃ W, Hid ((w.alloc (.cells #[.int .u64 (h.n : Int), .int .i64 (h.area : Int), .int .i64 (h.len : Int)] 85)).alloc (.cells M 5) = W) := ⟨_, rfl⟩
  have hg0 : W2.heap[z]? = some (.cells #[.int .u64 (h.n : Int), .int .i64 (h.area : Int), .int .i64 (h.len : Int)] 85 (0, 0)) := by rw [← hW2.out, ← hz.out]; exact heap_alloc2_old _ _ _
  have hB : BlockIs W2 (z + 1) 64 (fun _ => 0) := by
    rw [← hW2.out, ← hz.out]
    exact ⟨M, heap_alloc2_new _ _ _, hM, hM0⟩
  have hbw : Bw w W2 := by
    rw [← hW2.out]
    exact Below.alloc (Below.alloc (Bw.refl _) (Nat.le_refl _) _) (by rw [size_alloc]; omega) _
  have HC : Hid (∀ W, Bx (· = z + 1) W2 W → W.cell? ⟨z, 0, none⟩ = some (.int .u64 (h.n : Int)) ∧ W.cell? ⟨z, 1, none⟩ = some (.int .i64 (h.area : Int)) ∧ W.cell? ⟨z, 2, none⟩ = some (.int .i64 (h.len : Int))) := fun W k => by
    have hg := (k.block z (Array.getElem?_eq_some_iff.1 hg0).1 (by omega)).trans hg0
    exact ⟨cell_of_row W z 0 _ _ _ hg, cell_of_row W z 1 _ _ _ hg, cell_of_row W z 2 _ _ _ hg⟩
  obtain ⟨c0, c1, c2⟩ := HC.out W2 (Bx.refl _ _)
  obtain ⟨n, hn⟩ : ∃ n, Hid (h.n = n) := ⟨_, rfl⟩
  obtain ⟨ar, har⟩ : ∃ n, Hid (h.area = n) := ⟨_, rfl⟩
  obtain ⟨le, hle⟩ : ∃ n, Hid (h.len = n) := ⟨_, rfl⟩
  have HL1 := jlay_any (z + 1) 0 64 8 64 (fun _ => 0) n (by omega) (by omega) (by rw [← hn.out]; exact h1) W2.drew (hB.keep ((Bw.refl _).drew))
  have HL2 : Hid (∀ W F, BlockIs W (z + 1) 64 F → Calls Try.prog 84 #[.slice (some ⟨z + 1, 9, none⟩) 4 55, .int .u64 (le : Int)] W fun e w' => e = .returned (.tuple #[]) ∧ BlockIs w' (z + 1) 64 (cpyF F 9 4 (fun i => ((Jl.byt le (4 - 1 - i) : Nat) : Int))) ∧ Bx (· = z + 1) W w') := fun W F hb => jlay_any (z + 1) 9 64 4 55 F le (by omega) (by omega) (by rw [← hle.out]; omega) W hb
  have HL3 : Hid (∀ W F, BlockIs W (z + 1) 64 F → Calls Try.prog 84 #[.slice (some ⟨z + 1, 56, none⟩) 8 8, .int .u64 (n : Int)] W fun e w' => e = .returned (.tuple #[]) ∧ BlockIs w' (z + 1) 64 (cpyF F 56 8 (fun i => ((Jl.byt n (8 - 1 - i) : Nat) : Int))) ∧ Bx (· = z + 1) W w') := fun W F hb => jlay_any (z + 1) 56 64 8 8 F n (by omega) (by omega) (by rw [← hn.out]; exact h1) W hb
  have HE : Hid (∀ c, c < 64 → ∀ G : Nat → Int, (∀ c, G c = if c = 8 then (ar : Int) else cpyF (fun _ => 0) 0 8 (fun i => ((Jl.byt n (8 - 1 - i) : Nat) : Int)) c) → Jl.hb h c = cpyF (cpyF G 9 4 (fun i => ((Jl.byt le (4 - 1 - i) : Nat) : Int))) 56 8 (fun i => ((Jl.byt n (8 - 1 - i) : Nat) : Int)) c) := fun c hc G hG => by
    rw [← hn.out, ← har.out, ← hle.out] at *
    exact hb_laid h h2 h3 c hc G hG
  have Hz : Hid (w.heap.size ≤ z + 1) := by rw [hz.out]; exact Nat.le_succ z
  have a1 : ar ≤ 1 := by rw [← har.out]; exact h2
  have l1 : le ≤ 4294967295 := by rw [← hle.out]; exact h3
  rw [hn.out] at c0
  rw [har.out] at c1
  rw [hle.out] at c2
  rw [hn.out, har.out, hle.out] at HC
  clear hM hM0 hg0 h1 h2 h3
  go_enter Try.func74, Try.ntmps74
  go_wp2_with (rw [hW2.out, hz.out])
  go_region_held3 (fun w' => w'.cell? ⟨z, 0, none⟩ = some (.int .u64 (n : Int)))
    (first | exact c0 | exact d0 | assumption)
    (first | (go_at_call 84; refine HL1.mono ?_; rintro e w3 ⟨rfl, hB3, hx3⟩; have hx3' : Bx (· = z + 1) W2 w3 := Bx.trans (Bx.of_bw ((Bw.refl W2).drew)) hx3; obtain ⟨d0, d1, d2⟩ := HC.out w3 hx3'))
  clear HL1
  have hD3 := hB3.set (j := 8) (x := (ar : Int)) (f' := fun c => if c = 8 then (ar : Int) else cpyF (fun _ => 0) 0 8 (fun i => ((Jl.byt n (8 - 1 - i) : Nat) : Int)) c) (by omega) (if_pos rfl) (fun c _ hc => if_neg hc)
  have hx4 : Bx (· = z + 1) W2 (w3.setCell ⟨z + 1, 8, none⟩ (.int .u8 (ar : Int))) := hx3'.put rfl
  obtain ⟨k1, k2⟩ := hB3.cell (c := 8) (by omega)
  have e8 : (ar : Int) % 256 = (ar : Int) := by omega
  obtain ⟨W4, hW4⟩ : ∃ W, Hid (w3.setCell ⟨z + 1, 8, none⟩ (.int .u8 (ar : Int)) = W) := ⟨_, rfl⟩
  rw [hW4.out] at hD3 hx4
  obtain ⟨d0, d1, d2⟩ := HC.out W4 hx4
  clear hB3 hx3 hB hx3'
  go_wp2_with (first | rw [e8, hW4.out] | rw [hW4.out])
  have HM2 := HL2.out W4.drew _ (hD3.keep ((Bw.refl _).drew))
  have lw : IntKind.u64.wrap (le : Int) = (le : Int) := by rw [IntKind.wrap_u64]; omega
  clear HL2
  go_region_held3 (fun w' => w'.cell? ⟨z, 2, none⟩ = some (.int .i64 (le : Int)))
    (first | exact d2 | exact f2 | assumption)
    (first | (go_at_call 84; refine HM2.mono ?_; rintro e w5 ⟨rfl, hB5, hx5⟩; have hx5' : Bx (· = z + 1) W2 w5 := Bx.trans (hx4.trans (Bx.of_bw ((Bw.refl W4).drew))) hx5; obtain ⟨f0, f1, f2⟩ := HC.out w5 hx5'))
  go_wp2
  have HM3 := HL3.out w5.drew _ (hB5.keep ((Bw.refl _).drew))
  clear HL3 HM2
  go_region_held3 (fun w' => w'.cell? ⟨z, 0, none⟩ = some (.int .u64 (n : Int)))
    (first | exact f0 | exact j0 | assumption)
    (first | (go_at_call 84; refine HM3.mono ?_; rintro e w6 ⟨rfl, hB6, hx6⟩; have hx6' : Bx (· = z + 1) W2 w6 := Bx.trans (hx5'.trans (Bx.of_bw ((Bw.refl w5).drew))) hx6; obtain ⟨j0, j1, j2⟩ := HC.out w6 hx6'))
  go_wp2
  go_ret
  exact ⟨z + 1, rfl, Hz.out, hB6.congr (fun c hc => HE.out c hc _ (fun _ => rfl)), Below.trans hbw (hx6'.below hbw.size (fun b e => by have := Hz.out; omega))⟩
set_option maxRecDepth 100000 in
theorem jheadof_any (b1 o1 i room : Nat) (b : Nat → Int) (hi : i ≤ 1) (hr : room ≤ 4294967295) (w : World) (h : RowAt w (some ⟨b1, o1, none⟩) 64 b) :
    Calls Try.prog 80 #[.slice (some ⟨b1, o1, none⟩) 64 64, .int .i64 (i : Int), .int .i64 (room : Int)] w fun e w' => e = .returned (.agg (hcell (Jl.hed b i room))) ∧ Bw w w' := by
  obtain ⟨b1', o1', e, hc1⟩ := h.at (k := 0) (by omega)
  cases e
  obtain ⟨z, hz⟩ : ∃ z, Hid (w.heap.size = z) := ⟨_, rfl⟩
  obtain ⟨W1, hW1⟩ : ∃ W, Hid (w.alloc (.cells #[.int .u64 0, .int .i64 0, .int .i64 0] 85) = W) := ⟨_, rfl⟩
  have hb1 : Bw w W1 := by rw [← hW1.out]; exact Below.alloc (Bw.refl _) (Nat.le_refl _) _
  have hg1 : W1.heap[z]? = some (.cells #[.int .u64 0, .int .i64 0, .int .i64 0] 85 (0, 0)) := by rw [← hW1.out, ← hz.out]; exact heap_alloc_new _ _
  have c8 : W1.cell? ⟨b1, o1 + 8, none⟩ = some (.int .u8 (b 8)) := (hb1.cell (p := ⟨b1, o1 + 8, none⟩) (block_lt_of_cell (hc1 8 (by omega)))).trans (hc1 8 (by omega))
  have hrow : ∀ o n, o + n ≤ 64 → RowAt W1 (some ⟨b1, o1 + o, none⟩) n (fun i => b (o + i)) := fun o n hn => ⟨Or.inr ⟨b1, o1 + o, rfl, fun i hi => by
    have := hc1 (o + i) (by omega)
    rw [Nat.add_assoc]
    exact (hb1.cell (p := ⟨b1, o1 + (o + i), none⟩) (block_lt_of_cell this)).trans this⟩, fun i => h.2 _⟩
  obtain ⟨a, ha⟩ : ∃ a, Hid (Jl.num b 8 = a) := ⟨_, rfl⟩
  obtain ⟨c, hc⟩ : ∃ c, Hid (Jl.num (fun i => b (56 + i)) 8 = c) := ⟨_, rfl⟩
  obtain ⟨l, hl⟩ : ∃ l, Hid (Jl.num (fun i => b (9 + i)) 4 = l) := ⟨_, rfl⟩
  have H8 : Hid (∀ n, Calls Try.prog 82 #[.slice (some ⟨b1, o1, none⟩) 8 64] (W1.drewN n) fun e w' => e = .returned (.int .u64 (a : Int)) ∧ w' = W1.drewN n) := fun n => by
    rw [← ha.out]
    have := hrow 0 8 (by omega)
    simp only [Nat.add_zero, Nat.zero_add] at this
    exact jnumber_any _ 8 64 _ (by omega) _ (this.keep (Bw.drewN _ _))
  have H4 : Hid (∀ n, Calls Try.prog 82 #[.slice (some ⟨b1, o1 + 9, none⟩) 4 55] (W1.drewN n) fun e w' => e = .returned (.int .u64 (l : Int)) ∧ w' = W1.drewN n) := fun n => by
    rw [← hl.out]
    exact jnumber_any _ 4 55 _ (by omega) _ ((hrow 9 4 (by omega)).keep (Bw.drewN _ _))
  have HL : Hid (∀ n, Calls Try.prog 82 #[.slice (some ⟨b1, o1 + 56, none⟩) 8 8] (W1.drewN n) fun e w' => e = .returned (.int .u64 (c : Int)) ∧ w' = W1.drewN n) := fun n => by
    rw [← hc.out]
    exact jnumber_any _ 8 8 _ (by omega) _ ((hrow 56 8 (by omega)).keep (Bw.drewN _ _))
  have b8 := h.2 8
  have b80 := b8.1
  have b81 := b8.2
  have ab : a < 18446744073709551616 := by rw [← ha.out]; exact num_lt15 h.2 (by omega)
  have cb : c < 18446744073709551616 := by rw [← hc.out]; exact num_lt15 (fun i => h.2 _) (by omega)
  have lb : l < 18446744073709551616 := by rw [← hl.out]; exact num_lt15 (fun i => h.2 _) (by omega)
  clear hrow b8
  obtain ⟨y, hy⟩ : ∃ y, Hid (b 8 = y) := ⟨_, rfl⟩
  rw [hy.out] at c8 b80 b81
  obtain ⟨H, hH⟩ : ∃ H, Hid (Jl.hed b i room = H) := ⟨_, rfl⟩
  rw [hH.out]
  have HE : Hid (H = if a = c ∧ a % 2 = i ∧ y ≤ 1 ∧ l ≤ room then ⟨a, y.toNat, l⟩ else Jl.no) := by
    show _ = _
    rw [← hH.out]
    unfold Jl.hed
    rw [ha.out, hc.out, hl.out, hy.out]
  clear hc1 h
  go_enter Try.func80, Try.ntmps80
  go_wp2_with (rw [hW1.out, hz.out])
  go_quiet ((go_at_call 82; with_reducible (first | exact Calls.quiet_of_same (H8.out _) | exact Calls.quiet_of_same (H4.out _))))
  have hg2 : (W1.drewN nq).heap[z]? = some (.cells #[.int .u64 0, .int .i64 0, .int .i64 0] 85 (0, 0)) := by rw [(Bw.drewN W1 nq).block z (Array.getElem?_eq_some_iff.1 hg1).1]; exact hg1
  have hb2 : Bw w (W1.drewN nq) := hb1.trans (Bw.drewN W1 nq)
  have Hz : Hid (w.heap.size ≤ z) := by rw [hz.out]; exact Nat.le_refl z
  have HL' := HL.out nq
  generalize W1.drewN nq = W2 at hg2 hb2 HL' ⊢
  have hi0 : (Try.prog.info? 85).map (·.size) = some 3 := by kernel_rfl
  have HF : Hid (∀ vs : Array Value, vs.size = 3 → (W2.setRow z vs).heap[z]? = some (.cells vs 85 (0, 0)) ∧ Bw w (W2.setRow z vs)) := fun vs hs => ⟨setRow_heap W2 z _ _ _ _ hg2, Below.trans hb2 (Bx.below (S := (· = z)) ⟨rfl, rfl, rfl, by simp [World.setRow], fun k _ hk => setRow_other W2 z k _ (fun e => hk e)⟩ hb2.size (fun b e => by have := Hz.out; omega))⟩
  clear H8 H4 HL c8 hg1 hb1
  have yn : (y.toNat : Int) = y := by omega
  by_cases hac : a = c
  · obtain rfl := hac
    have m0 : Hid ((a : Int) % 2 = ((a % 2 : Nat) : Int)) := by show _ = _; omega
    by_cases h2 : a % 2 = i
    · have h2' : (a : Int) % 2 = (i : Int) := by omega
      by_cases h3 : y ≤ 1
      · have h3' : ¬ (2 : Int) ≤ y := by omega
        by_cases h4 : l ≤ room
        · have hH2 := HE.out
          rw [if_pos ⟨rfl, h2, h3, h4⟩] at hH2
          go_wp2_with (first
            | (go_at_call 82; refine HL'.mono ?_; rintro e w3 ⟨rfl, hw⟩; obtain rfl := hw.symm)
            | (refine wpList_store_row rfl 85 _ _ rfl z #[.int .u64 (a : Int), .int .i64 y, .int .i64 (l : Int)] rfl rfl 85 _ hg2 hi0 rfl (by kernel_rfl) ?_))
          obtain ⟨f1, f2⟩ := HF.out #[.int .u64 (a : Int), .int .i64 y, .int .i64 (l : Int)] rfl
          refine bodyPost_ret (results_cell_row rfl _ _ z _ #[.int .u64 (a : Int), .int .i64 y, .int .i64 (l : Int)] _ _ (by rfl) f1 Try.underlying85 rfl hi0) rfl ?_
          exact ⟨by rw [hH2]; unfold hcell; rw [yn], f2⟩
        · have hH2 := HE.out
          rw [if_neg (fun c => h4 c.2.2.2)] at hH2
          go_wp2_with (first
            | (go_at_call 82; refine HL'.mono ?_; rintro e w3 ⟨rfl, hw⟩; obtain rfl := hw.symm)
            | (refine wpList_store_row rfl 85 _ _ rfl z #[.int .u64 0, .int .i64 0, .int .i64 0] rfl rfl 85 _ hg2 hi0 rfl (by kernel_rfl) ?_))
          obtain ⟨f1, f2⟩ := HF.out #[.int .u64 0, .int .i64 0, .int .i64 0] rfl
          refine bodyPost_ret (results_cell_row rfl _ _ z _ #[.int .u64 0, .int .i64 0, .int .i64 0] _ _ (by rfl) f1 Try.underlying85 rfl hi0) rfl ?_
          exact ⟨by rw [hH2]; rfl, f2⟩
      · have h3' : (2 : Int) ≤ y := by omega
        have hH2 := HE.out
        rw [if_neg (fun c => h3 c.2.2.1)] at hH2
        go_wp2_with (first
          | (go_at_call 82; refine HL'.mono ?_; rintro e w3 ⟨rfl, hw⟩; obtain rfl := hw.symm)
          | (refine wpList_store_row rfl 85 _ _ rfl z #[.int .u64 0, .int .i64 0, .int .i64 0] rfl rfl 85 _ hg2 hi0 rfl (by kernel_rfl) ?_))
        obtain ⟨f1, f2⟩ := HF.out #[.int .u64 0, .int .i64 0, .int .i64 0] rfl
        refine bodyPost_ret (results_cell_row rfl _ _ z _ #[.int .u64 0, .int .i64 0, .int .i64 0] _ _ (by rfl) f1 Try.underlying85 rfl hi0) rfl ?_
        exact ⟨by rw [hH2]; rfl, f2⟩
    · have h2' : ¬ (a : Int) % 2 = (i : Int) := by omega
      have hH2 := HE.out
      rw [if_neg (fun c => h2 c.2.1)] at hH2
      go_wp2_with (first
        | (go_at_call 82; refine HL'.mono ?_; rintro e w3 ⟨rfl, hw⟩; obtain rfl := hw.symm)
        | (refine wpList_store_row rfl 85 _ _ rfl z #[.int .u64 0, .int .i64 0, .int .i64 0] rfl rfl 85 _ hg2 hi0 rfl (by kernel_rfl) ?_))
      obtain ⟨f1, f2⟩ := HF.out #[.int .u64 0, .int .i64 0, .int .i64 0] rfl
      refine bodyPost_ret (results_cell_row rfl _ _ z _ #[.int .u64 0, .int .i64 0, .int .i64 0] _ _ (by rfl) f1 Try.underlying85 rfl hi0) rfl ?_
      exact ⟨by rw [hH2]; rfl, f2⟩
  · have hac' : ((a : Int) != (c : Int)) = true := by simp; omega
    have hH2 := HE.out
    rw [if_neg (fun c => hac c.1)] at hH2
    clear hac
    go_wp2_with (first
      | (go_at_call 82; refine HL'.mono ?_; rintro e w3 ⟨rfl, hw⟩; obtain rfl := hw.symm)
      | (refine wpList_store_row rfl 85 _ _ rfl z #[.int .u64 0, .int .i64 0, .int .i64 0] rfl rfl 85 _ hg2 hi0 rfl (by kernel_rfl) ?_))
    obtain ⟨f1, f2⟩ := HF.out #[.int .u64 0, .int .i64 0, .int .i64 0] rfl
    refine bodyPost_ret (results_cell_row rfl _ _ z _ #[.int .u64 0, .int .i64 0, .int .i64 0] _ _ (by rfl) f1 Try.underlying85 rfl hi0) rfl ?_
    exact ⟨by rw [hH2]; rfl, f2⟩
end Go.Proofs.Ytppknadflmjefaa
