/- Layer 14: the statements' own great and stays. -/
import Derived.Test.YtmmpignjihbbpaaFa
namespace Go.Proofs.Ytmmpignjihbbpaa
open Go.RowKit Go.Deep Go.Maps
set_option linter.unusedVariables false
set_option linter.unusedSimpArgs false

theorem InActs.cell {w : World} {A : Option Addr} {n cap : Nat} {X : Nat → Ac} (h : InActs w A n cap X) {i : Nat} (hi : i < n) : ∃ b off, A = some ⟨b, off, none⟩ ∧ ∀ k v, (X i).vals[k]? = some v → w.cell? ⟨b, off + i * 6 + k, none⟩ = some v := by
  rcases h.at_ with h0 | ⟨b, off, e, hc⟩
  · omega
  · exact ⟨b, off, e, hc i hi⟩
/-- it tells yes or no -/
def Tells14 (e : Ending) : Prop := ∃ B : Bool, e = .returned (.bool B)
theorem great14_any {w : World} {A : Option Addr} {n cap : Nat} {X : Nat → Ac} (h : InActs w A n cap X) :
    Calls Try.prog 8 #[.slice A n cap] w fun e w' => Tells14 e ∧ w' = w := by
  have hroom := h.room
  have hle := h.le
  have H : Hid (InActs w A n cap X) := h
  clear h
  go_enter Try.func8, Try.ntmps8
  go_wp2
  go_loop [3, 4] (fun m i => ∃ q t : Nat, q ≤ n ∧ q ≤ 201 ∧ t ≤ q * 140737488351232 ∧ m = .int .i64 (t : Int) ∧ i = .int .i64 (q : Int)) (fun _ i => n - (intOf i).toNat)
  case atStart => exact ⟨0, 0, Nat.zero_le _, by omega, by omega, rfl, rfl⟩
  case round =>
    obtain ⟨q, t, hq, hq2, ht, rfl, rfl⟩ := hrel
    have q0 : (0 : Int) ≤ (q : Int) := Int.natCast_nonneg _
    have t0 : (0 : Int) ≤ (t : Int) := Int.natCast_nonneg _
    have t1 : (t : Int) ≤ 28288235158597632 := by omega
    have hend : ∀ K : Prop, (K → K) := fun _ h => h
    by_cases hlt : q < n ∧ q ≤ 200
    · have q1 : (q : Int) < (n : Int) := by omega
      have q2 : (q : Int) ≤ 200 := by omega
      obtain ⟨b, off, rfl, hc⟩ := H.out.cell hlt.1
      have c3 := hc 3 _ rfl
      have hL := (H.out.acts q hlt.1).row.le
      have hC := (H.out.acts q hlt.1).row.room
      obtain ⟨L, hL'⟩ : ∃ L, Hid ((X q).L = L) := ⟨_, rfl⟩
      rw [hL'.out] at c3 hL
      have l0 : (0 : Int) ≤ (L : Int) := Int.natCast_nonneg _
      have l1 : (L : Int) ≤ 140737488351232 := by omega
      have hfin : Hid ((∃ q' t' : Nat, q' ≤ n ∧ q' ≤ 201 ∧ t' ≤ q' * 140737488351232 ∧ Value.int .i64 ((t : Int) + (L : Int)) = .int .i64 (t' : Int) ∧ Value.int .i64 ((q : Int) + 1) = .int .i64 (q' : Int)) ∧ n - (intOf (.int .i64 ((q : Int) + 1))).toNat < n - (intOf (.int .i64 (q : Int))).toNat) := ⟨⟨q + 1, t + L, hlt.1, by omega, by omega, rfl, rfl⟩, by simp only [intOf]; omega⟩
      clear hc hL hC
      go_wp2
      exact hfin.out
    · by_cases hl : 200 < n
      · have n1 : (200 : Int) < (n : Int) := by omega
        by_cases h1 : q < n
        · have q1 : (q : Int) < (n : Int) := by omega
          have q2 : ¬ (q : Int) ≤ 200 := by omega
          go_wp2
          go_ret
          exact ⟨⟨_, rfl⟩, rfl⟩
        · have q1 : ¬ (q : Int) < (n : Int) := by omega
          go_wp2
          go_ret
          exact ⟨⟨_, rfl⟩, rfl⟩
      · have n1 : ¬ (200 : Int) < (n : Int) := by omega
        have q1 : ¬ (q : Int) < (n : Int) := by omega
        go_wp2
        go_ret
        exact ⟨⟨_, rfl⟩, rfl⟩
/-- an act that writes to a sector -/
def Tch (x : Ac) (s : Nat) : Prop := x.do_ = 0 ∧ 0 ≤ x.at_ ∧ x.at_ ≤ (s : Int) ∧ (s : Int) < x.at_ + ((x.L / 64 : Nat) : Int)
/-- truths in a block -/
def TrAt (w : World) (g n : Nat) (T : Nat → Bool) : Prop := ∃ cur, w.heap[g]? = some (.cells cur 4 (0, 0)) ∧ cur.size = n ∧ ∀ c, c < n → cur[c]? = some (.bool (T c))
theorem TrAt.cell {w : World} {g n : Nat} {T : Nat → Bool} (h : TrAt w g n T) {c : Nat} (hc : c < n) : w.cell? ⟨g, c, none⟩ = some (.bool (T c)) ∧ w.frozen? ⟨g, c, none⟩ = false := by
  obtain ⟨cur, h1, h2, h3⟩ := h
  exact ⟨(cell_of_row w g c cur _ _ h1).trans (h3 c hc), frozen_of_row w g c cur _ h1⟩
theorem TrAt.set {w : World} {g n : Nat} {T : Nat → Bool} (h : TrAt w g n T) {j : Nat} (hj : j < n) : TrAt (w.setCell ⟨g, j, none⟩ (.bool true)) g n (fun i => if i = j then true else T i) := by
  obtain ⟨cur, h1, h2, h3⟩ := h
  refine ⟨_, heap_setCell_same w g j cur _ _ h1, by simpa using h2, fun c hc => ?_⟩
  by_cases hcj : c = j
  · subst hcj; rw [Array.getElem?_setIfInBounds_self_of_lt (by omega)]; dsimp only; rw [if_pos rfl]
  · rw [Array.getElem?_setIfInBounds_ne (Ne.symm hcj), h3 c hc]; dsimp only; rw [if_neg hcj]
theorem TrAt.keep {w w' : World} {g n : Nat} {T : Nat → Bool} (h : TrAt w g n T) (k : Bw w w') : TrAt w' g n T := by
  obtain ⟨cur, h1, h2⟩ := h
  exact ⟨cur, (k.block g (Array.getElem?_eq_some_iff.1 h1).1).trans h1, h2⟩
theorem info_bool14 : (Try.prog.info? 4).map (fun i => (i.zero, i.size, i.bytes)) = some (some (.bool false), 1, 1) := by kernel_rfl
theorem made_truths : ∃ M : Array Value, M.size = 40 ∧ (∀ i, i < 40 → M[i]? = some (.bool false)) ∧
    ∀ w, (Instr.makeSlice 52 (.int .i64 40) (.int .i64 40)).run Try.prog w = .ok (.slice (some ⟨w.heap.size, 0, none⟩) 40 40) (w.alloc (.cells M 4)) := by
  refine ⟨madeCells #[.bool false] 40, by simp [madeCells], fun i hi => by simp [madeCells, hi, Nat.mod_one], fun w => run_make_row' 52 4 (.bool false) 1 Try.underlying52 info_bool14 rfl .i64 .i64 40 (by omega) (by omega) w⟩
set_option maxRecDepth 100000 in
set_option maxHeartbeats 4000000 in
theorem stays_any {w : World} {A : Option Addr} {n cap : Nat} {X : Nat → Ac} (h : InActs w A n cap X) (b1 b2 : Nat) (WAS OUT : Nat → Int) (hW : BlockIs w b1 2560 WAS) (hO : BlockIs w b2 2560 OUT) (wb : ∀ i, 0 ≤ WAS i ∧ WAS i < 256) (ob : ∀ i, 0 ≤ OUT i ∧ OUT i < 256)
    (hT : ∀ s, s < 40 → (∀ i, i < n → ¬ Tch (X i) s) → ∀ c, c < 64 → OUT (64 * s + c) = WAS (64 * s + c)) :
    Calls Try.prog 25 #[.slice (some ⟨b1, 0, none⟩) 2560 2560, .slice (some ⟨b2, 0, none⟩) 2560 2560, .slice A n cap] w fun e w' => e = .returned (.bool true) ∧ Bw w w' := by
  obtain ⟨M, hM, hM0, hmk⟩ := made_truths
  have hroom := h.room
  have hle := h.le
  have H : Hid (InActs w A n cap X) := h
  have HW : Hid (BlockIs w b1 2560 WAS) := hW
  have HO : Hid (BlockIs w b2 2560 OUT) := hO
  have HT : Hid (∀ s, s < 40 → (∀ i, i < n → ¬ Tch (X i) s) → ∀ c, c < 64 → OUT (64 * s + c) = WAS (64 * s + c)) := hT
  have HM : Hid (∀ i, i < 40 → M[i]? = some (.bool false)) := hM0
  clear h hW hO hT hM0
  go_enter Try.func25, Try.ntmps25
  go_wp2
  obtain ⟨z, hz⟩ : ∃ z, Hid (w.heap.size = z) := ⟨_, rfl⟩
  obtain ⟨W0, hW0⟩ : ∃ W, Hid (w.alloc (.cells M 4) = W) := ⟨_, rfl⟩
  have hB0 : TrAt W0 z 40 (fun _ => false) := by rw [← hW0.out, ← hz.out]; exact ⟨M, (Go.MapKept.heap_alloc _ _).1, hM, HM.out⟩
  have hwz : Bw w W0 := by rw [← hW0.out]; exact Below.alloc (Bw.refl _) (Nat.le_refl _) _
  have hzw : w.heap.size ≤ z := by rw [hz.out]; exact Nat.le_refl _
  rw [hW0.out, hz.out]
  clear hmk hM
  go_loopw [8] (fun i wr => ∃ (q : Nat) (T : Nat → Bool), q ≤ n ∧ i = .int .i64 (q : Int) ∧ TrAt wr z 40 T ∧ (∀ j, j < q → ∀ s, s < 40 → Tch (X j) s → T s = true) ∧ Bw w wr) (fun i _ => n - (intOf i).toNat)
  case atStart => exact ⟨0, _, Nat.zero_le _, rfl, hB0, fun j hj => by omega, hwz⟩
  case round =>
    obtain ⟨q, T, hq, rfl, hB, hTq, hb⟩ := hrel
    have q0 : (0 : Int) ≤ (q : Int) := Int.natCast_nonneg _
    clear hB0 hwz
    have HTq : Hid (∀ j, j < q → ∀ s, s < 40 → Tch (X j) s → T s = true) := hTq
    clear hTq
    by_cases hlt : q < n
    · have q1 : (q : Int) < (n : Int) := by omega
      obtain ⟨b, off, rfl, hcw⟩ := (H.out.keep hb).cell hlt
      have c0 := hcw 0 _ rfl
      rw [Nat.add_zero] at c0
      obtain ⟨dx, hdx⟩ : ∃ x, Hid ((X q).do_ = x) := ⟨_, rfl⟩
      rw [hdx.out] at c0
      by_cases hd0 : dx = 0
      · subst hd0
        have c1 := hcw 1 _ rfl
        have c3 := hcw 3 _ rfl
        obtain ⟨x, hx⟩ : ∃ x, Hid ((X q).at_ = x) := ⟨_, rfl⟩
        obtain ⟨L, hL⟩ : ∃ x, Hid ((X q).L = x) := ⟨_, rfl⟩
        obtain ⟨B, hBB⟩ : ∃ x, Hid ((X q).B = x) := ⟨_, rfl⟩
        obtain ⟨C, hCC⟩ : ∃ x, Hid ((X q).C = x) := ⟨_, rfl⟩
        have xb := (H.out.acts q hlt).ab
        have lb1 := (H.out.acts q hlt).row.le
        have lb2 := (H.out.acts q hlt).row.room
        rw [hx.out] at c1 xb
        rw [hL.out, hBB.out, hCC.out] at c3
        rw [hL.out] at lb1
        obtain ⟨m, hm⟩ : ∃ m : Nat, Hid (L / 64 = m) := ⟨_, rfl⟩
        have m1 : (L : Int) / 64 = (m : Int) := by have := hm.out; omega
        have m2 : (m : Int) ≤ 140737488351232 := by omega
        have m0 : (0 : Int) ≤ (m : Int) := Int.natCast_nonneg _
        have l0 : (0 : Int) ≤ (L : Int) := Int.natCast_nonneg _
        have l1 : (L : Int) ≤ 140737488351232 := by omega
        have hbk : b < w.heap.size := by
          obtain ⟨b', off', e, hc'⟩ := H.out.cell hlt
          cases e
          exact block_lt_of_cell (hc' 0 _ rfl)
        have Hc : Hid (∀ W', Bw w W' → W'.cell? ⟨b, off + q * 6, none⟩ = some (.int .i64 0) ∧ W'.cell? ⟨b, off + q * 6 + 1, none⟩ = some (.int .i64 x) ∧ W'.cell? ⟨b, off + q * 6 + 3, none⟩ = some (.slice B L C)) := fun W' k => by
          obtain ⟨b', off', e, hc'⟩ := (H.out.keep k).cell hlt
          cases e
          have d0 := hc' 0 _ rfl
          have d1 := hc' 1 _ rfl
          have d3 := hc' 3 _ rfl
          rw [Nat.add_zero, hdx.out] at d0
          rw [hx.out] at d1
          rw [hL.out, hBB.out, hCC.out] at d3
          exact ⟨d0, d1, d3⟩
        clear hcw lb1 lb2 c1 c3
        go_wp2
        go_loopw [9] (fun i wy => ∃ (k : Nat) (T' : Nat → Bool), k ≤ m ∧ i = .int .i64 (k : Int) ∧ TrAt wy z 40 T' ∧ (∀ j, j < q → ∀ s, s < 40 → Tch (X j) s → T' s = true) ∧ (∀ s : Nat, s < 40 → 0 ≤ x → x ≤ (s : Int) → (s : Int) < x + (k : Int) → T' s = true) ∧ Bw w wy) (fun i _ => m - (intOf i).toNat)
        case atStart => exact ⟨0, T, Nat.zero_le _, rfl, hB, HTq.out, fun s _ _ h1 h2 => by omega, hb⟩
        case round =>
          obtain ⟨k, T', hk, rfl, hB', hT1, hT2, hb'⟩ := hrel
          have HT1 : Hid (∀ j, j < q → ∀ s, s < 40 → Tch (X j) s → T' s = true) := hT1
          have HT2 : Hid (∀ s : Nat, s < 40 → 0 ≤ x → x ≤ (s : Int) → (s : Int) < x + (k : Int) → T' s = true) := hT2
          clear hT1 hT2 hB c0
          have k0 : (0 : Int) ≤ (k : Int) := Int.natCast_nonneg _
          obtain ⟨d0, d1, d3⟩ := Hc.out _ hb'
          by_cases hkm : k < m
          · have k1 : (k : Int) < (m : Int) := by omega
            by_cases hin : 0 ≤ x ∧ x < 40 ∧ (k : Int) < 40 - x
            · obtain ⟨y, rfl⟩ : ∃ y : Nat, x = (y : Int) := ⟨x.toNat, by omega⟩
              have i1 := hin.1
              have i2 := hin.2.1
              have i3 := hin.2.2
              have hcz := hB'.cell (c := y + k) (by omega)
              have cz1 := hcz.1
              have cz2 := hcz.2
              have i4 : (y : Int) + (k : Int) < 40 := by omega
              have hB2 := hB'.set (j := y + k) (by omega)
              have hb2 : Bw w (wr.setCell ⟨z, y + k, none⟩ (.bool true)) := hb'.put hzw _ _
              have hfin : Hid (∀ W', W' = wr.setCell ⟨z, y + k, none⟩ (.bool true) → (∃ (k' : Nat) (T' : Nat → Bool), k' ≤ m ∧ Value.int .i64 ((k : Int) + 1) = .int .i64 (k' : Int) ∧ TrAt W' z 40 T' ∧ (∀ j, j < q → ∀ s, s < 40 → Tch (X j) s → T' s = true) ∧ (∀ s : Nat, s < 40 → 0 ≤ (y : Int) → (y : Int) ≤ (s : Int) → (s : Int) < (y : Int) + (k' : Int) → T' s = true) ∧ Bw w W') ∧ m - (intOf (.int .i64 ((k : Int) + 1))).toNat < m - (intOf (.int .i64 (k : Int))).toNat) := fun W' e => ⟨⟨k + 1, _, hkm, rfl, e ▸ hB2, fun j hj s hs ht => by
                  show (if s = y + k then true else T' s) = true
                  split
                  · rfl
                  · exact HT1.out j hj s hs ht, fun s hs h0 h1 h2 => by
                  show (if s = y + k then true else T' s) = true
                  split
                  · rfl
                  · exact HT2.out s hs h0 h1 (by omega), e ▸ hb2⟩, by simp only [intOf]; omega⟩
              clear hin hcz hB2 hb2 hB'
              go_wp2
              exact hfin.out _ rfl
            · have hfin : Hid ((∃ (k' : Nat) (T' : Nat → Bool), k' ≤ m ∧ Value.int .i64 ((k : Int) + 1) = .int .i64 (k' : Int) ∧ TrAt wr z 40 T' ∧ (∀ j, j < q → ∀ s, s < 40 → Tch (X j) s → T' s = true) ∧ (∀ s : Nat, s < 40 → 0 ≤ x → x ≤ (s : Int) → (s : Int) < x + (k' : Int) → T' s = true) ∧ Bw w wr) ∧ m - (intOf (.int .i64 ((k : Int) + 1))).toNat < m - (intOf (.int .i64 (k : Int))).toNat) := ⟨⟨k + 1, T', hkm, rfl, hB', HT1.out, fun s hs h0 h1 h2 => HT2.out s hs h0 h1 (by omega), hb'⟩, by simp only [intOf]; omega⟩
              by_cases i1 : 0 ≤ x
              · by_cases i2 : x < 40
                · have i3 : ¬ (k : Int) < 40 - x := by omega
                  clear hin hB'
                  go_wp2
                  exact hfin.out
                · clear hin hB'
                  go_wp2
                  exact hfin.out
              · clear hin hB'
                go_wp2
                exact hfin.out
          · obtain rfl : k = m := by omega
            have hfin : Hid ((∃ (q' : Nat) (T : Nat → Bool), q' ≤ n ∧ Value.int .i64 ((q : Int) + 1) = .int .i64 (q' : Int) ∧ TrAt wr z 40 T ∧ (∀ j, j < q' → ∀ s, s < 40 → Tch (X j) s → T s = true) ∧ Bw w wr) ∧ n - (intOf (.int .i64 ((q : Int) + 1))).toNat < n - (intOf (.int .i64 (q : Int))).toNat) := ⟨⟨q + 1, T', hlt, rfl, hB', fun j hj s hs ht => by
                by_cases e : j = q
                · subst e
                  obtain ⟨-, t1, t2, t3⟩ := ht
                  rw [hx.out] at t1 t2 t3
                  rw [hL.out, hm.out] at t3
                  exact HT2.out s hs t1 t2 t3
                · exact HT1.out j (by omega) s hs ht, hb'⟩, by simp only [intOf]; omega⟩
            clear hB'
            go_wp2
            exact hfin.out
      · have e0 : (dx != 0) = true := by rw [bne_iff_ne]; exact hd0
        have hfin : Hid ((∃ (q' : Nat) (T : Nat → Bool), q' ≤ n ∧ Value.int .i64 ((q : Int) + 1) = .int .i64 (q' : Int) ∧ TrAt wr z 40 T ∧ (∀ j, j < q' → ∀ s, s < 40 → Tch (X j) s → T s = true) ∧ Bw w wr) ∧ n - (intOf (.int .i64 ((q : Int) + 1))).toNat < n - (intOf (.int .i64 (q : Int))).toNat) := ⟨⟨q + 1, T, hlt, rfl, hB, fun j hj s hs ht => by
            by_cases e : j = q
            · subst e; exact absurd (hdx.out.symm.trans ht.1) hd0
            · exact HTq.out j (by omega) s hs ht, hb⟩, by simp only [intOf]; omega⟩
        clear hcw hd0 hB
        go_wp2
        exact hfin.out
    · obtain rfl : q = n := by omega
      have HW2 := HW.out.keep hb
      have HO2 := HO.out.keep hb
      have hTB : TrAt wr z 40 T := hB
      obtain ⟨W1, hW1⟩ : ∃ W, Hid (wr = W) := ⟨_, rfl⟩
      rw [hW1.out] at HW2 HO2 hTB hb ⊢
      clear hW1 hB
      go_wp2
      go_loopw [11] (fun i wy => ∃ k : Nat, k ≤ 40 ∧ i = .int .i64 (k : Int) ∧ Bw W1 wy) (fun i _ => 40 - (intOf i).toNat)
      case atStart => exact ⟨0, Nat.zero_le _, rfl, Bw.refl _⟩
      case round =>
        obtain ⟨k, hk, rfl, hbk⟩ := hrel
        have k0 : (0 : Int) ≤ (k : Int) := Int.natCast_nonneg _
        by_cases hlt40 : k < 40
        · have k1 : (k : Int) < 40 := by omega
          have bwd : Bw W1 wr.drew := hbk.trans ((Bw.refl _).drew)
          have ct := ((hTB.keep bwd).cell hlt40).1
          have hfin : Hid ((∃ k' : Nat, k' ≤ 40 ∧ Value.int .i64 ((k : Int) + 1) = .int .i64 (k' : Int) ∧ Bw W1 wr.drew) ∧ 40 - (intOf (.int .i64 ((k : Int) + 1))).toNat < 40 - (intOf (.int .i64 (k : Int))).toNat) := ⟨⟨k + 1, hlt40, rfl, bwd⟩, by simp only [intOf]; omega⟩
          cases hTk : T k
          · rw [hTk] at ct
            obtain ⟨p, hp⟩ : ∃ p, Hid (p = k * 64) := ⟨_, rfl⟩
            obtain ⟨r, hr⟩ : ∃ r, Hid (r = p + 64) := ⟨_, rfl⟩
            have p0 : IntKind.i64.wrap ((k : Int) * 64) = (p : Int) := by rw [hp.out, IntKind.wrap_i64]; omega
            have p4 : IntKind.i64.wrap ((k : Int) + 1) = (k : Int) + 1 := by rw [IntKind.wrap_i64]; omega
            have p5 : IntKind.i64.wrap (((k : Int) + 1) * 64) = (r : Int) := by rw [hr.out, hp.out, IntKind.wrap_i64]; omega
            have p1 : (p : Int) ≤ (r : Int) := by have := hr.out; omega
            have p2 : ¬ 2560 = p := by have := hp.out; omega
            have p3 : (0 : Int) ≤ (p : Int) := Int.natCast_nonneg _
            have p6 : (r : Int) ≤ 2560 := by have := hp.out; have := hr.out; omega
            have hrp : r - p = 64 := by have := hr.out; omega
            have cw : (convert 33 9 (.slice (some ⟨b1, p, none⟩) (r - p) (2560 - p))).run Try.prog wr.drew = .ok (.string (str (fun i => WAS (p + i)) 64)) wr.drew := by
              rw [hrp]; exact conv_row (BlkT.row (t := 5) (HW2.keep bwd) wb (o := p) (n := 64) (by have := hp.out; omega))
            have co : (convert 33 9 (.slice (some ⟨b2, p, none⟩) (r - p) (2560 - p))).run Try.prog wr.drew = .ok (.string (str (fun i => WAS (p + i)) 64)) wr.drew := by
              rw [hrp, conv_row (BlkT.row (t := 5) (HO2.keep bwd) ob (o := p) (n := 64) (by have := hp.out; omega))]
              have : str (fun i => OUT (p + i)) 64 = str (fun i => WAS (p + i)) 64 := by
                unfold str
                rw [List.map_congr_left (fun i hi => ?_)]
                have hi' := List.mem_range.1 hi
                have := HT.out k hlt40 (fun j hj ht => by have := HTq.out j hj k hlt40 ht; rw [hTk] at this; cases this) i hi'
                rw [hp.out, show k * 64 + i = 64 * k + i by omega]
                exact this
              rw [this]
            clear hrp
            go_wp2
            go_region
            go_wp2
            exact hfin.out
          · rw [hTk] at ct
            go_wp2
            go_region
            go_wp2
            exact hfin.out
        · have k1 : ¬ (k : Int) < 40 := by omega
          go_wp2
          go_ret
          exact ⟨rfl, hb.trans hbk⟩
end Go.Proofs.Ytmmpignjihbbpaa
