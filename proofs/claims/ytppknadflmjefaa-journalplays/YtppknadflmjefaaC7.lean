/- Layer 14: the program's Read. -/
import Derived.Test.YtppknadflmjefaaC6
namespace Go.Proofs.Ytppknadflmjefaa
open Go.RowKit Go.Deep Go.Maps
set_option linter.unusedVariables false
set_option linter.unusedSimpArgs false

/-- what Read answers -/
def Dsk.readE (S : Dsk) (x y : Int) : Int := if S.dead then 140 else if ¬ (0 ≤ x ∧ 0 ≤ y ∧ x + y ≤ S.n) then 1 else 0
theorem read_nil (w : World) (x y : Int) : Calls Try.prog 15 #[.pointer none, .int .i64 x, .int .i64 y] w fun e w' => e = .returned (.tuple #[.slice none 0 0, .int .i64 8]) ∧ w' = w := by
  have HP := powered_nil w
  go_enter Try.func15, Try.ntmps15
  go_wp2_with (go_at_call 40; refine HP.mono ?_; rintro e w1 ⟨rfl, hw⟩; obtain rfl := hw.symm)
  go_ret2
  exact ⟨rfl, rfl⟩
theorem read_bad {w : World} {g lb gm : Nat} {S : Dsk} (h : DiskAt w g lb gm S) (x y : Int) (bx : x < 9223372036854775808) (he : S.readE x y ≠ 0) :
    Calls Try.prog 15 #[.pointer (some ⟨g, 0, none⟩), .int .i64 x, .int .i64 y] w fun e w' => e = .returned (.tuple #[.slice none 0 0, .int .i64 (S.readE x y)]) ∧ w' = w := by
  cases hd : S.dead
  · have e1 : S.readE x y = 1 := by
      unfold Dsk.readE at he ⊢
      rw [hd] at he ⊢
      simp only [Bool.false_eq_true, if_false] at he ⊢
      split
      · rfl
      · rename_i h1; rw [if_neg h1] at he; exact absurd rfl he
    have ht : ¬ S.There x y := fun t => by
      unfold Dsk.readE at e1
      rw [hd, if_neg (by decide), if_neg (Decidable.not_not.2 ⟨t.1, t.2.1, t.2.2⟩)] at e1
      cases e1
    rw [e1]
    have HP := powered_yes h hd
    have HH := has_no h x y bx ht
    clear he e1 ht
    go_enter Try.func15, Try.ntmps15
    go_wp2_with (first
      | (go_at_call 40; refine HP.mono ?_; rintro e w1 ⟨rfl, hw⟩; obtain rfl := hw.symm)
      | (go_at_call 41; refine HH.mono ?_; rintro e w1 ⟨rfl, hw⟩; obtain rfl := hw.symm))
    go_ret2
    exact ⟨rfl, rfl⟩
  · have e1 : S.readE x y = 140 := by unfold Dsk.readE; rw [hd, if_pos rfl]
    rw [e1]
    have HP := powered_no h hd
    clear he e1
    go_enter Try.func15, Try.ntmps15
    go_wp2_with (go_at_call 40; refine HP.mono ?_; rintro e w1 ⟨rfl, hw⟩; obtain rfl := hw.symm)
    go_ret2
    exact ⟨rfl, rfl⟩
set_option maxRecDepth 100000 in
theorem read_ok {w : World} {g lb gm : Nat} {S : Dsk} (h : DiskAt w g lb gm S) (x k : Nat) (hd : S.dead = false) (hx : x + k ≤ S.n) :
    Calls Try.prog 15 #[.pointer (some ⟨g, 0, none⟩), .int .i64 (x : Int), .int .i64 (k : Int)] w fun e w' => ∃ b, e = .returned (.tuple #[.slice (some ⟨b, 0, none⟩) (k * 64) (k * 64), .int .i64 0]) ∧ w.heap.size ≤ b ∧ BlockIs w' b (k * 64) (fun i => S.read (64 * x + i)) ∧ Bw w w' := by
  have HP := powered_yes h hd
  have HH := has_yes h (x : Int) (k : Int) ⟨Int.natCast_nonneg _, Int.natCast_nonneg _, by omega⟩
  have hn := h.ok.n1
  obtain ⟨N, hN⟩ : ∃ N, Hid (k * 64 = N) := ⟨_, rfl⟩
  obtain ⟨M0, hM, hM0, hmk⟩ := made_bytes N (by have := hN.out; omega)
  rw [show ((N : Nat) : Int) = (k : Int) * 64 by have := hN.out; omega] at hmk
  have kb : (k : Int) ≤ 65536 := by omega
  have HM : Hid (∀ i, i < N → M0[i]? = some (.int .u8 0)) := hM0
  have k0 : (0 : Int) ≤ (k : Int) := Int.natCast_nonneg _
  have H : Hid (DiskAt w g lb gm S) := h
  have Hx : Hid (x + k ≤ S.n) := hx
  clear hM0 h hx
  rw [hN.out]
  go_enter Try.func15, Try.ntmps15
  go_wp2_with (first
    | (go_at_call 40; refine HP.mono ?_; rintro e w1 ⟨rfl, hw⟩; obtain rfl := hw.symm)
    | (go_at_call 41; refine HH.mono ?_; rintro e w1 ⟨rfl, hw⟩; obtain rfl := hw.symm))
  clear HP HH hmk
  obtain ⟨b0, hb0⟩ : ∃ b0, Hid (w.heap.size = b0) := ⟨_, rfl⟩
  obtain ⟨W0, hW0⟩ : ∃ W, Hid (w.alloc (.cells M0 5) = W) := ⟨_, rfl⟩
  have hB0 : BlockIs W0 b0 N (fun _ => 0) := by rw [← hW0.out, ← hb0.out]; exact ⟨M0, (Go.MapKept.heap_alloc _ _).1, hM, HM.out⟩
  have hw0 : Bw w W0 := by rw [← hW0.out]; exact Below.alloc (Bw.refl _) (Nat.le_refl _) _
  rw [hW0.out, hb0.out]
  clear HM hM
  go_loopw [26] (fun i wr => ∃ q : Nat, q ≤ k ∧ i = .int .i64 (q : Int) ∧ BlockIs wr b0 N (fun i => if i < 64 * q then S.read (64 * x + i) else 0) ∧ Bw w wr) (fun i _ => k - (intOf i).toNat)
  case atStart => exact ⟨0, Nat.zero_le _, rfl, hB0.congr (fun c _ => by rw [if_neg (by omega)]), hw0⟩
  case round =>
    obtain ⟨q, hq, rfl, hB, hb⟩ := hrel
    have q0 : (0 : Int) ≤ (q : Int) := Int.natCast_nonneg _
    by_cases hlt : q < k
    · have q1 : (q : Int) < (k : Int) := by omega
      have HR := readsas_any (H.out.keep hb) (s := x + q) (by have := Hx.out; omega)
      rw [show ((x + q : Nat) : Int) = (x : Int) + (q : Int) by omega] at HR
      have xb : (x : Int) ≤ 65536 := by have := Hx.out; omega
      have x0 : (0 : Int) ≤ (x : Int) := Int.natCast_nonneg _
      have tok1 : Hid (g = g) := rfl
      go_wp2_with (first
        | (go_at_call 42; refine HR.mono ?_; rintro e w1 ⟨rfl, hw1⟩)
        | (clear tok1; refine wpList_allocS (by rfl) (by rfl) ?_; intro W1 z1 hz1 hb1 hs1; have tok2 : Hid (g = g) := rfl)
        | (clear tok2; refine wpList_storeS (by rfl) _ _ (by rfl) z1 S.read (fun _ => 0) (x + q) 0 (by rfl) (by rfl) hs1 ?_; intro W2 hb2 hs2))
      obtain ⟨p, hp⟩ : ∃ p, Hid (p = q * 64) := ⟨_, rfl⟩
      have p0 : IntKind.i64.wrap ((q : Int) * 64) = (p : Int) := by rw [hp.out, IntKind.wrap_i64]; omega
      have p1 : (p : Int) ≤ (N : Int) := by have := hN.out; have := hp.out; omega
      have p2 : ¬ N = p := by have := hN.out; have := hp.out; omega
      have p3 : (0 : Int) ≤ (p : Int) := Int.natCast_nonneg _
      have bw2 : Bw wr W2 := bw_bx (hw1.trans hb1) hb2 (Nat.le_trans hw1.size hz1)
      have bw2d : Bw wr W2.drew := bw2.trans ((Bw.refl W2).drew)
      have hrd : RowAt W2.drew (some ⟨z1, 0, none⟩) 64 (fun i => S.read (64 * (x + q) + i)) := by
        have := (hs2.blk.keep ((Bw.refl W2).drew)).row (o := 0) (n := 64) (fun i => H.out.ok.read _) (by omega)
        simpa using this
      have hB2 : BlkT W2.drew b0 5 N (fun i => if i < 64 * q then S.read (64 * x + i) else 0) := hB.keep bw2d
      obtain ⟨W3, hcp, hbl3, hx3⟩ := copyT (w := W2.drew) p (N - p) (N - p) 64 64 64 3 hB2 (by have := hN.out; have := hp.out; omega) (by have := hN.out; have := hp.out; omega) hrd
      have hbw3 : Bw w W3 := bw_bx (hb.trans bw2d) hx3 (by rw [hb0.out]; exact Nat.le_refl _)
      have hB3 : BlockIs W3 b0 N (fun i => if i < 64 * (q + 1) then S.read (64 * x + i) else 0) := BlkT.congr hbl3 (fun c hc => by
        unfold cpyF
        have := hp.out
        by_cases e : p ≤ c ∧ c < p + 64
        · rw [if_pos e, if_pos (by omega)]; congr 1; omega
        · rw [if_neg e]
          show _ = if c < 64 * q then _ else _
          by_cases e2 : c < 64 * q
          · rw [if_pos e2, if_pos (by omega)]
          · rw [if_neg e2, if_neg (by omega)])
      clear hB2 hbl3 hx3 hrd bw2 bw2d hs2 hb2 hs1 hb1 hz1 hw1 HR hB hB0 hw0
      go_frame
      go_region
      clear hcp p0 p1 p2 p3
      go_wp2
      go_roundw
      case rel => exact ⟨q + 1, hlt, rfl, hB3, hbw3⟩
      case measure => simp only [intOf]; omega
    · obtain rfl : q = k := by omega
      go_wp2
      go_ret2
      exact ⟨b0, rfl, by rw [hb0.out]; exact Nat.le_refl _, hB.congr (fun c hc => by rw [if_pos (by have := hN.out; omega)]), hb⟩
end Go.Proofs.Ytppknadflmjefaa
