/- Layer 14: the program's Rot. -/
import Derived.Test.YtmmpignjihbbpaaC9
namespace Go.Proofs.Ytmmpignjihbbpaa
open Go.RowKit Go.Deep Go.Maps
set_option linter.unusedVariables false
set_option linter.unusedSimpArgs false

/-- two bytes, bit by bit unlike -/
def x8 (a b : Int) : Int := ((a.toNat ^^^ b.toNat : Nat) : Int)
theorem x8_bits {a b : Int} (ha : 0 ≤ a ∧ a < 256) (hb : 0 ≤ b ∧ b < 256) : bits .xor .u8 a b = x8 a b := by
  obtain ⟨x, rfl⟩ : ∃ x : Nat, a = (x : Int) := ⟨a.toNat, by omega⟩
  obtain ⟨y, rfl⟩ : ∃ y : Nat, b = (y : Int) := ⟨b.toNat, by omega⟩
  exact u8_xor_nat x y (by omega) (by omega)
theorem x8_bd {a b : Int} (ha : 0 ≤ a ∧ a < 256) (hb : 0 ≤ b ∧ b < 256) : 0 ≤ x8 a b ∧ x8 a b < 256 := by
  unfold x8
  have h1 : a.toNat ^^^ b.toNat < 2 ^ 8 := Nat.xor_lt_two_pow (by omega) (by omega)
  omega
/-- the byte at a place is changed -/
def rotF (f : Nat → Int) (j : Nat) (y : Int) (p : Nat) : Int := if p = j then x8 (f p) y else f p
theorem rotF_bd {f : Nat → Int} {j : Nat} {y : Int} (hf : ∀ i, 0 ≤ f i ∧ f i < 256) (hy : 0 ≤ y ∧ y < 256) (p : Nat) : 0 ≤ rotF f j y p ∧ rotF f j y p < 256 := by
  unfold rotF
  by_cases e : p = j
  · rw [if_pos e]; exact x8_bd (hf p) hy
  · rw [if_neg e]; exact hf p
def Dsk.rot (S : Dsk) (s c : Nat) (y : Int) : Dsk := { S with last := rotF S.last (64 * s + c) y, wait := rotF S.wait (64 * s + c) y }
/-- what Rot answers, and the disk behind it -/
def Dsk.rots (S : Dsk) (x z y : Int) : Int × Dsk := if 0 ≤ x ∧ x < S.n ∧ 0 ≤ z ∧ z < 64 then (0, S.rot x.toNat z.toNat y) else (1, S)
theorem rot_nil (w : World) (x z y : Int) : Calls Try.prog 24 #[.pointer none, .int .i64 x, .int .i64 z, .int .u8 y] w fun e w' => e = .returned (.int .i64 8) ∧ w' = w := by
  go_enter Try.func24, Try.ntmps24
  go_wp2
  go_ret
  exact ⟨rfl, rfl⟩
theorem rot_no {w : World} {g lb gm : Nat} {S : Dsk} (h : DiskAt w g lb gm S) (x z y : Int) (bx : x < 9223372036854775808) (hx : ¬ (0 ≤ x ∧ x < S.n ∧ 0 ≤ z ∧ z < 64)) :
    Calls Try.prog 24 #[.pointer (some ⟨g, 0, none⟩), .int .i64 x, .int .i64 z, .int .u8 y] w fun e w' => e = .returned (.int .i64 1) ∧ w' = w := by
  by_cases ht : S.There x 1
  · have HH := has_yes h x 1 ht
    by_cases h1 : z < 0
    · clear hx ht
      go_enter Try.func24, Try.ntmps24
      go_wp2_with (go_at_call 35; refine HH.mono ?_; rintro e w1 ⟨rfl, hw⟩; obtain rfl := hw.symm)
      go_ret
      exact ⟨rfl, rfl⟩
    · have h2 : 64 ≤ z := by have := ht.1; have := ht.2.2; omega
      clear hx ht
      go_enter Try.func24, Try.ntmps24
      go_wp2_with (go_at_call 35; refine HH.mono ?_; rintro e w1 ⟨rfl, hw⟩; obtain rfl := hw.symm)
      go_ret
      exact ⟨rfl, rfl⟩
  · have HH := has_no h x 1 bx ht
    clear hx ht
    go_enter Try.func24, Try.ntmps24
    go_wp2_with (go_at_call 35; refine HH.mono ?_; rintro e w1 ⟨rfl, hw⟩; obtain rfl := hw.symm)
    go_ret
    exact ⟨rfl, rfl⟩
set_option maxRecDepth 100000 in
theorem rot_ok {w : World} {g lb gm : Nat} {S : Dsk} (h : DiskAt w g lb gm S) (s c : Nat) (y : Int) (hy : 0 ≤ y ∧ y < 256) (hs : s < S.n) (hc : c < 64) :
    Calls Try.prog 24 #[.pointer (some ⟨g, 0, none⟩), .int .i64 (s : Int), .int .i64 (c : Int), .int .u8 y] w fun e w' => e = .returned (.int .i64 0) ∧ DiskAt w' g lb gm (S.rot s c y) ∧ Bx (dIn g lb gm) w w' := by
  have HH := has_yes h (s : Int) 1 ⟨Int.natCast_nonneg _, by decide, by omega⟩
  have hok := h.ok
  have hmn := hok.n1
  obtain ⟨T, hT⟩ : ∃ T, Hid (S.rot s c y = T) := ⟨_, rfl⟩
  have k0 : (0 : Int) ≤ (s : Int) := Int.natCast_nonneg _
  have k1 : (s : Int) < (S.n : Int) := by omega
  have k2 : (0 : Int) ≤ (c : Int) := Int.natCast_nonneg _
  have k3 : (c : Int) < 64 := by omega
  have hdd : DiskAt w.drew g lb gm S := h.keep ((Bw.refl w).drew)
  have c0 := hdd.c0
  have hcl := hdd.rows.cell (c := s * 64 + c) (by omega)
  have cl1 := hcl.1
  have cl2 := hcl.2
  have r1 : bits .xor .u8 (S.last (s * 64 + c)) y = x8 (S.last (s * 64 + c)) y := x8_bits (hok.lb _) hy
  rw [hT.out]
  have tbl : ∀ i, 0 ≤ T.last i ∧ T.last i < 256 := by rw [← hT.out]; exact fun i => rotF_bd hok.lb hy i
  have tbw : ∀ i, 0 ≤ T.wait i ∧ T.wait i < 256 := by rw [← hT.out]; exact fun i => rotF_bd hok.wb hy i
  go_enter Try.func24, Try.ntmps24
  go_wp2_with (go_at_call 35; refine HH.mono ?_; rintro e w1 ⟨rfl, hw⟩; obtain rfl := hw.symm)
  clear HH
  go_region
  obtain ⟨W1, hW1⟩ : ∃ W, Hid ((w.setCell ⟨lb, s * 64 + c, none⟩ (.int .u8 (x8 (S.last (s * 64 + c)) y))).drew = W) := ⟨_, rfl⟩
  have hx1' : Bx (· = lb) w W1 := by
    rw [← hW1.out]
    have h1 : Bx (· = lb) w (w.setCell ⟨lb, s * 64 + c, none⟩ (.int .u8 (x8 (S.last (s * 64 + c)) y))) := (Bx.refl _ w).put rfl
    exact h1.drew
  have hB1 : BlkT W1 lb 63 (64 * S.n) T.last := by
    rw [← hW1.out, ← hT.out]
    exact (h.rows.set (j := s * 64 + c) (f' := rotF S.last (64 * s + c) y) (by omega) (by show rotF _ _ _ _ = _; unfold rotF; rw [if_pos (by omega)]) (fun p hp hne => by show rotF _ _ _ _ = _; unfold rotF; rw [if_neg (by omega)])).keep ((Bw.refl _).drew)
  have hd1 := h.setLast hx1' hB1 tbl
  rw [hW1.out]
  clear hdd c0 hcl cl1 cl2 r1 h hB1
  have hx1 : Bx (dIn g lb gm) w W1 := hx1'.more (fun b e => dIn_l e)
  have c1 := hd1.c1
  have tok1 : Hid (g = g) := rfl
  have hlk := hd1.map.look_ok hok.wb hmn hs
  cases hi : S.is s
  · have hd2 : DiskAt W1 g lb gm T := hd1.congr (by rw [← hT.out]; rfl) (fun _ _ => rfl) (fun _ _ => by rw [← hT.out]; rfl) (fun x d hx hxi hd => by
      have hne : x ≠ s := fun e => by
        have hxi' : S.is x = true := hxi
        rw [e, hi] at hxi'; cases hxi'
      rw [← hT.out]
      show rotF S.wait (64 * s + c) y (64 * x + d) = _
      unfold rotF
      rw [if_neg (by omega)]) (by rw [← hT.out]; rfl) (by rw [← hT.out]; rfl) tbl tbw
    have hlk0 : (Instr.lookup 56 (.map (some gm)) (.int .i64 (s : Int)) true).run Try.prog W1 = .ok (.tuple #[.agg (secV (fun _ => 0) s), .bool false]) W1 := by
      rw [hlk]
      dsimp only
      rw [hi]; rfl
    clear hlk hd1
    go_wp2_with (first
      | (clear tok1; refine wpList_allocS (by rfl) (by rfl) ?_; intro W2 z1 hz1 hb2 hs2; have tok2 : Hid (g = g) := rfl)
      | (clear tok2; refine wpList_storeS (by rfl) _ _ (by rfl) z1 (fun _ => 0) (fun _ => 0) s 0 (by rfl) (by rfl) hs2 ?_; intro W3 hx3 hs3)
      | go_in)
    go_ret
    have bw := bw_bx hb2 hx3 hz1
    exact ⟨rfl, hd2.keep bw, hx1.trans (.of_bw bw)⟩
  · have hlk1 : (Instr.lookup 56 (.map (some gm)) (.int .i64 (s : Int)) true).run Try.prog W1 = .ok (.tuple #[.agg (secV S.wait s), .bool true]) W1 := by
      rw [hlk]
      dsimp only
      rw [hi]; rfl
    clear hlk
    have r1 : bits .xor .u8 (S.wait (64 * s + c)) y = x8 (S.wait (64 * s + c)) y := x8_bits (hok.wb _) hy
    go_wp2_with (first
      | (clear tok1; refine wpList_allocS (by rfl) (by rfl) ?_; intro W2 z1 hz1 hb2 hs2; have tok2 : Hid (g = g) := rfl)
      | (clear tok2; refine wpList_storeS (by rfl) _ _ (by rfl) z1 S.wait (fun _ => 0) s 0 (by rfl) (by rfl) hs2 ?_; intro W3 hx3 hs3; have z1c := (hs3.blk.cell hc).1; have z1f := (hs3.blk.cell hc).2)
      | go_in)
    obtain ⟨W4, hW4⟩ : ∃ W, Hid (W3.setCell ⟨z1, c, none⟩ (.int .u8 (x8 (S.wait (64 * s + c)) y)) = W) := ⟨_, rfl⟩
    have hx4 : Bx (· = z1) W3 W4 := by rw [← hW4.out]; exact (Bx.refl _ W3).put rfl
    have hs4 : SecAt W4 z1 T.wait s := by
      rw [← hW4.out, ← hT.out]
      refine SecAt.of (hs3.blk.set (f' := fun d => rotF S.wait (64 * s + c) y (64 * s + d)) hc ?_ (fun d _ hne => ?_)) (fun d _ => rfl)
      · show rotF _ _ _ _ = _
        unfold rotF; rw [if_pos rfl]
      · show rotF _ _ _ _ = _
        unfold rotF; rw [if_neg (by omega)]
    rw [hW4.out]
    have bw4 : Bw W1 W4 := bw_bx (bw_bx hb2 hx3 hz1) hx4 hz1
    have bw4d : Bw W1 W4.drew := bw4.trans ((Bw.refl W4).drew)
    have hd4 := hd1.keep bw4d
    have c1d := hd4.c1
    have hs3d : SecAt W4.drew z1 T.wait s := hs4.keep ((Bw.refl W4).drew)
    have hzm : gm < z1 := Nat.lt_of_lt_of_le hd1.map.lt hz1
    obtain ⟨W5, hup, hd5, hx5⟩ := hd4.putOne (x := s) (f := fun d => T.wait (64 * s + d)) (fun i => tbw _) T (by rw [← hT.out]; rfl) rfl (by rw [← hT.out]; rfl) (by rw [← hT.out]; rfl) hs (by rw [← hT.out]; exact hi) (fun _ _ => by rw [← hT.out]; rfl) (fun _ _ => rfl) (fun x d hx hd => by
      rw [← hT.out]
      show rotF S.wait (64 * s + c) y (64 * x + d) = _
      unfold rotF
      rw [if_neg (by omega)]) tbw
    rw [secV_congr (g := T.wait) (t := s) (fun d _ => by rw [Nat.mul_zero, Nat.zero_add])] at hup
    clear z1c z1f hs4 hs3 hx3 hs2 hb2 hd4 r1 hlk1 c1
    refine wp_region_held_drew (S := fun w' => w'.cell? ⟨g, 1, none⟩ = some (.map (some gm)) ∧ SecAt w' z1 T.wait s) (by kernel_rfl) (⟨c1d, hs3d⟩) (fun hHeld => ?_)
    refine wpAnyH_take (i := 0) (v := ?_) rfl (by kernel_rfl) (by kernel_rfl) (by kernel_rfl) (fun _ _ _ h => h) (Or.inl ⟨by rfl, ?_⟩) (by assumption) ?_
    rotate_left
    · intro w hSw; (try dsimp only at hSw); obtain ⟨s0, s1⟩ := hSw; go_simp; all_goals (with_reducible rfl)
    try simp only [Act.put, List.setIfInBounds_toArray, List.set_cons_zero, List.set_cons_succ, List.getElem_toArray, List.getElem_cons_succ, List.getElem_cons_zero]
    refine wpAnyH_take (i := 1) (v := ?_) rfl (by kernel_rfl) (by kernel_rfl) (by kernel_rfl) (fun _ _ _ h => h) (Or.inl ⟨by rfl, ?_⟩) (by assumption) ?_
    rotate_left
    · intro w hSw; (try dsimp only at hSw); obtain ⟨s0, s1⟩ := hSw; go_simp; all_goals (with_reducible rfl)
    try simp only [Act.put, List.setIfInBounds_toArray, List.set_cons_zero, List.set_cons_succ, List.getElem_toArray, List.getElem_cons_succ, List.getElem_cons_zero]
    refine wpAnyH_take (i := 2) (v := ?_) rfl (by kernel_rfl) (by kernel_rfl) (by kernel_rfl) (fun _ _ _ h => h) (Or.inl ⟨by rfl, ?_⟩) (by assumption) ?_
    rotate_left
    · intro w hSw; (try dsimp only at hSw); obtain ⟨s0, s1⟩ := hSw; go_simp; all_goals (with_reducible rfl)
    try simp only [Act.put, List.setIfInBounds_toArray, List.set_cons_zero, List.set_cons_succ, List.getElem_toArray, List.getElem_cons_succ, List.getElem_cons_zero]
    refine wpAnyH_take (i := 3) (v := ?_) rfl (by kernel_rfl) (by kernel_rfl) (by kernel_rfl) (fun _ _ _ h => h) (Or.inl ⟨by rfl, ?_⟩) (by assumption) ?_
    rotate_left
    · intro w hSw; (try dsimp only at hSw); obtain ⟨s0, s1⟩ := hSw; go_simp; all_goals (with_reducible rfl)
    try simp only [Act.put, List.setIfInBounds_toArray, List.set_cons_zero, List.set_cons_succ, List.getElem_toArray, List.getElem_cons_succ, List.getElem_cons_zero]
    refine wpAnyH_take (i := 4) (v := ?_) rfl (by kernel_rfl) (by kernel_rfl) (by kernel_rfl) (fun _ _ _ h => h) (Or.inl ⟨by rfl, ?_⟩) (by assumption) ?_
    rotate_left
    · intro w hSw; (try dsimp only at hSw); obtain ⟨s0, s1⟩ := hSw; go_simp; all_goals (with_reducible rfl)
    try simp only [Act.put, List.setIfInBounds_toArray, List.set_cons_zero, List.set_cons_succ, List.getElem_toArray, List.getElem_cons_succ, List.getElem_cons_zero]
    refine wpAnyH_take (i := 5) rfl (by kernel_rfl) (by kernel_rfl) (by kernel_rfl) (fun _ _ _ h => h) (yieldsIf_load_mid (by rfl) 63 _ (by rfl) z1 0 (by rfl) (secV T.wait s).toList _ (fun w h => h.2.range1) Try.underlying63 rfl (by rw [Array.length_toList]; exact sizeS _ _)) (by assumption) ?_
    try simp only [Act.put, List.setIfInBounds_toArray, List.set_cons_zero, List.set_cons_succ, List.getElem_toArray, List.getElem_cons_succ, List.getElem_cons_zero]
    rw [Array.toArray_toList]
    refine wpAnyH_ready (rs := [6]) (by kernel_rfl) (by simp) ?_
    refine AllReadyH.cons rfl (fun K hK => ?_) AllReadyH.nil
    go_simp
    refine hK.out _ _ (⟨hd5.c1, hs3d.keepx hx5 (fun e => by omega)⟩) (fun hHeld => ?_)
    clear hK K
    try simp only [Act.put, List.setIfInBounds_toArray, List.set_cons_zero, List.set_cons_succ, List.getElem_toArray, List.getElem_cons_succ, List.getElem_cons_zero]
    refine wpAnyH_done (by kernel_rfl) ?_ _
    have hbx : Bx (dIn g lb gm) w W5 := (hx1.trans (.of_bw bw4d)).trans (hx5.more (fun b e => dIn_m e))
    clear hup hHeld c1d hs3d hx5 hd1
    go_wp2
    go_ret
    exact ⟨rfl, hd5, hbx⟩
theorem rot_any {w : World} {g lb gm : Nat} {S : Dsk} (h : DiskAt w g lb gm S) (x z y : Int) (bx : x < 9223372036854775808) (hy : 0 ≤ y ∧ y < 256) :
    Calls Try.prog 24 #[.pointer (some ⟨g, 0, none⟩), .int .i64 x, .int .i64 z, .int .u8 y] w fun e w' => e = .returned (.int .i64 (S.rots x z y).1) ∧ DiskAt w' g lb gm (S.rots x z y).2 ∧ Bx (dIn g lb gm) w w' := by
  unfold Dsk.rots
  by_cases hx : 0 ≤ x ∧ x < S.n ∧ 0 ≤ z ∧ z < 64
  · rw [if_pos hx]
    obtain ⟨s, rfl⟩ : ∃ s : Nat, x = (s : Int) := ⟨x.toNat, by omega⟩
    obtain ⟨c, rfl⟩ : ∃ c : Nat, z = (c : Int) := ⟨z.toNat, by omega⟩
    rw [Int.toNat_natCast, Int.toNat_natCast]
    exact rot_ok h s c y hy (by omega) (by omega)
  · rw [if_neg hx]
    exact (rot_no h x z y bx hx).mono fun e w' ⟨h1, h2⟩ => ⟨h1, by rw [h2]; exact h, by rw [h2]; exact Bx.refl _ _⟩
end Go.Proofs.Ytmmpignjihbbpaa
