/- Texts of mine, put together. -/
import Derived.Test.YtbhbdhkifkmkbaaB9

set_option linter.unusedVariables false

/- The document's own Table; the statements' own spoilt, of layer 3. -/
namespace Go.Proofs.Ytbhbdhkifkmkbaa
open Go.RowKit

theorem tabsays_le {k n x : Int} {kk : Nat} (h : TabSays k n x kk) : kk ≤ 32 := by
  rcases h with ⟨_, _, h⟩ | ⟨h, _, e⟩
  · omega
  · have := kn_ok h; omega
theorem encsays_le {k kk : Nat} {L : Nat → Nat} {N x : Int} (h : EncSays k L N x kk) : kk ≤ 32 := by
  rcases h with ⟨_, _, h⟩ | ⟨_, _, _, h⟩ | ⟨h, _, _, e⟩
  · omega
  · omega
  · have := kn_ok h; omega

set_option maxHeartbeats 2000000 in
theorem rtab_ok (k n : Nat) (hkn : KnWrong (k : Int) (n : Int) 0) (w : World) :
    Calls Try.prog 12 #[.int .i64 (k : Int), .int .i64 (n : Int)] w fun e w' => ∃ v R' C', e = .returned (.tuple #[v, .int .i64 0]) ∧ OwnMat w' w.heap.size v n R' (fun _ => k) C' (tabI k) ∧ Bw w w' := by
  obtain ⟨i0, hi0, hz0, hz1, hz2⟩ := info_parts info_u8
  obtain ⟨j0, hj0, hy0, hy1, hy2⟩ := info_parts info_row
  obtain ⟨n1, n2, n3⟩ := kn_ok hkn
  have HP : Hid (∀ i, i < k → 0 ≤ ((i : Nat) : Int) ∧ ((i : Nat) : Int) < 256) := fun i hi => by omega
  go_enter Try.func12, Try.ntmps12
  go_wp2_with (go_at_call 29; refine (rkn_any _ _ _).mono ?_; rintro e w' ⟨x, rfl, hx, hw'⟩; subst w'; obtain rfl := hx.unique hkn)
  go_loopw [7, 8] (fun v i wr => ∃ (t : Nat) (R' : Nat → Option Addr) (L' C' : Nat → Nat) (Z' : Nat → Nat → Int), t ≤ n ∧ i = .int .i64 t ∧ OwnMat wr w.heap.size v t R' L' C' Z' ∧ Hid (∀ r, r < t → L' r = k ∧ Z' r = tabI k r) ∧ Bw w wr) (fun _ i _ => n - (intOf i).toNat)
  case atStart => exact ⟨0, fun _ => none, fun _ => 0, fun _ => 0, tabI k, Nat.zero_le _, rfl, OwnMat.nil _ _ _ _ _ _, (fun r hr => by omega), Bw.refl _⟩
  case round =>
    rename World => wo
    obtain ⟨t, R', L', C', Z', ht, rfl, hmat, hsame, hwr⟩ := hrel
    by_cases hlt : t < n
    · have hsz := hwr.size
      have hmx2 : t + 1 ≤ maxLen := by unfold maxLen; omega
      go_wp2
      go_loopw [9, 10] (fun v i ws => ∃ j : Nat, j ≤ k ∧ i = .int .i64 j ∧ ws.ownsRow wo.heap.size 5 1 v j (cellsU (tabI k t) j) ∧ Bw wo ws) (fun _ i _ => k - (intOf i).toNat)
      case atStart => exact ⟨0, Nat.zero_le _, rfl, World.ownsRow_nil _ _ _ _, Bw.refl _⟩
      case round =>
        obtain ⟨j, hj, rfl, hown, hws⟩ := hrel
        by_cases hjn : j < k
        · have hmx : j + 1 ≤ maxLen := by unfold maxLen; omega
          go_wp2_with (first
            | (go_at_call 31; refine (rfirst_any k (by omega) _).mono ?_; rintro e w2 ⟨A2, cap2, rfl, hi2, hw2⟩)
            | (go_at_call 30; refine (rweight_any A2 k cap2 j (fun i => (i : Int)) (t : Int) _ hi2 HP hjn (by omega) (by omega) (by omega)).mono ?_; rintro e w3 ⟨rfl, hw3⟩; have b3 : Bw wr w3 := hw2.trans hw3; have hown3 := own_keep hown b3; have hs3 := (hws.trans b3).size; rw [tab_wgt (k := k) (i := t) (j := j) (by omega) (by omega) hjn])
            | (at_builtin; refine wpList_append_lies _ (by rfl) (.tmp 27) (.tmp 33) _ (by rfl) wo.heap.size 5 i0 _ 1 1 Try.underlying37 hi0 hz0 hz1 hz2 rfl (by omega) _ _ _ (by rfl) (hown3.alloc _) ⟨w3.heap.size, 0, none⟩ 1 1 [.int .u8 (tabI k t j)] (by rfl) (by rfl) (World.news_of_block (cs := #[.int .u8 (tabI k t j)]) (t := 5) (fr := (0, 0)) (heap_alloc_new w3 _)) (by simp [Value.oneCell']) (by omega) hmx (by omega) (by simp; omega) (w3.heap.size + 1) (by simp) ?_; intro gg c4 w4 hown4 hgrow4 hat hlt'))
          go_roundw
          case rel => exact ⟨j + 1, by omega, by go_num, by rw [cellsU_succ]; exact hown4, (Below.alloc (hws.trans b3) hs3 _).grown hgrow4 (by simp; omega) (own_ge hown3)⟩
          case measure => simp [intOf]; omega
        · have ek : k = j := by omega
          subst ek
          obtain ⟨A1, c1, rfl, hl1, hcc1, hrow1, hA1⟩ := row_of_own (fun i => tabI_bd _ _ _) hown
          have hssz := hws.size
          go_wp2_with (at_builtin; refine wpList_append_lies _ (by rfl) (.tmp 35) (.tmp 37) _ (by rfl) w.heap.size 37 j0 _ 1 24 Try.underlying22 hj0 hy0 hy1 hy2 rfl (by omega) _ _ _ (by rfl) ((own_keep hmat.own hws).alloc _) ⟨wr.heap.size, 0, none⟩ 1 1 [.slice A1 k c1] (by rfl) (by rfl) (World.news_of_block (cs := #[.slice A1 k c1]) (t := 37) (fr := (0, 0)) (heap_alloc_new wr _)) (by simp [Value.oneCell']) (by omega) hmx2 (by omega) (by simp; omega) (wr.heap.size + 1) (by simp) ?_; intro gg c2 w2 hown2 hgrow2 hat hlt')
          have hp := OwnMat.push hmat hws hsz hrow1 ⟨hl1, hcc1⟩ hA1 hgrow2 hat hown2
          go_roundw
          case rel => exact ⟨t + 1, _, _, _, _, by omega, by go_num, hp.1, same_upd (L := fun _ => k) (Z := tabI k) hsame, hwr.trans' hp.2⟩
          case measure => simp [intOf]; omega
    · have ek : n = t := by omega
      subst ek
      go_wp2
      go_ret2
      exact ⟨_, _, _, rfl, hmat.congr hsame, hwr⟩

theorem rtab_all (k n : Int) (w : World) :
    Calls Try.prog 12 #[.int .i64 k, .int .i64 n] w fun e w' => ∃ v x kk, e = .returned (.tuple #[v, .int .i64 x]) ∧ MatVal3 w' v kk (fun _ => k.toNat) (tabI k.toNat) ∧ TabSays k n x kk ∧ Bw w w' := by
  obtain ⟨x, hx⟩ := kn_some k n
  by_cases h0 : x = 0
  · subst h0
    have hk := kn_ok hx
    obtain ⟨k', rfl⟩ := Int.eq_ofNat_of_zero_le (show 0 ≤ k by omega)
    obtain ⟨n', rfl⟩ := Int.eq_ofNat_of_zero_le (show 0 ≤ n by omega)
    refine (rtab_ok k' n' hx w).mono ?_
    rintro e w' ⟨v, R', C', he, hm, hw⟩
    exact ⟨v, 0, n', he, hm.val3, Or.inr ⟨hx, rfl, rfl⟩, hw⟩
  · have e2 : (x != 0) = true := by simpa using h0
    go_enter Try.func12, Try.ntmps12
    go_wp2_with (go_at_call 29; refine (rkn_any _ _ _).mono ?_; rintro e w' ⟨y, rfl, hy, hw'⟩; subst w'; obtain rfl := hy.unique hx)
    go_ret2
    exact ⟨_, _, 0, rfl, val3_none _ _ _, Or.inl ⟨hx, h0, rfl⟩, Bw.refl _⟩

section
attribute [local go_sem ↓] Go.wp_at_zero Go.wp_at_succ
set_option maxRecDepth 100000 in
set_option maxHeartbeats 2000000 in
theorem spoilt3_any (A : Option Addr) (n cap : Nat) (S : Nat → Prop) (R : Nat → Option Addr) (L C : Nat → Nat) (hn : n ≤ 140737488355328) (hL : ∀ r, r < n → L r ≤ 140737488355328) (w : World) (h : MatW w S A n R L C) :
    Calls Try.prog 16 #[.slice A n cap] w fun e w' => e = .returned (.tuple #[]) ∧ Bx S w w' := by
  go_enter Try.func16, Try.ntmps16
  go_wp2
  go_loopw [2, 3] (fun i _ wr => ∃ k : Nat, k ≤ n ∧ i = .int .i64 k ∧ MatW wr S A n R L C ∧ Bx S w wr) (fun i _ _ => n - (intOf i).toNat)
  case atStart => exact ⟨0, Nat.zero_le _, rfl, h, Bx.refl _ _⟩
  case round =>
    rename World => wo
    obtain ⟨k, hk, rfl, hm, ho⟩ := hrel
    by_cases hlt : k < n
    · have hLk := hL k hlt
      go_wp2
      go_loopw [3] (fun i wr => ∃ j : Nat, j ≤ L k ∧ i = .int .i64 j ∧ MatW wr S A n R L C ∧ Bx S w wr) (fun i _ => L k - (intOf i).toNat)
      case atStart => exact ⟨0, Nat.zero_le _, rfl, hm, ho⟩
      case round =>
        obtain ⟨j, hj, rfl, hmr, hor⟩ := hrel
        obtain ⟨b1, o1, rfl, hb1, hc1⟩ : ∃ b off, A = some ⟨b, off, none⟩ ∧ ¬ S b ∧ ∀ r, r < n → wr.cell? ⟨b, off + r, none⟩ = some (.slice (R r) (L r) (C r)) := hmr.outer.resolve_left (by omega)
        have h1 := hc1 k hlt
        by_cases hjl : j < L k
        · obtain ⟨b2, o2, e2, hS, hc2⟩ := (hmr.row k hlt).resolve_left (by omega)
          obtain ⟨⟨x, hx, hxb⟩, hfx⟩ := hc2 j hjl
          rw [e2] at h1
          have hne : b1 ≠ b2 := fun e => hb1 (e ▸ hS)
          have ik : (k : Int) < (n : Int) := by omega
          have ij : (j : Int) < (L k : Int) := by omega
          have ik0 : (0 : Int) ≤ (k : Int) := Int.natCast_nonneg _
          have ij0 : (0 : Int) ≤ (j : Int) := Int.natCast_nonneg _
          clear hc1 hc2
          go_wp2
          have hnb : 0 ≤ bits BinOp.xor IntKind.u8 (if IntKind.u8.signed = true then -1 else IntKind.u8.max) x ∧ bits BinOp.xor IntKind.u8 (if IntKind.u8.signed = true then -1 else IntKind.u8.max) x < 256 := by
            rw [show (if IntKind.u8.signed = true then (-1 : Int) else IntKind.u8.max) = 255 from rfl, u8_xor 255 x (by decide) (by decide) hxb.1 hxb.2]
            have := Gf.xor_lt (255 : Int).toNat x.toNat (by decide) (by omega)
            omega
          go_region
          go_wp2
          go_roundw
          case rel => exact ⟨j + 1, by omega, by go_num, (hmr.put hnb hS).drew, (hor.put hS).drew⟩
          case measure => simp [intOf]; omega
        · have ej : L k = j := by omega
          go_wp2
          go_roundw
          case rel => exact ⟨k + 1, by omega, by go_num, hmr, hor⟩
          case measure => simp [intOf]; omega
    · have ek : n = k := by omega
      subst ek
      go_wp2
      go_end0
      exact ⟨rfl, ho⟩
end


end Go.Proofs.Ytbhbdhkifkmkbaa

/- The statements' own choice of numbers, and the shards taken at them. -/
namespace Go.Proofs.Ytbhbdhkifkmkbaa
open Go.RowKit

theorem own_set {W : World} {base : Nat} {e : TypeId} {s n : Nat} {v : Value} {xs : List Value} (h : W.ownsRow base e s v n xs) {b j : Nat} {x : Value} (hb : b < base) : (W.setCell ⟨b, j, none⟩ x).ownsRow base e s v n xs := by
  obtain ⟨h1, h2⟩ := h
  refine ⟨h1, ?_⟩
  rcases h2 with h | ⟨g, cap, cur, hv, hg, hc, hr⟩
  · exact Or.inl h
  · exact Or.inr ⟨g, cap, cur, hv, hg, (heap_setCell_other W _ _ _ (by simp only; omega)).trans hc, hr⟩

theorem own_less {W : World} {base base' : Nat} {e : TypeId} {s n : Nat} {v : Value} {xs : List Value} (h : W.ownsRow base e s v n xs) (hb : base' ≤ base) : W.ownsRow base' e s v n xs := by
  obtain ⟨h1, h2⟩ := h
  refine ⟨h1, ?_⟩
  rcases h2 with h | ⟨g, cap, cur, hv, hg, hr⟩
  · exact Or.inl h
  · exact Or.inr ⟨g, cap, cur, hv, Nat.le_trans hb hg, hr⟩

theorem ints_upd (g : Nat → Int) (c : Nat) (x : Int) : intsU (upd g c x) (c + 1) = intsU g c ++ [.int .i64 x] := by
  rw [intsU_succ, upd_at]
  congr 1
  unfold intsU
  refine List.map_congr_left fun i hi => ?_
  rw [upd_ne _ _ (by have := List.mem_range.1 hi; omega)]

/-- numbers that are being chosen -/
structure ChW (W : World) (g0 : Nat) (v : Value) (n c : Nat) (g : Nat → Int) (m : Nat → Bool) : Prop where
  met : MetIs W g0 m
  own : W.ownsRow (g0 + 1) 3 1 v c (intsU g c)
  good : Good c (n : Int) g
  iff : ∀ j, j < 32 → (m j = true ↔ ∃ s, s < c ∧ g s = (j : Int))

theorem ChW.add {W w2 : World} {g0 : Nat} {v v' : Value} {n c p : Nat} {g : Nat → Int} {m : Nat → Bool} (h : ChW W g0 v n c g m) (hp : p < n) (hn : n ≤ 32) (hm : m p = false) {o : Obj} (hgrow : ((W.setCell ⟨g0, p, none⟩ (.bool true)).alloc o).grownBy w2 v.ownBlock)
    (hown : w2.ownsRow (g0 + 1) 3 1 v' (c + 1) (intsU g c ++ [.int .i64 (p : Int)])) : ChW w2 g0 v' n (c + 1) (upd g c (p : Int)) (upd m p true) := by
  refine ⟨?_, by rw [ints_upd]; exact hown, fun i hi => ?_, fun j hj => ?_⟩
  · obtain ⟨cur, h1, h2⟩ := h.met.set (j := p) (by omega)
    have hl := (Array.getElem?_eq_some_iff.1 h1).1
    refine ⟨cur, ?_, h2⟩
    rw [hgrow.block g0 (by rw [size_alloc]; omega) (fun e => ?_)]
    · exact (heap_alloc_old _ _ hl).trans h1
    · have := own_ge h.own g0 e.symm; omega
  · by_cases e : i = c
    · subst e
      rw [upd_at]
      refine ⟨by omega, fun j hj he => ?_⟩
      rw [upd_ne _ _ (by omega)] at he
      have := (h.iff p (by omega)).2 ⟨j, hj, he⟩
      rw [hm] at this; cases this
    · rw [upd_ne _ _ e]
      have := h.good i (by omega)
      refine ⟨this.1, fun j hj => ?_⟩
      rw [upd_ne _ _ (by omega)]
      exact this.2 j hj
  · by_cases e : j = p
    · subst e
      rw [upd_at]
      exact ⟨fun _ => ⟨c, by omega, upd_at _ _ _⟩, fun _ => rfl⟩
    · rw [upd_ne _ _ e]
      refine ⟨fun h1 => ?_, fun ⟨s, hs, hgs⟩ => ?_⟩
      · obtain ⟨s, hs, hgs⟩ := (h.iff j hj).1 h1
        exact ⟨s, by omega, by rw [upd_ne _ _ (by omega)]; exact hgs⟩
      · by_cases e2 : s = c
        · subst e2; rw [upd_at] at hgs; omega
        · rw [upd_ne _ _ e2] at hgs
          exact (h.iff j hj).2 ⟨s, by omega, hgs⟩

/-- who was not left out -/
theorem ChW.full {W : World} {g0 : Nat} {v : Value} {n c : Nat} {g : Nat → Int} {m : Nat → Bool} (h : ChW W g0 v n c g m) (hn : n ≤ 32) (hall : ∀ j, j < n → m j = true) : n ≤ c := by
  have hs : ∀ j, ∃ s, j < n → s < c ∧ g s = (j : Int) := fun j => by
    by_cases hj : j < n
    · obtain ⟨s, hs⟩ := (h.iff j (by omega)).1 (hall j hj)
      exact ⟨s, fun _ => hs⟩
    · exact ⟨0, fun h => absurd h hj⟩
  refine La.pigeon c n (fun j => Classical.choose (hs j)) (fun j hj => (Classical.choose_spec (hs j) hj).1) (fun i j hi hj e => ?_)
  have h1 := (Classical.choose_spec (hs i) hi).2
  have h2 := (Classical.choose_spec (hs j) hj).2
  have e' : Classical.choose (hs i) = Classical.choose (hs j) := e
  rw [e', h2] at h1
  omega

theorem tmod_bd (a : Int) {n : Nat} (hn : 0 < n) : -(n : Int) < a.tmod (n : Int) ∧ a.tmod (n : Int) < (n : Int) := by
  have h := Int.natAbs_tmod a (n : Int)
  have h2 := Nat.mod_lt a.natAbs (show 0 < (n : Int).natAbs by omega)
  omega
theorem tmod_nat {a : Int} {n : Nat} (ha : 0 ≤ a) (hn : 0 < n) : ∃ y : Nat, a.tmod (n : Int) = (y : Int) ∧ y < n := by
  have h1 := tmod_bd a hn
  have h2 : 0 ≤ a.tmod (n : Int) := Int.tmod_nonneg (n : Int) ha
  exact ⟨(a.tmod (n : Int)).toNat, by omega, by omega⟩

set_option maxRecDepth 100000 in
set_option maxHeartbeats 2000000 in
theorem chosen_any (A : Option Addr) (l ca n most : Nat) (f : Nat → Int) (w : World) (ha : IntsAt w A l f) (hf : Hid (∀ i, -9223372036854775808 ≤ f i ∧ f i ≤ 9223372036854775807)) (hn0 : 0 < n) (hn : n ≤ 32) (hmost : most ≤ n) (hl : l ≤ 140737488355328) :
    Calls Try.prog 22 #[.slice A l ca, .int .i64 (n : Int), .int .i64 (most : Int)] w fun e w' => ∃ A' cap g, e = .returned (.slice A' most cap) ∧ IntsAt w' A' most g ∧ Good most (n : Int) g ∧ Bw w w' := by
  obtain ⟨i0, hi0, hz0, hz1, hz2⟩ := info_parts info_int
  have hnew := met_new w
  have hbw : Bw w (w.alloc (.cells (Array.replicate 32 (.bool false)) 59)) := (Below.refl _ _).alloc (Nat.le_refl _) _
  go_enter Try.func22, Try.ntmps22
  go_wp2
  go_loopw [7, 9] (fun v i wr => ∃ (t c : Nat) (g : Nat → Int) (m : Nat → Bool), t ≤ 64 ∧ t ≤ l ∧ c ≤ most ∧ i = .int .i64 t ∧ ChW wr w.heap.size v n c g m ∧ Bw w wr) (fun _ i _ => 64 - (intOf i).toNat)
  case atStart => exact ⟨0, 0, fun _ => 0, fun _ => false, by omega, by omega, by omega, rfl, ⟨hnew, World.ownsRow_nil _ _ _ _, (fun i hi => by omega), fun j hj => ⟨fun h => (by cases h), fun ⟨s, hs, _⟩ => by omega⟩⟩, hbw⟩
  case round =>
    obtain ⟨t, c, g, m, ht, htl, hcm, rfl, hch, hw⟩ := hrel
    obtain ⟨vA, vc, rfl, -, -, -⟩ := ints_of_own hch.own
    by_cases hlt : t < l ∧ t < 64 ∧ c < most
    · obtain ⟨b, o, rfl, hc⟩ := (ha.keep hw).resolve_left (by omega)
      have h1 := hc t hlt.1
      have t0 : (0 : Int) ≤ (t : Int) := Int.natCast_nonneg _
      have t1 : (t : Int) < (l : Int) := by omega
      have t2 : (t : Int) < 64 := by omega
      have t3 : (c : Int) < (most : Int) := by omega
      have n0 : (0 : Int) < (n : Int) := by omega
      have hft := hf.out t
      obtain ⟨z, hz⟩ : ∃ z, (f t).tmod (n : Int) = z := ⟨_, rfl⟩
      have hzb := tmod_bd (f t) (n := n) hn0
      rw [hz] at hzb
      obtain ⟨y, hy, hyn⟩ := tmod_nat (a := z + (n : Int)) (n := n) (by omega) hn0
      obtain ⟨m1, m2⟩ := hch.met.cell (c := y) (by omega)
      have y0 : (0 : Int) ≤ (y : Int) := Int.natCast_nonneg _
      have y1 : (y : Int) < 32 := by omega
      have nz : (n : Int) ≠ 0 := by omega
      have hmx : c + 1 ≤ maxLen := by unfold maxLen; omega
      have hsz := hw.size
      clear hc hft
      cases hm : m y with
      | true =>
        rw [hm] at m1
        go_wp2
        go_roundw
        case rel => exact ⟨t + 1, c, g, m, by omega, by omega, hcm, by go_num, hch, hw⟩
        case measure => simp [intOf]; omega
      | false =>
        rw [hm] at m1
        have hlt0 : w.heap.size < wr.heap.size := by obtain ⟨cur, h2, _⟩ := hch.met; exact (Array.getElem?_eq_some_iff.1 h2).1
        have hb1 : Bw w (wr.setCell ⟨w.heap.size, y, none⟩ (.bool true)) := Bw.put hw (Nat.le_refl _) _ _
        have hs1 : (wr.setCell ⟨w.heap.size, y, none⟩ (.bool true)).heap.size = wr.heap.size := by simp
        have ho1 := own_set (b := w.heap.size) (j := y) (x := .bool true) hch.own (by omega)
        have hnw : ((wr.setCell ⟨w.heap.size, y, none⟩ (.bool true)).alloc (.cells #[.int .i64 (y : Int)] 3)).heap[wr.heap.size]? = some (.cells #[.int .i64 (y : Int)] 3 (0, 0)) := by
          have := heap_alloc_new (wr.setCell ⟨w.heap.size, y, none⟩ (.bool true)) (.cells #[.int .i64 (y : Int)] 3)
          rwa [hs1] at this
        go_wp2_with (at_builtin; refine wpList_append_lies _ (by rfl) (.tmp 44) (.tmp 46) _ (by rfl) (w.heap.size + 1) 3 i0 _ 1 8 Try.underlying33 hi0 hz0 hz1 hz2 rfl (by omega) _ _ _ (by rfl) (ho1.alloc _) ⟨wr.heap.size, 0, none⟩ 1 1 [.int .i64 (y : Int)] (by rfl) (by rfl) (World.news_of_block (cs := #[.int .i64 (y : Int)]) (t := 3) (fr := (0, 0)) hnw) (by simp [Value.oneCell']) (by omega) hmx (by omega) (by simp; omega) (wr.heap.size + 1) (by simp) ?_; intro gg c2 w2 hown2 hgrow2 hat hlt')
        have hch2 := hch.add hyn hn hm hgrow2 hown2
        have hb2 : Bw w w2 := bw_grow hgrow2 (hb1.alloc (by rw [hs1]; exact hsz) _) (by simp; omega) (own_less (ho1.alloc (.cells #[.int .i64 (y : Int)] 3)) (Nat.le_succ _))
        go_roundw
        case rel => exact ⟨t + 1, c + 1, _, _, by omega, by omega, by omega, by go_num, hch2, hb2⟩
        case measure => simp [intOf]; omega
    · rcases (show ¬ (t : Int) < (l : Int) ∨ ((t : Int) < (l : Int) ∧ ¬ (t : Int) < 64) ∨ ((t : Int) < (l : Int) ∧ (t : Int) < 64 ∧ ¬ (c : Int) < (most : Int)) by omega) with h1 | ⟨h1, h2⟩ | ⟨h1, h2, h3⟩
      all_goals
        clear hlt
        go_wp2
        go_loopw [7, 11] (fun v i wr => ∃ (t c : Nat) (g : Nat → Int) (m : Nat → Bool), t ≤ n ∧ c ≤ most ∧ i = .int .i64 t ∧ ChW wr w.heap.size v n c g m ∧ Hid (∀ j, j < t → m j = true) ∧ Bw w wr) (fun _ i _ => n - (intOf i).toNat)
        case atStart => exact ⟨0, c, g, m, by omega, hcm, rfl, hch, (fun j hj => by omega), hw⟩
        case round =>
          clear hch hw
          obtain ⟨t2, c2, g2, m2, ht2, hcm2, rfl, hch2, hall, hw2⟩ := hrel
          obtain ⟨vA2, vc2, rfl, hin2, -, -⟩ := ints_of_own hch2.own
          by_cases hlt2 : t2 < n ∧ c2 < most
          · obtain ⟨m1, mf⟩ := hch2.met.cell (c := t2) (by omega)
            have y0 : (0 : Int) ≤ (t2 : Int) := Int.natCast_nonneg _
            have y1 : (t2 : Int) < 32 := by omega
            have y2 : (t2 : Int) < (n : Int) := by omega
            have y3 : (c2 : Int) < (most : Int) := by omega
            have hmx : c2 + 1 ≤ maxLen := by unfold maxLen; omega
            have hsz := hw2.size
            cases hm : m2 t2 with
            | true =>
              rw [hm] at m1
              go_wp2
              go_roundw
              case rel => exact ⟨t2 + 1, c2, g2, m2, by omega, hcm2, by go_num, hch2, (fun j hj => by by_cases e : j = t2; (subst e; exact hm); exact hall j (by omega)), hw2⟩
              case measure => simp [intOf]; omega
            | false =>
              rw [hm] at m1
              have hlt0 : w.heap.size < wr.heap.size := by obtain ⟨cur, h2, _⟩ := hch2.met; exact (Array.getElem?_eq_some_iff.1 h2).1
              have hb1 : Bw w (wr.setCell ⟨w.heap.size, t2, none⟩ (.bool true)) := Bw.put hw2 (Nat.le_refl _) _ _
              have hs1 : (wr.setCell ⟨w.heap.size, t2, none⟩ (.bool true)).heap.size = wr.heap.size := by simp
              have ho1 := own_set (b := w.heap.size) (j := t2) (x := .bool true) hch2.own (by omega)
              have hnw : ((wr.setCell ⟨w.heap.size, t2, none⟩ (.bool true)).alloc (.cells #[.int .i64 (t2 : Int)] 3)).heap[wr.heap.size]? = some (.cells #[.int .i64 (t2 : Int)] 3 (0, 0)) := by
                have := heap_alloc_new (wr.setCell ⟨w.heap.size, t2, none⟩ (.bool true)) (.cells #[.int .i64 (t2 : Int)] 3)
                rwa [hs1] at this
              go_wp2_with (at_builtin; refine wpList_append_lies _ (by rfl) (.tmp 65) (.tmp 67) _ (by rfl) (w.heap.size + 1) 3 i0 _ 1 8 Try.underlying33 hi0 hz0 hz1 hz2 rfl (by omega) _ _ _ (by rfl) (ho1.alloc _) ⟨wr.heap.size, 0, none⟩ 1 1 [.int .i64 (t2 : Int)] (by rfl) (by rfl) (World.news_of_block (cs := #[.int .i64 (t2 : Int)]) (t := 3) (fr := (0, 0)) hnw) (by simp [Value.oneCell']) (by omega) hmx (by omega) (by simp; omega) (wr.heap.size + 1) (by simp) ?_; intro gg cc3 w3 hown3 hgrow3 hat hlt')
              have hch3 := hch2.add hlt2.1 hn hm hgrow3 hown3
              have hb3 : Bw w w3 := bw_grow hgrow3 (hb1.alloc (by rw [hs1]; exact hsz) _) (by simp; omega) (own_less (ho1.alloc (.cells #[.int .i64 (t2 : Int)] 3)) (Nat.le_succ _))
              go_roundw
              case rel => exact ⟨t2 + 1, c2 + 1, _, _, by omega, by omega, by go_num, hch3, (fun j hj => by by_cases e : j = t2; (subst e; exact upd_at _ _ _); rw [upd_ne _ _ e]; exact hall j (by omega)), hb3⟩
              case measure => simp [intOf]; omega
          · have ec : c2 = most := by
              by_cases h4 : t2 < n
              · omega
              · have := hch2.full hn (fun j hj => hall.out j (by omega))
                omega
            subst ec
            rcases (show ¬ (t2 : Int) < (n : Int) ∨ ((t2 : Int) < (n : Int) ∧ ¬ (c2 : Int) < (c2 : Int)) by omega) with h4 | ⟨h4, h5⟩
            · go_wp2
              go_ret
              exact ⟨vA2, ⟨vc2, rfl⟩, g2, hin2, hch2.good, hw2⟩
            · go_wp2
              go_ret
              exact ⟨vA2, ⟨vc2, rfl⟩, g2, hin2, hch2.good, hw2⟩

theorem taken_any (A B : Option Addr) (n l ca cb : Nat) (R : Nat → Option Addr) (L C : Nat → Nat) (Z : Nat → Nat → Int) (f : Nat → Int) (w : World) (ha : MatAt w A n R L C Z) (hb : IntsAt w B l f) (hl : l ≤ 1048576) (hf : Hid (∀ i, i < l → 0 ≤ f i ∧ f i < (n : Int))) :
    Calls Try.prog 23 #[.slice A n ca, .slice B l cb] w fun e w' => ∃ A' cap, e = .returned (.slice A' l cap) ∧ MatAt w' A' l (fun i => R (f i).toNat) (fun i => L (f i).toNat) (fun i => C (f i).toNat) (fun i => Z (f i).toNat) ∧ Bw w w' := by
  obtain ⟨j0, hj0, hy0, hy1, hy2⟩ := info_parts info_row
  go_enter Try.func23, Try.ntmps23
  go_wp2
  go_loopw [5, 6] (fun v i wr => ∃ t : Nat, t ≤ l ∧ i = .int .i64 t ∧ wr.ownsRow w.heap.size 37 1 v t (rowsU (fun i => R (f i).toNat) (fun i => L (f i).toNat) (fun i => C (f i).toNat) t) ∧ Bw w wr) (fun _ i _ => l - (intOf i).toNat)
  case atStart => exact ⟨0, Nat.zero_le _, rfl, World.ownsRow_nil _ _ _ _, Bw.refl _⟩
  case round =>
    obtain ⟨t, ht, rfl, hown, hw⟩ := hrel
    by_cases hlt : t < l
    · obtain ⟨y, hy⟩ : ∃ y : Nat, f t = (y : Int) := ⟨(f t).toNat, by have := hf.out t hlt; omega⟩
      have hyn : y < n := by have := hf.out t hlt; omega
      have HY : Hid ((f t).toNat = y) := show (f t).toNat = y by omega
      obtain ⟨b1, o1, rfl, hc1⟩ := (ha.keep hw).at hyn
      have h1 := hc1 y hyn
      obtain ⟨b2, o2, rfl, hc2⟩ := (hb.keep hw).resolve_left (by omega)
      have h2 := hc2 t hlt
      rw [hy] at h2
      have t0 : (0 : Int) ≤ (t : Int) := Int.natCast_nonneg _
      have t1 : (t : Int) < (l : Int) := by omega
      have y0 : (0 : Int) ≤ (y : Int) := Int.natCast_nonneg _
      have y1 : (y : Int) < (n : Int) := by omega
      have hmx : t + 1 ≤ maxLen := by unfold maxLen; omega
      have hsz := hw.size
      clear hc1 hc2 hy
      go_wp2_with (at_builtin; refine wpList_append_lies _ (by rfl) (.tmp 13) (.tmp 21) _ (by rfl) w.heap.size 37 j0 _ 1 24 Try.underlying22 hj0 hy0 hy1 hy2 rfl (by omega) _ _ _ (by rfl) (hown.alloc _) ⟨wr.heap.size, 0, none⟩ 1 1 [.slice (R y) (L y) (C y)] (by rfl) (by rfl) (World.news_of_block (cs := #[.slice (R y) (L y) (C y)]) (t := 37) (fr := (0, 0)) (heap_alloc_new wr _)) (by simp [Value.oneCell']) (by omega) hmx (by omega) (by simp; omega) (wr.heap.size + 1) (by simp) ?_; intro gg cc w2 hv2 hgrow2 hat hlt')
      have hb2 : Bw w w2 := bw_grow hgrow2 (hw.alloc hsz _) (by simp; omega) (hown.alloc _)
      have e1 : rowsU (fun i => R (f i).toNat) (fun i => L (f i).toNat) (fun i => C (f i).toNat) (t + 1) = rowsU (fun i => R (f i).toNat) (fun i => L (f i).toNat) (fun i => C (f i).toNat) t ++ [.slice (R y) (L y) (C y)] := by
        rw [rowsU_succ, HY.out]
      rw [← e1] at hv2
      go_roundw
      case rel => exact ⟨t + 1, by omega, by go_num, hv2, hb2⟩
      case measure => simp [intOf]; omega
    · have ek : l = t := by omega
      subst ek
      obtain ⟨A1, c1, rfl, hm⟩ := mat_of_own (Z := fun i => Z (f i).toNat) hown (fun i hi => ((ha.keep hw).2 (f i).toNat (by have := hf.out i hi; omega)))
      go_wp2
      go_ret
      exact ⟨A1, c1, rfl, hm, hw⟩

end Go.Proofs.Ytbhbdhkifkmkbaa

/- Mul and Encode once more, with the room behind what they hand out. -/
namespace Go.Proofs.Ytbhbdhkifkmkbaa
open Go.RowKit

attribute [local go_sem ↓] Go.wp_at_zero Go.wp_at_succ

set_option maxRecDepth 100000 in
set_option maxHeartbeats 1000000 in
theorem mul_ok2 (A B : Option Addr) (n m q ca cb : Nat) (R S : Nat → Option Addr) (L C M D : Nat → Nat) (Z Y : Nat → Nat → Int) (w : World) (ha : MatAt w A n R L C Z) (hb : MatAt w B m S M D Y)
    (hx : Wrong n L 0) (hy : Wrong m M 0) (hcA : colsI n L = (m : Int)) (hcB : colsI m M = (q : Int)) :
    Calls Try.prog 28 #[.slice A n ca, .slice B m cb] w fun e w' => ∃ h0, e = .returned (.tuple #[.slice (some ⟨h0, 0, none⟩) n n, .int .i64 0]) ∧ MatRes w' w.heap.size (.slice (some ⟨h0, 0, none⟩) n n) n (fun _ => q) (prodZ m Z Y) ∧ Bw w w' := by
  obtain ⟨hn, -, -⟩ := wrong_ok hx
  obtain ⟨hm, -, -⟩ := wrong_ok hy
  obtain ⟨-, hLm⟩ := wrong_cols hx hcA
  obtain ⟨hq, hMq⟩ := wrong_cols hy hcB
  have hLm' : Hid (∀ r, r < n → L r = m) := hLm
  have hMq' : Hid (∀ r, r < m → M r = q) := hMq
  clear hLm hMq
  have hnq : n * q ≤ 32 * 131072 := Nat.mul_le_mul hn hq
  have e1 : (colsI n L != (m : Int)) = false := by rw [hcA]; simp
  have hcb := capZ_bd ha
  go_enter Try.func28, Try.ntmps28
  go_wp2_with (first
    | (go_at_call_of 39 (Value.slice A n ca); refine (wrong_any _ _ _ _ _ _ _ _ ha).mono ?_; rintro e w' ⟨x, rfl, hx', hw'⟩; subst w'; obtain rfl := Wrong.unique hx' hx)
    | (go_at_call_of 39 (Value.slice B m cb); refine (wrong_any _ _ _ _ _ _ _ _ hb).mono ?_; rintro e w' ⟨x, rfl, hx', hw'⟩; subst w'; obtain rfl := Wrong.unique hx' hy)
    | (go_at_call_of 40 (Value.slice A n ca); refine (columns_any _ _ _ _ _ _ _ _ ha).mono ?_; rintro e w' ⟨rfl, hw'⟩; subst w')
    | (go_at_call_of 40 (Value.slice B m cb); refine (columns_any _ _ _ _ _ _ _ _ hb).mono ?_; rintro e w' ⟨rfl, hw'⟩; subst w'; rw [hcB])
    | (go_at_call 41; refine (space_any n q (by omega) (by omega) (by omega) _).mono ?_; rintro e w1 ⟨g, h, rfl, d, hg, hh, hbw⟩))
  obtain ⟨P, d⟩ : ∃ P, Grid w1 g h n q P (fun _ _ => 0) := ⟨_, d⟩
  go_loopw [35] (fun i wr => ∃ k : Nat, k ≤ n ∧ i = .int .i64 k ∧ Grid wr g h n q P (wayM m (capZ n Z) Y k 0) ∧ Bw w wr) (fun i _ => n - (intOf i).toNat)
  case atStart => exact ⟨0, Nat.zero_le _, rfl, d.congr (fun r c => wayM_bd hcb _ _ _ _) (fun r c _ _ => by unfold wayM; rw [if_neg (by omega)]; split <;> rfl), hbw⟩
  case round =>
    rename World => wo
    obtain ⟨k, hk, rfl, dk, hbk⟩ := hrel
    have hao := ha.keep hbk
    by_cases hlt : k < n
    · have hLk := hLm'.out k hlt
      obtain ⟨b1, o1, e2, hc1⟩ := hao.at hlt
      have h1 := hc1 k hlt
      rw [hLk] at h1
      have hrow := ha.2 k hlt
      rw [hLk] at hrow
      have k0 : (0 : Int) ≤ (k : Int) := Int.natCast_nonneg _
      have k1 : (k : Int) < (n : Int) := by omega
      subst e2
      clear hc1 hLk hao
      generalize R k = RK at h1 hrow
      go_wp2
      go_loopw [42] (fun i wr => ∃ t : Nat, t ≤ m ∧ i = .int .i64 t ∧ Grid wr g h n q P (wayM m (capZ n Z) Y k t) ∧ Bw w wr) (fun i _ => m - (intOf i).toNat)
      case atStart => exact ⟨0, Nat.zero_le _, rfl, dk, hbk⟩
      case round =>
        obtain ⟨t, ht, rfl, dt, hbt⟩ := hrel
        by_cases htm : t < m
        · obtain ⟨b3, o3, e3, hc3⟩ := (hrow.keep hbt).at htm
          have h3 := hc3 t htm
          have z3 := hrow.2 t
          have hMt := hMq'.out t htm
          obtain ⟨b4, o4, e4, hc4⟩ := (hb.keep hbt).at htm
          have h4 := hc4 t htm
          rw [hMt] at h4
          have hr4 := hb.2 t htm
          rw [hMt] at hr4
          have hdis : ∀ a, S t = some a → a.block ≠ g ∨ a.off + q ≤ P k * q ∨ P k * q + q ≤ a.off := by
            intro a e
            by_cases h0 : q = 0
            · subst h0; right; right; rw [Nat.mul_zero]; omega
            · left
              obtain ⟨b, o, e', hc⟩ := hr4.at (k := 0) (by omega)
              have := block_lt_of_cell (hc 0 (by omega))
              rw [e] at e'; cases e'; simp only at this ⊢; omega
          obtain ⟨c1, -⟩ := dt.head hlt
          have hrb := hr4.keep hbt
          have t0 : (0 : Int) ≤ (t : Int) := Int.natCast_nonneg _
          have t1 : (t : Int) < (m : Int) := by omega
          subst e3
          subst e4
          clear hc3 hc4 hMt
          have dt' : Grid wr.drew g h n q P (wayM m (capZ n Z) Y k t) := ⟨dt.heads, dt.cells, dt.lt, dt.inj, dt.ne, dt.bd⟩
          have hbt' : Bw w wr.drew := hbt.drew
          go_wp2
          go_region_with (go_at_call 43; refine (add_grid (by omega) (by omega) dt' hlt (by omega) hrb.drew hdis).mono ?_; rintro e w3 ⟨rfl, d3, hx3⟩)
          all_goals
            go_wp2
            go_roundw
            case rel =>
              refine ⟨t + 1, by omega, by go_num, d3.congr (fun r c => wayM_bd hcb _ _ _ _) (fun r c _ _ => ?_), Below.trans hbt' (hx3.below hbt'.size (fun b e => by omega))⟩
              rw [wayM_term, capZ_at hlt]
            case measure => simp [intOf]; omega
        · have ek : m = t := by omega
          subst ek
          go_wp2
          go_roundw
          case rel => exact ⟨k + 1, by omega, by go_num, dt.congr (fun r c => wayM_bd hcb _ _ _ _) (fun r c _ _ => wayM_row _ _ _ _ _ _), hbt⟩
          case measure => simp [intOf]; omega
    · have ek : n = k := by omega
      subst ek
      go_wp2
      go_ret2
      refine ⟨_, rfl, (dk.new hg hh).congr (fun r hr => ?_), hbk⟩
      funext c
      unfold wayM prodZ
      rw [if_pos hr, capZ_at hr]


set_option maxRecDepth 100000 in
theorem enc_ok2 (A : Option Addr) (k n cap : Nat) (R : Nat → Option Addr) (L C : Nat → Nat) (Z : Nat → Nat → Int) (w : World) (h : MatAt w A k R L C Z) (hkn : KnWrong (k : Int) (n : Int) 0) (hrw : RowsWrong k L 0) :
    Calls Try.prog 14 #[.slice A k cap, .int .i64 (n : Int)] w fun e w' => ∃ h0 R' C', e = .returned (.tuple #[.slice (some ⟨h0, 0, none⟩) n n, .int .i64 0]) ∧ NewMat w' w.heap.size (some ⟨h0, 0, none⟩) n R' (fun _ => L 0) C' (wordI k Z) ∧ Bw w w' := by
  obtain ⟨n1, n2, n3⟩ := kn_ok hkn
  obtain ⟨l1, l2⟩ := rows_ok hrw
  have wn : Hid (Wrong n (fun _ => k) 0) := wrong_lit (c := k) (by omega) (by omega) (fun _ => rfl)
  have wk : Hid (Wrong k L 0) := show Wrong k L 0 from Or.inr (Or.inr ⟨rfl, by omega, l1, l2⟩)
  clear l1 l2
  go_enter Try.func14, Try.ntmps14
  go_wp2_with (first
    | (go_at_call 11; refine (tab_ok k n hkn _).mono ?_; rintro e w1 ⟨v1, rfl, hr1, hw1⟩; obtain ⟨A1, cap1, R1, C1, rfl, hm1⟩ := hr1; have h1 := h.keep hw1)
    | (go_at_call 32; refine (rows_any A k cap R L C Z (by omega) _ h1).mono ?_; rintro e w' ⟨y, rfl, hy, hw'⟩; subst w'; obtain rfl := hy.unique hrw)
    | (go_at_call 28; refine (mul_ok2 A1 A n k (L 0) _ _ R1 R _ _ _ _ _ Z _ hm1.mat h1 wn.out wk.out (cols_const (by omega) rfl) (cols_const (by omega) rfl)).mono ?_; rintro e w3 ⟨h3, rfl, hr3, hw3⟩))
  go_ret2
  have hs := hw1.size
  obtain ⟨A', cap', R', C', hv, hm⟩ := (hr3.below hs).vals (Z' := wordI k Z) (fun r _ c => wordI_bd _ _ _ _) (fun r hr c hc => (word_math (fun j _ => rfl) (fun j => tabI_bd _ _ _) (fun j hj => (h.2 j hj).2 c)).symm)
  cases hv
  exact ⟨h3, R', C', rfl, hm, hw1.trans hw3⟩

end Go.Proofs.Ytbhbdhkifkmkbaa

/- A copy whose rows lie apart, and numbers of it written over. -/
namespace Go.Proofs.Ytbhbdhkifkmkbaa
open Go.RowKit

/-- rows in blocks of their own -/
def ApartRows (n : Nat) (R : Nat → Option Addr) : Prop := ∀ r s a b, r < s → s < n → R r = some a → R s = some b → a.block ≠ b.block
theorem ApartRows.push {k hi : Nat} {R : Nat → Option Addr} {A1 : Option Addr} (h : ApartRows k R) (hR : ∀ r a, r < k → R r = some a → a.block < hi) (hA : ∀ a, A1 = some a → hi ≤ a.block) : ApartRows (k + 1) (upd R k A1) := by
  intro r s a b hrs hs ha hb
  rw [upd_ne _ _ (by omega)] at ha
  by_cases e : s = k
  · subst e
    rw [upd_at] at hb
    have h1 := hR r a (by omega) ha
    have h2 := hA b hb
    omega
  · rw [upd_ne _ _ e] at hb
    exact h r s a b hrs (by omega) ha hb
theorem ApartRows.ne {n : Nat} {R : Nat → Option Addr} (h : ApartRows n R) {r s : Nat} {a b : Addr} (hr : r < n) (hs : s < n) (hne : r ≠ s) (ha : R r = some a) (hb : R s = some b) : a.block ≠ b.block := by
  rcases Nat.lt_or_gt_of_ne hne with h1 | h1
  · exact h r s a b h1 hs ha hb
  · exact fun e => h s r b a h1 hr hb ha e.symm

set_option maxHeartbeats 1000000 in
theorem rcopied_apart (A : Option Addr) (n cap : Nat) (R : Nat → Option Addr) (L C : Nat → Nat) (Z : Nat → Nat → Int) (w : World) (h : MatAt w A n R L C Z) (hC : ∀ r, r < n → R r = none → C r = 0)
    (hL : ∀ r, r < n → L r ≤ 140737488351232) (hn : n ≤ 5000000000) :
    Calls Try.prog 13 #[.slice A n cap] w fun e w' => ∃ v R' C', e = .returned v ∧ OwnMat w' w.heap.size v n R' L C' Z ∧ FreeRows w' n R' ∧ ApartRows n R' ∧ Bw w w' := by
  obtain ⟨i0, hi0, hz0, hz1, hz2⟩ := info_parts info_u8
  obtain ⟨j0, hj0, hy0, hy1, hy2⟩ := info_parts info_row
  go_enter Try.func13, Try.ntmps13
  go_wp2
  go_loopw [3, 4] (fun v i wr => ∃ (k : Nat) (R' : Nat → Option Addr) (L' C' : Nat → Nat) (Z' : Nat → Nat → Int), k ≤ n ∧ i = .int .i64 k ∧ OwnMat wr w.heap.size v k R' L' C' Z' ∧ Hid (∀ r, r < k → L' r = L r ∧ Z' r = Z r) ∧ FreeRows wr k R' ∧ Hid (ApartRows k R') ∧ Bw w wr) (fun _ i _ => n - (intOf i).toNat)
  case atStart => exact ⟨0, fun _ => none, fun _ => 0, fun _ => 0, Z, Nat.zero_le _, rfl, OwnMat.nil _ _ _ _ _ _, (fun r hr => by omega), (fun r a hr => by omega), (show ApartRows 0 _ from fun r s a b h1 h2 => by omega), Bw.refl _⟩
  case round =>
    obtain ⟨k, R', L', C', Z', hk, rfl, hmat, hsame, hfree, hap, hw⟩ := hrel
    by_cases hlt : k < n
    · obtain ⟨b1, o1, rfl, hc1⟩ := (h.keep hw).at hlt
      have h1 := hc1 k hlt
      have hr := (h.2 k hlt).keep hw
      have hCk := hC k hlt
      have hLk := hL k hlt
      have hsz := hw.size
      have hmx : 0 + L k ≤ maxLen := by unfold maxLen; omega
      have hmx2 : k + 1 ≤ maxLen := by unfold maxLen; omega
      have hb1 : b1 < wr.heap.size := block_lt_of_cell h1
      have hZ := hr.2
      clear hc1
      go_wp2_with (first | (at_builtin; refine wpList_append_rowat _ (by rfl) (.tmp 12) (.tmp 16) _ (by rfl) wr.heap.size 5 i0 _ 1 Try.underlying37 hi0 hz0 hz1 hz2 rfl _ _ _ (by rfl) (own_empty wr wr.heap.size _ (Nat.le_refl _)) (R k) (L k) (C k) (Z k) (by rfl) (hr.keep ((Below.refl _ _).alloc (Nat.le_refl _) _)) hCk hmx (by omega) (by simp) ?_; intro v1 w1 hown1 hgrow1; simp only [Nat.zero_add, List.nil_append] at hown1; obtain ⟨A1, cap1, rfl, hl1, hc1, hrow1, hA1⟩ := row_of_own hZ hown1; have hfr1 := own_free hown1; have bw1 := bw_fresh hgrow1; have sz1 := bw1.size; clear hown1 hgrow1) | (at_builtin; refine wpList_append_lies _ (by rfl) (.tmp 11) (.tmp 18) _ (by rfl) w.heap.size 37 j0 _ 1 24 Try.underlying22 hj0 hy0 hy1 hy2 rfl (by omega) _ _ _ (by rfl) ((own_keep hmat.own bw1).alloc _) ⟨w1.heap.size, 0, none⟩ 1 1 [.slice A1 (L k) cap1] (by rfl) (by rfl) (World.news_of_block (cs := #[.slice A1 (L k) cap1]) (t := 37) (fr := (0, 0)) (heap_alloc_new w1 _)) (by simp [Value.oneCell']) (by omega) hmx2 (by omega) (by simp; omega) (w1.heap.size + 1) (by simp) ?_; intro gg c2 w2 hown2 hgrow2 hat hlt'))
      have hp := OwnMat.push hmat bw1 hsz hrow1 ⟨hl1, hc1⟩ hA1 hgrow2 hat hown2
      have hfp := hfree.push hmat bw1 hfr1 hA1 hgrow2
      have hap2 : Hid (ApartRows (k + 1) (upd R' k A1)) := ApartRows.push hap.out (fun r a hr ha => (hmat.apart r a hr ha).2.1) (fun a ha => (hA1 a ha).1)
      go_roundw
      case rel => exact ⟨k + 1, _, _, _, _, by omega, by go_num, hp.1, same_upd hsame, hfp, hap2, hw.trans' hp.2⟩
      case measure => simp [intOf]; omega
    · have ek : n = k := by omega
      subst ek
      go_wp2
      go_ret
      exact ⟨_, _, _, rfl, hmat.congr hsame, hfree, hap.out, hw⟩

/-- a matrix numbers of which are written over -/
structure SpW (W : World) (ob oo n q : Nat) (R : Nat → Option Addr) (C : Nat → Nat) (Z : Nat → Nat → Int) : Prop where
  mat : MatAt W (some ⟨ob, oo, none⟩) n R (fun _ => q) C Z
  free : FreeRows W n R
  apart : ApartRows n R
  outer : ∀ r a, r < n → R r = some a → a.block ≠ ob

theorem SpW.of_own {W : World} {base n q cap : Nat} {A : Option Addr} {R : Nat → Option Addr} {C : Nat → Nat} {Z : Nat → Nat → Int} (h : OwnMat W base (.slice A n cap) n R (fun _ => q) C Z) (f : FreeRows W n R) (a : ApartRows n R) (hn : 0 < n) : ∃ ob oo, A = some ⟨ob, oo, none⟩ ∧ base ≤ ob ∧ SpW W ob oo n q R C Z := by
  have hm := own_mat h
  obtain ⟨ob, oo, rfl, hc⟩ := hm.at (k := 0) hn
  have hg := own_ge h.own ob rfl
  exact ⟨ob, oo, rfl, hg, hm, f, a, fun r a' hr ha e => (h.apart r a' hr ha).2.2 (by rw [e]; rfl)⟩

theorem SpW.row {W : World} {ob oo n q : Nat} {R : Nat → Option Addr} {C : Nat → Nat} {Z : Nat → Nat → Int} (h : SpW W ob oo n q R C Z) {r p : Nat} (hr : r < n) (hp : p < q) : ∃ b o, R r = some ⟨b, o, none⟩ ∧ W.cell? ⟨b, o + p, none⟩ = some (.int .u8 (Z r p)) ∧ W.frozen? ⟨b, o + p, none⟩ = false := by
  obtain ⟨b, o, e, hc⟩ := (h.mat.2 r hr).at hp
  obtain ⟨cur, hcur⟩ := h.free r _ hr e
  exact ⟨b, o, e, hc p hp, frozen_of_row W b (o + p) cur _ hcur⟩

theorem SpW.put {W : World} {ob oo n q : Nat} {R : Nat → Option Addr} {C : Nat → Nat} {Z : Nat → Nat → Int} (h : SpW W ob oo n q R C Z) {r p b o : Nat} {x : Int} (hr : r < n) (hp : p < q) (hb : R r = some ⟨b, o, none⟩) (hx : 0 ≤ x ∧ x < 256) : SpW (W.setCell ⟨b, o + p, none⟩ (.int .u8 x)) ob oo n q R C (upd Z r (upd (Z r) p x)) := by
  obtain ⟨cur, hcur⟩ := h.free r _ hr hb
  have hcur' : W.heap[b]? = some (.cells cur 5 (0, 0)) := hcur
  have hset := heap_setCell_same W b (o + p) cur 5 (.int .u8 x) hcur'
  have hobb : b ≠ ob := h.outer r _ hr hb
  refine ⟨⟨?_, fun s hs => ?_⟩, fun s a hs ha => ?_, h.apart, h.outer⟩
  · rcases h.mat.1 with h0 | ⟨b0, o0, e0, hc0⟩
    · exact Or.inl h0
    · cases e0
      refine Or.inr ⟨ob, oo, rfl, fun s hs => ?_⟩
      rw [World.cell?_of_block (w := W) (a := ⟨ob, oo + s, none⟩) (heap_setCell_other W _ _ _ (fun e => hobb (by simpa using e.symm)))]
      exact hc0 s hs
  · by_cases e : s = r
    · subst e
      rw [upd_at]
      refine ⟨Or.inr ⟨b, o, hb, fun i hi => ?_⟩, fun i => ?_⟩
      · obtain ⟨b', o', e', hc'⟩ := (h.mat.2 s hs).at hi
        rw [hb] at e'; cases e'
        rw [cell_of_row _ b (o + i) _ _ _ hset]
        have hold := fun j hj => (cell_of_row W b (o + j) cur _ _ hcur').symm.trans (hc' j hj)
        by_cases ei : i = p
        · subst ei
          have hlt : o + i < cur.size := (Array.getElem?_eq_some_iff.1 (hold i hi)).1
          rw [Array.getElem?_setIfInBounds_self_of_lt hlt, upd_at]
        · rw [Array.getElem?_setIfInBounds_ne (by omega), hold i hi, upd_ne _ _ ei]
      · by_cases ei : i = p
        · subst ei; rw [upd_at]; exact hx
        · rw [upd_ne _ _ ei]; exact (h.mat.2 s hs).2 i
    · rw [upd_ne _ _ e]
      exact RowAt.set (h.mat.2 s hs) (fun a ha => h.apart.ne hs hr e ha hb)
  · obtain ⟨cur', hc'⟩ := h.free s a hs ha
    by_cases e : a.block = b
    · rw [e]; exact ⟨_, hset⟩
    · exact ⟨cur', (heap_setCell_other W _ _ _ e).trans hc'⟩

theorem cnt_le (p : Nat → Bool) (n b : Nat) (g : Nat → Int) (h : ∀ i, i < n → p i = true → ∃ s, s < b ∧ g s = (i : Int)) : cntB p n ≤ b := by
  obtain ⟨q, h1, h2⟩ := picks p n (cntB p n) (Nat.le_refl _)
  have hs : ∀ j, ∃ s, j < cntB p n → s < b ∧ g s = (q j : Int) := fun j => by
    by_cases hj : j < cntB p n
    · obtain ⟨s, hs⟩ := h (q j) (h2 j hj).1 (h2 j hj).2
      exact ⟨s, fun _ => hs⟩
    · exact ⟨0, fun h => absurd h hj⟩
  refine La.pigeon b (cntB p n) (fun j => Classical.choose (hs j)) (fun j hj => (Classical.choose_spec (hs j) hj).1) (fun i j hi hj e => ?_)
  have e1 := (Classical.choose_spec (hs i) hi).2
  have e2 := (Classical.choose_spec (hs j) hj).2
  have e' : Classical.choose (hs i) = Classical.choose (hs j) := e
  rw [e', e2] at e1
  have e3 : q i = q j := by omega
  rcases Nat.lt_trichotomy i j with h3 | h3 | h3
  · have := h1 i j h3 hj; omega
  · exact h3
  · have := h1 j i h3 hi; omega

/-- a word some numbers of which are spoilt, in at most n - k shards, is none -/
theorem spoilt_none {k n q p b : Nat} {g : Nat → Int} {Z Y : Nat → Nat → Int} (hk : k ≤ 32) (hn : n ≤ 32) (hkn : k ≤ n) (hp : p < q) (hb0 : 0 < b) (hb : b ≤ n - k) (hZ : ∀ j, j < k → ∀ c, 0 ≤ Z j c ∧ Z j c < 256) (hg : Good b (n : Int) g)
    (h1 : ∀ i, i < n → (∀ s, s < b → g s ≠ (i : Int)) → Y i p = wordI k Z i p) (h2 : ∀ s, s < b → Y (g s).toNat p ≠ wordI k Z (g s).toNat p) : ¬ ∃ D, WordOf k D n q (fun i => (i : Int)) Y := by
  rintro ⟨D, hD, hw⟩
  have hw' : ∀ i, i < n → wordI k D i p = Y i p := fun i hi => by
    have := hw i hi p hp
    rw [Int.toNat_natCast] at this
    exact this
  have hsame : ∀ r, r < k → Z r p = D r p := by
    intro r hr
    apply Classical.byContradiction
    intro hne
    have hfar := word_far (k := k) (n := n) (c := p) (by omega) (by omega) (fun j hj => hZ j hj p) (fun j hj => hD j hj p) hr hne (fun i => !decide (∃ s, s < b ∧ g s = (i : Int))) (fun i hi hl => by
      have hno : ¬ ∃ s, s < b ∧ g s = (i : Int) := by simpa using hl
      rw [hw' i hi, h1 i hi (fun s hs e => hno ⟨s, hs, e⟩)])
    have hc := cntB_not (fun i => decide (∃ s, s < b ∧ g s = (i : Int))) n
    have hle := cnt_le (fun i => decide (∃ s, s < b ∧ g s = (i : Int))) n b g (fun i _ h => by simpa using h)
    omega
  have hg0 := (hg 0 hb0).1
  refine h2 0 hb0 ?_
  rw [← hw' _ (by omega)]
  exact word_congr (fun j hj => (hsame j hj).symm)

theorem and127 : ∀ t : Nat, t < 32 → bits .and .i64 (t : Int) 127 = (t : Int) := by decide +kernel
theorem add_ne {a d : Int} (ha : 0 ≤ a ∧ a < 256) (hd : 0 < d ∧ d < 256) : addI a d ≠ a := by
  intro e
  have h1 : fi (addI a d) = La.ad (fi a) (fi d) := fi_add ha (by omega)
  rw [e] at h1
  have h2 : La.ad (fi a) (fi a) = La.ad (fi a) (La.ad (fi a) (fi d)) := by rw [← h1]
  rw [La.add_self, La.add_self_left] at h2
  have h3 := congrArg La.F8.v h2
  rw [fi_v (by omega)] at h3
  have h4 : (0 : Nat) = d.toNat := h3
  omega

end Go.Proofs.Ytbhbdhkifkmkbaa
