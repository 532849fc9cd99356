/- The contract of the document's own Pack. -/
import Derived.Test.YtcnafcoifhdigaaG4
namespace Go.Proofs.Ytcnafcoifhdigaa
open Go.RowKit Go.Deep
set_option linter.unusedVariables false
set_option linter.unusedSimpArgs false

/-- a slice's length, as a measure -/
def lenV : Value → Nat
  | .slice _ n _ => n
  | _ => 0

theorem rpack_long (K S H : Int) (A : Option Addr) (L ca : Nat) (w : World) (h : 96 < L) :
    Calls Try.prog 10 #[.agg #[.int .u64 K, .int .u32 S, .int .u8 H, .slice A L ca]] w fun e w' => e = .returned (.tuple #[.slice none 0 0, .int .i64 2]) ∧ Bw w w' := by
  go_enter Try.func10, Try.ntmps10
  go_wp2
  go_ret2
  exact ⟨rfl, Below.alloc (Bw.refl _) (Nat.le_refl _) _⟩

theorem body_mark (k s h L : Nat) (d : Nat → Int) : cellsU (Blk.body k s h L d) 4 = [.int .u8 84, .int .u8 66, .int .u8 76, .int .u8 75] := rfl
theorem body_key (k s h L : Nat) (d : Nat → Int) {t q : Nat} (ht : t < 8) (hq : 56 - 8 * (t : Int) = (q : Int)) : (k : Int) / 2 ^ q % 256 = Blk.body k s h L d (4 + t) := by
  have e : q = 8 * (7 - t) := by omega
  rw [e, shift_byte]
  unfold Blk.body Blk.hd Blk.byteOf
  rw [if_pos (by omega), if_neg (by omega), if_pos (by omega), Nat.add_sub_cancel_left, show 8 - 1 - t = 7 - t by omega]
theorem body_stripe (k s h L : Nat) (d : Nat → Int) {t q : Nat} (ht : t < 4) (hq : 24 - 8 * (t : Int) = (q : Int)) : (s : Int) / 2 ^ q % 256 = Blk.body k s h L d (12 + t) := by
  have e : q = 8 * (3 - t) := by omega
  rw [e, shift_byte]
  unfold Blk.body Blk.hd Blk.byteOf
  rw [if_pos (by omega), if_neg (by omega), if_neg (by omega), if_pos (by omega), Nat.add_sub_cancel_left, show 4 - 1 - t = 3 - t by omega]
theorem body_shard (k s h L : Nat) (d : Nat → Int) : Blk.body k s h L d 16 = (h : Int) := rfl
theorem body_len (k s h L : Nat) (d : Nat → Int) : Blk.body k s h L d 17 = (L : Int) := rfl
theorem body_nought (k s h L : Nat) (d : Nat → Int) {i : Nat} (h1 : 18 ≤ i) (h2 : i < 28) : Blk.body k s h L d i = 0 := by
  unfold Blk.body; rw [if_pos h2, hd_zero h1]; rfl
theorem body_data (k s h L : Nat) (d : Nat → Int) {i : Nat} (h2 : i < L) : Blk.body k s h L d (28 + i) = d i := by
  unfold Blk.body; rw [if_neg (by omega), if_pos (by omega), Nat.add_sub_cancel_left]
theorem body_tail (k s h L : Nat) (d : Nat → Int) {i : Nat} (h2 : 28 + L ≤ i) : Blk.body k s h L d i = 0 := by
  unfold Blk.body; rw [if_neg (by omega), if_neg (by omega)]

theorem own_lit4 (W : World) (B : Nat → Int) (hB : cellsU B 4 = [.int .u8 84, .int .u8 66, .int .u8 76, .int .u8 75]) : (W.alloc (.cells #[.int .u8 84, .int .u8 66, .int .u8 76, .int .u8 75] 5)).ownsRow W.heap.size 5 1 (.slice (some ⟨W.heap.size, 0, none⟩) 4 4) 4 (cellsU B 4) := by
  refine ⟨by rw [cellsU_len, Nat.mul_one], Or.inr ⟨W.heap.size, 4, _, rfl, Nat.le_refl _, heap_alloc_new _ _, Nat.le_refl _, by unfold maxLen; omega, rfl, ?_⟩⟩
  rw [hB]; rfl

set_option maxRecDepth 100000 in
set_option maxHeartbeats 2000000 in
theorem rpack_ok (k s h : Nat) (hk : k < 18446744073709551616) (hs : s < 4294967296) (hh : h < 256) (A : Option Addr) (L ca : Nat) (d : Nat → Int) (w : World) (hrow : RowAt w A L d) (hL : L ≤ 96) (hnil : A = none → ca = 0) :
    Calls Try.prog 10 #[.agg #[.int .u64 (k : Int), .int .u32 (s : Int), .int .u8 (h : Int), .slice A L ca]] w fun e w' => ∃ A' cap, e = .returned (.tuple #[.slice A' 128 cap, .int .i64 0]) ∧ RowAt w' A' 128 (sealF (Blk.body k s h L d) 124) ∧ Bw w w' := by
  obtain ⟨i0, hi0, hz0, hz1, hz2⟩ := info_parts info_u8
  have hL' : ¬ (96 : Int) < (L : Int) := by omega
  obtain ⟨W0, hW0⟩ : ∃ W0, W0 = w.alloc (.cells #[.int .u64 (k : Int), .int .u32 (s : Int), .int .u8 (h : Int), .slice A L ca] 26) := ⟨_, rfl⟩
  have hs0 : W0.heap.size = w.heap.size + 1 := by rw [hW0, size_alloc]
  have hal : Bw w W0 := by rw [hW0]; exact Below.alloc (Bw.refl _) (Nat.le_refl _) _
  have hb0 : W0.heap[w.heap.size]? = some (.cells #[.int .u64 (k : Int), .int .u32 (s : Int), .int .u8 (h : Int), .slice A L ca] 26 (0, 0)) := by rw [hW0]; exact heap_alloc_new _ _
  have c0 := cell_of_row W0 w.heap.size 0 _ _ _ hb0
  have c1 := cell_of_row W0 w.heap.size 1 _ _ _ hb0
  have c2 := cell_of_row W0 w.heap.size 2 _ _ _ hb0
  have c3 := cell_of_row W0 w.heap.size 3 _ _ _ hb0
  obtain ⟨B, hB⟩ : ∃ B, Hid (B = Blk.body k s h L d) := ⟨_, rfl⟩
  have hBb : Hid (∀ i, 0 ≤ B i ∧ B i < 256) := by show ∀ i, _; rw [hB.out]; exact Blk.body_bd hh (by omega) hrow.2
  have hown0 := own_lit4 W0 B (by rw [hB.out]; rfl)
  rw [hs0] at hown0
  have hC : Hid (∀ W, Bw W0 W → W.cell? ⟨w.heap.size, 0, none⟩ = some (.int .u64 (k : Int)) ∧ W.cell? ⟨w.heap.size, 1, none⟩ = some (.int .u32 (s : Int)) ∧ W.cell? ⟨w.heap.size, 2, none⟩ = some (.int .u8 (h : Int)) ∧ W.cell? ⟨w.heap.size, 3, none⟩ = some (.slice A L ca)) := fun W b => ⟨cell_later b c0, cell_later b c1, cell_later b c2, cell_later b c3⟩
  clear c0 c1 c2 hb0
  go_enter Try.func10, Try.ntmps10
  go_wp2
  rw [← hW0]
  clear hW0
  go_loopw [4, 5] (fun v i wr => ∃ t g cap : Nat, t ≤ 8 ∧ i = .int .i64 (56 - 8 * (t : Int)) ∧ v = .slice (some ⟨g, 0, none⟩) (4 + t) cap ∧ wr.ownsRow (w.heap.size + 1) 5 1 (.slice (some ⟨g, 0, none⟩) (4 + t) cap) (4 + t) (cellsU B (4 + t)) ∧ Bw W0 wr) (fun v _ _ => 12 - lenV v)
  case atStart => exact ⟨0, w.heap.size + 1, 4, Nat.zero_le _, rfl, rfl, hown0, Below.alloc (Bw.refl _) (Nat.le_refl _) _⟩
  case round =>
    obtain ⟨t, g, cap, ht, rfl, rfl, hown, hbw⟩ := hrel
    have szr := hbw.size
    rw [hs0] at szr
    by_cases hlt : t < 8
    · obtain ⟨q, hq⟩ : ∃ q : Nat, 56 - 8 * (t : Int) = (q : Int) := ⟨8 * (7 - t), by omega⟩
      have hval : Hid ((k : Int) / 2 ^ q % 256 = B (4 + t)) := by show _ = _; rw [hB.out]; exact body_key k s h L d hlt hq
      have q0 : (0 : Int) ≤ (q : Int) := Int.natCast_nonneg _
      have q1 : (q : Int) < 64 := by omega
      have hcc := (hC.out _ hbw).1
      have hk0 : (0 : Int) ≤ (k : Int) := Int.natCast_nonneg _
      clear hown0 c3
      go_wp2_with (at_builtin; refine wpList_append_lies _ (by rfl) (.tmp 16) (.tmp 22) _ (by rfl) (w.heap.size + 1) 5 i0 _ 1 1 Try.underlying24 hi0 hz0 hz1 hz2 rfl (by omega) _ _ _ (by rfl) (hown.alloc _) ⟨wr.heap.size, 0, none⟩ 1 1 [_] (by rfl) (by rfl) (World.news_of_block (cs := #[_]) (t := 5) (fr := (0, 0)) (heap_alloc_new wr _)) (by simp [Value.oneCell']) (by omega) (by unfold maxLen; omega) (by omega) (by simp; omega) (wr.heap.size + 1) (by simp) ?_; intro g4 c4 w4 hown4 hgrow4 hat4 hlt4)
      have hb4 : Bw W0 w4 := by
        have hx := bw_grow (W := W0) hgrow4 (Below.alloc (hs0 ▸ hbw) szr _) (by rw [size_alloc]; omega) (hown.alloc _)
        rwa [← hs0] at hx
      go_roundw
      case rel => exact ⟨t + 1, g4, c4, by omega, by go_num, rfl, by rw [show 4 + (t + 1) = 4 + t + 1 from rfl, cellsU_succ, ← hval.out]; exact hown4, hb4⟩
      case measure => simp [lenV]; omega
    · have e8 : t = 8 := by omega
      subst e8
      clear hown0 hlt ht
      rename World => w5
      go_wp2
      go_loopw [4, 6] (fun v i wr => ∃ t g cap : Nat, t ≤ 4 ∧ i = .int .i64 (24 - 8 * (t : Int)) ∧ v = .slice (some ⟨g, 0, none⟩) (12 + t) cap ∧ wr.ownsRow (w.heap.size + 1) 5 1 (.slice (some ⟨g, 0, none⟩) (12 + t) cap) (12 + t) (cellsU B (12 + t)) ∧ Bw W0 wr) (fun v _ _ => 16 - lenV v)
      case atStart => exact ⟨0, g, cap, Nat.zero_le _, rfl, rfl, hown, hbw⟩
      case round =>
        clear hown hbw szr
        obtain ⟨t, g, cap, ht, rfl, rfl, hown, hbw⟩ := hrel
        have szr := hbw.size
        rw [hs0] at szr
        by_cases hlt : t < 4
        · obtain ⟨q, hq⟩ : ∃ q : Nat, 24 - 8 * (t : Int) = (q : Int) := ⟨8 * (3 - t), by omega⟩
          have hval : Hid ((s : Int) / 2 ^ q % 256 = B (12 + t)) := by show _ = _; rw [hB.out]; exact body_stripe k s h L d hlt hq
          have q0 : (0 : Int) ≤ (q : Int) := Int.natCast_nonneg _
          have q1 : (q : Int) < 32 := by omega
          have hcc := (hC.out _ hbw).2.1
          have hk0 : (0 : Int) ≤ (s : Int) := Int.natCast_nonneg _
          clear c3
          go_wp2_with (at_builtin; refine wpList_append_lies _ (by rfl) (.tmp 28) (.tmp 34) _ (by rfl) (w.heap.size + 1) 5 i0 _ 1 1 Try.underlying24 hi0 hz0 hz1 hz2 rfl (by omega) _ _ _ (by rfl) (hown.alloc _) ⟨wr.heap.size, 0, none⟩ 1 1 [_] (by rfl) (by rfl) (World.news_of_block (cs := #[_]) (t := 5) (fr := (0, 0)) (heap_alloc_new wr _)) (by simp [Value.oneCell']) (by omega) (by unfold maxLen; omega) (by omega) (by simp; omega) (wr.heap.size + 1) (by simp) ?_; intro g4 c4 w4 hown4 hgrow4 hat4 hlt4)
          have hb4 : Bw W0 w4 := by
            have hx := bw_grow (W := W0) hgrow4 (Below.alloc (hs0 ▸ hbw) szr _) (by rw [size_alloc]; omega) (hown.alloc _)
            rwa [← hs0] at hx
          go_roundw
          case rel => (repeat apply Exists.intro); exact ⟨⟨t + 1, g4, c4, by omega, by go_num, rfl, by rw [show 12 + (t + 1) = 12 + t + 1 from rfl, cellsU_succ, ← hval.out]; exact hown4, hb4⟩, rfl⟩
          case measure => simp [lenV]; omega
        · have e8 : t = 4 := by omega
          subst e8
          clear hlt ht
          have hcc2 := (hC.out _ hbw).2.2.1
          have hcc3 := (hC.out _ hbw).2.2.2
          have hL0 : (0 : Int) ≤ (L : Int) := Int.natCast_nonneg _
          have hL1 : (L : Int) % 256 = (L : Int) := by omega
          clear c3
          rename World => w6
          go_wp2_with (at_builtin; refine wpList_append_lies _ (by rfl) (.tmp 36) (.tmp 43) _ (by rfl) (w.heap.size + 1) 5 i0 _ 1 1 Try.underlying24 hi0 hz0 hz1 hz2 rfl (by omega) _ _ _ (by rfl) (hown.alloc _) ⟨w6.heap.size, 0, none⟩ 2 2 [_, _] (by rfl) (by rfl) (World.news_of_block (cs := #[_, _]) (t := 5) (fr := (0, 0)) (heap_alloc_new w6 _)) (by simp [Value.oneCell']) (by omega) (by unfold maxLen; omega) (by omega) (by simp; omega) (w6.heap.size + 1) (by simp) ?_; intro g4 c4 w4 hown4 hgrow4 hat4 hlt4)
          have hb4 : Bw W0 w4 := by
            have hx := bw_grow (W := W0) hgrow4 (Below.alloc (hs0 ▸ hbw) szr _) (by rw [size_alloc]; omega) (hown.alloc _)
            rwa [← hs0] at hx
          have hown5 : w4.ownsRow (w.heap.size + 1) 5 1 (.slice (some ⟨g4, 0, none⟩) 18 c4) 18 (cellsU B 18) := by
            have e : cellsU B 18 = cellsU B 16 ++ [.int .u8 (h : Int), .int .u8 (L : Int)] := by
              rw [cellsU_succ, cellsU_succ, List.append_assoc, hB.out, body_shard, body_len]; rfl
            rw [e]; exact hown4
          clear hown4 hgrow4 hat4 hlt4 hown hbw szr hcc2 hcc3
          go_loopw [4] (fun v wr => ∃ n g cap : Nat, 18 ≤ n ∧ n ≤ 28 ∧ v = .slice (some ⟨g, 0, none⟩) n cap ∧ wr.ownsRow (w.heap.size + 1) 5 1 (.slice (some ⟨g, 0, none⟩) n cap) n (cellsU B n) ∧ Bw W0 wr) (fun v _ => 28 - lenV v)
          case atStart => exact ⟨18, g4, c4, by omega, by omega, rfl, hown5, hb4⟩
          case round =>
            clear hown5 hb4
            obtain ⟨n, g, cap, hn1, hn2, rfl, hown, hbw⟩ := hrel
            have szr := hbw.size
            rw [hs0] at szr
            by_cases hlt : n < 28
            · have hval : Hid (B n = 0) := by show _ = _; rw [hB.out]; exact body_nought k s h L d hn1 hlt
              go_wp2_with (at_builtin; refine wpList_append_lies _ (by rfl) (.tmp 48) (.tmp 49) _ (by rfl) (w.heap.size + 1) 5 i0 _ 1 1 Try.underlying24 hi0 hz0 hz1 hz2 rfl (by omega) _ _ _ (by rfl) (hown.alloc _) ⟨wr.heap.size, 0, none⟩ 1 1 [_] (by rfl) (by rfl) (World.news_of_block (cs := #[_]) (t := 5) (fr := (0, 0)) (heap_alloc_new wr _)) (by simp [Value.oneCell']) (by omega) (by unfold maxLen; omega) (by omega) (by simp; omega) (wr.heap.size + 1) (by simp) ?_; intro g4 c4 w4 hown4 hgrow4 hat4 hlt4)
              have hb4 : Bw W0 w4 := by
                have hx := bw_grow (W := W0) hgrow4 (Below.alloc (hs0 ▸ hbw) szr _) (by rw [size_alloc]; omega) (hown.alloc _)
                rwa [← hs0] at hx
              go_roundw
              case rel => (first | exact ⟨n + 1, g4, c4, by omega, by omega, rfl, by rw [cellsU_succ, hval.out]; exact hown4, hb4⟩ | ((repeat apply Exists.intro); exact ⟨⟨n + 1, g4, c4, by omega, by omega, rfl, by rw [cellsU_succ, hval.out]; exact hown4, hb4⟩, rfl⟩))
              case measure => simp [lenV]; omega
            · have e8 : n = 28 := by omega
              subst e8
              clear hlt hn1 hn2
              have hcc3 := (hC.out _ hbw).2.2.2
              have hrow7 := (hrow.keep hal).keep hbw
              have hmx : 28 + L ≤ maxLen := by unfold maxLen; omega
              rename World => w7
              go_wp2_with (at_builtin; refine wpList_append_rowat _ (by rfl) (.tmp 51) (.tmp 53) _ (by rfl) (w.heap.size + 1) 5 i0 _ 1 Try.underlying24 hi0 hz0 hz1 hz2 rfl _ _ _ (by rfl) hown A L ca d (by rfl) hrow7 hnil hmx (by omega) szr ?_; intro v8 w8 hown8 hgrow8)
              have hb8 : Bw W0 w8 := by
                have hx := bw_grow (W := W0) hgrow8 (hs0 ▸ hbw) szr hown
                rwa [← hs0] at hx
              have hown9 : w8.ownsRow (w.heap.size + 1) 5 1 v8 (28 + L) (cellsU B (28 + L)) := by
                have e : cellsU B (28 + L) = cellsU B 28 ++ cellsU d L := by
                  rw [cellsU_append]
                  exact List.map_congr_left fun i hi => by
                    have := List.mem_range.1 hi
                    dsimp only
                    split
                    · rfl
                    · rw [hB.out, ← body_data k s h L d (i := i - 28) (by omega), show 28 + (i - 28) = i by omega]
                rw [e]; exact hown8
              obtain ⟨g9, c9, rfl, -, -, -, -⟩ := Own.of hown9 (by omega)
              clear hown8 hgrow8 hown hbw szr hcc3 hrow7 hmx
              go_loopw [4] (fun v wr => ∃ n g cap : Nat, 28 + L ≤ n ∧ n ≤ 124 ∧ v = .slice (some ⟨g, 0, none⟩) n cap ∧ wr.ownsRow (w.heap.size + 1) 5 1 (.slice (some ⟨g, 0, none⟩) n cap) n (cellsU B n) ∧ Bw W0 wr) (fun v _ => 124 - lenV v)
              case atStart => exact ⟨28 + L, g9, c9, by omega, by omega, rfl, hown9, hb8⟩
              case round =>
                clear hown9 hb8
                obtain ⟨n, g, cap, hn1, hn2, rfl, hown, hbw⟩ := hrel
                have szr := hbw.size
                rw [hs0] at szr
                by_cases hlt : n < 124
                · have hval : Hid (B n = 0) := by show _ = _; rw [hB.out]; exact body_tail k s h L d hn1
                  go_wp2_with (at_builtin; refine wpList_append_lies _ (by rfl) (.tmp 58) (.tmp 59) _ (by rfl) (w.heap.size + 1) 5 i0 _ 1 1 Try.underlying24 hi0 hz0 hz1 hz2 rfl (by omega) _ _ _ (by rfl) (hown.alloc _) ⟨wr.heap.size, 0, none⟩ 1 1 [_] (by rfl) (by rfl) (World.news_of_block (cs := #[_]) (t := 5) (fr := (0, 0)) (heap_alloc_new wr _)) (by simp [Value.oneCell']) (by omega) (by unfold maxLen; omega) (by omega) (by simp; omega) (wr.heap.size + 1) (by simp) ?_; intro g4 c4 w4 hown4 hgrow4 hat4 hlt4)
                  have hb4 : Bw W0 w4 := by
                    have hx := bw_grow (W := W0) hgrow4 (Below.alloc (hs0 ▸ hbw) szr _) (by rw [size_alloc]; omega) (hown.alloc _)
                    rwa [← hs0] at hx
                  go_roundw
                  case rel => (first | exact ⟨n + 1, g4, c4, by omega, by omega, rfl, by rw [cellsU_succ, hval.out]; exact hown4, hb4⟩ | ((repeat apply Exists.intro); exact ⟨⟨n + 1, g4, c4, by omega, by omega, rfl, by rw [cellsU_succ, hval.out]; exact hown4, hb4⟩, rfl⟩))
                  case measure => simp [lenV]; omega
                · have e8 : n = 124 := by omega
                  subst e8
                  clear hlt hn1 hn2
                  obtain ⟨g10, c10, e10, -, -, -, ho10⟩ := Own.of hown (by omega)
                  cases e10
                  have hr10 := ho10.row hBb.out
                  clear ho10
                  go_wp2_with (go_at_call 11; refine (rseal_any _ 124 _ B (by omega) _ hr10 (fun e => by cases e)).mono ?_; rintro e w11 ⟨A11, c11, rfl, hr11, hw11⟩)
                  go_ret2
                  exact ⟨_, _, rfl, by rw [← hB.out]; exact hr11, hal.trans (hbw.trans hw11)⟩
end Go.Proofs.Ytcnafcoifhdigaa
