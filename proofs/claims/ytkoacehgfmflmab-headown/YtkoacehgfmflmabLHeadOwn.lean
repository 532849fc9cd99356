/- Proved: for every head and every byte the statement HeadOwn answers true (the document's P10.9: what is answered is new memory, its spare room too), with no condition but the reach. -/
import Derived.Test.YtkoacehgfmflmabX2
import Derived.Test.YtkoacehgfmflmabV7
import Derived.Test.YtkoacehgfmflmabFh
import Derived.ShutString
import Derived.ChangeOld
namespace Go.Proofs.Ytkoacehgfmflmab.headOwn
open Go.ChangeShapes Go.WideShapes Go.ChangeAt Go.RowKit
set_option linter.unusedVariables false

set_option linter.unusedSimpArgs false
attribute [local go_sem] List.getElem?_cons_zero Option.getD_some
/-- the byte that row j is filled with, and the one behind it -/
def V (c : Int) (j : Nat) : Int := (c + (j : Int)) % 256
def U (c : Int) (j : Nat) : Int := (V c j + 9) % 256
theorem V_bd (c : Int) (j : Nat) : 0 ≤ V c j ∧ V c j < 256 := by unfold V; omega
theorem U_bd (c : Int) (j : Nat) : 0 ≤ U c j ∧ U c j < 256 := by unfold U; omega
theorem V_byte (c : Int) (j : Nat) : (((UInt8.ofNat (V c j).toNat).toNat : Nat) : Int) = V c j := by have := V_bd c j; rw [UInt8.toNat_ofNat']; omega
/-- the blocks of three rows -/
def G3 (a b c j : Nat) : Nat := if j = 0 then a else if j = 1 then b else c
/-- three arrays, the first k of which are filled, and so are the first t bytes of the next one -/
def Mid (c : Int) (G : Nat → Nat) (w : World) (k t : Nat) : Prop := ∀ j, j < 3 → ∃ l : Hd.B, ArrAt w (G j) l ∧ l.length = 512 ∧ (j < k → ∀ i, i < 512 → Hd.rowF l i = V c j) ∧ (j = k → ∀ i, i < t → Hd.rowF l i = V c j)
theorem mid_next {c : Int} {G : Nat → Nat} {w : World} {k : Nat} (h : Mid c G w k 512) : Mid c G w (k + 1) 0 := fun j hj => by
  obtain ⟨l, h1, hl, h2, h3⟩ := h j hj
  refine ⟨l, h1, hl, fun hk i hi => ?_, fun _ i hi => by omega⟩
  rcases Nat.lt_or_ge j k with h | h
  · exact h2 h i hi
  · exact h3 (by omega) i hi
theorem mid_set {c : Int} {G : Nat → Nat} {w : World} {k t : Nat} (hne : ∀ i j, i < 3 → j < 3 → i ≠ j → G i ≠ G j) (h : Mid c G w k t) (hk : k < 3) (ht : t < 512) : Mid c G (w.setCell ⟨G k, t, none⟩ (.int .u8 (V c k))) k (t + 1) := fun j hj => by
  obtain ⟨l, h1, hl, h2, h3⟩ := h j hj
  by_cases e : j = k
  · subst e
    have ha := arr_store h1 (UInt8.ofNat (V c j).toNat) (o := t) (by omega)
    rw [V_byte, ← Hd.set_ovl (by omega)] at ha
    refine ⟨_, ha, by rw [List.length_set]; exact hl, fun h => by omega, fun _ i hi => ?_⟩
    by_cases hct : i = t
    · subst hct
      rw [Hd.rowF_at (List.getElem?_set_self (by omega)), V_byte]
    · have := h3 rfl i (by omega)
      rw [← this]
      unfold Hd.rowF
      rw [List.getD_eq_getElem?_getD, List.getD_eq_getElem?_getD, List.getElem?_set_ne (Ne.symm hct)]
  · exact ⟨l, (heap_setCell_other w ⟨G k, t, none⟩ (G j) _ (fun e' => hne j k hj hk e (by simpa using e'))).trans h1, hl, h2, fun e' => absurd e' e⟩
/-- a filled row, and twenty bytes more -/
def longF (c : Int) (W j i : Nat) : Int := if i < W then V c j else U c j
theorem longF_bd (c : Int) (W j i : Nat) : 0 ≤ longF c W j i ∧ longF c W j i < 256 := by unfold longF; split; exact V_bd c j; exact U_bd c j
/-- the list of the long rows -/
def cellsL (P C : Nat → Nat) (n k : Nat) : List Value := (List.range k).map fun j => .slice (some ⟨P j, 0, none⟩) n (C j)
theorem cellsL_succ (P C : Nat → Nat) (n k g c : Nat) : cellsL (fun j => if j = k then g else P j) (fun j => if j = k then c else C j) n (k + 1) = cellsL P C n k ++ [.slice (some ⟨g, 0, none⟩) n c] := by
  unfold cellsL
  rw [List.range_succ, List.map_append]
  congr 1
  · exact List.map_congr_left fun i hi => by have := List.mem_range.1 hi; dsimp only; rw [if_neg (by omega), if_neg (by omega)]
  · simp
set_option maxRecDepth 100000 in
set_option maxHeartbeats 8000000 in
theorem own_bad (h : Hd.Hdr) (c : Int) (M : Nat) (hM : Hid (M = Hd.may h)) (hm : M ≠ 0) (w : World) : Calls Try.prog 3 #[.agg (Hd.hv h), .int .u8 c] w fun e w' => e = .returned (.bool true) ∧ Bw w w' := by
  obtain ⟨W1, hW1⟩ : ∃ V, V = w.alloc (.cells (Hd.hv h) 23) := ⟨_, rfl⟩
  have hH1 : HeadAt W1 w.heap.size h := by rw [hW1]; exact headat_new _ _
  have hb1 : Bw w W1 := by rw [hW1]; exact bw_alloc7 (Bw.refl _) _
  have HM : Hid (Hd.may h ≠ 0) := by rw [← hM.out]; exact hm
  have em : ((M : Int) != 0) = true := by rw [bne_iff_ne]; omega
  have tok1 : Hid (w = w) := rfl
  clear hm
  go_enter Try.func3, Try.ntmps3
  go_wp2_with (first
    | (go_at_call 5; rw [← hW1]; clear hW1; refine (awake10_any _).mono ?_; rintro e w2 ⟨rfl, hw2⟩; have hH2 := hH1.keep hw2)
    | (refine wpList_load_row rfl 23 _ rfl w.heap.size rfl 23 (Hd.hv h) (0, 0) _ hH2 Try.underlying23 rfl (info_head h) ?_)
    | (go_at_call 6; clear tok1; refine (hPut_any h _).mono ?_; rintro e w3 ⟨h3, -, hw3⟩; obtain rfl := h3 HM.out; rw [← hM.out]; have hH3 := hH2.keep hw3)
    | (refine wpList_load_row rfl 23 _ rfl w.heap.size rfl 23 (Hd.hv h) (0, 0) _ hH3 Try.underlying23 rfl (info_head h) ?_)
    | (go_at_call 6; refine (hPut_any h _).mono ?_; rintro e w4 ⟨h4, -, hw4⟩; obtain rfl := h4 HM.out; rw [← hM.out]))
  go_ret
  exact ⟨rfl, hb1.trans (hw2.trans (hw3.trans hw4))⟩
set_option maxRecDepth 100000 in
set_option maxHeartbeats 16000000 in
theorem own_good (h : Hd.Hdr) (hg : Hd.Good h) (c : Int) (hc0 : 0 ≤ c) (hc1 : c < 256) (w : World) : Calls Try.prog 3 #[.agg (Hd.hv h), .int .u8 c] w fun e w' => e = .returned (.bool true) ∧ Bw w w' := by
  obtain ⟨i0, hi0, hz0, hz1, hz2⟩ := info_parts info_u8
  obtain ⟨j0, hj0, hy0, hy1, hy2⟩ := info_parts info_rows7
  have hz7 := zero_head
  have hgr := guard_head
  obtain ⟨N, hN⟩ : ∃ N, Hid (N = Hd.none7) := ⟨_, rfl⟩
  rw [← hN.out] at hz7
  have HNS : Hid (N.size = (Hd.hv h).size) := by show _ = _; rw [hN.out]; rfl
  have hqh : ∀ W, (Op.equalIn 10000 23 (.agg (Hd.hv h)) (.agg (Hd.hv h))).run Try.prog W = .ok true W := fun W => by rw [equalIn_head, Hd.eqB_same]
  obtain ⟨W1, hW1⟩ : ∃ V, V = w.alloc (.cells (Hd.hv h) 23) := ⟨_, rfl⟩
  have hH1 : HeadAt W1 w.heap.size h := by rw [hW1]; exact headat_new _ _
  have hb1 : Bw w W1 := by rw [hW1]; exact bw_alloc7 (Bw.refl _) _
  have HLL : Hid ((Hd.layB h).length = 512) := Hd.lay_len hg
  have HSL : Hid ((Hd.sealB (Hd.layB h)).length = 512) := by show _ = _; rw [Hd.seal_len (by rw [HLL.out]; omega), HLL.out]
  have tok1 : Hid (w = w) := rfl
  have tok2 : Hid (w = w) := rfl
  go_enter Try.func3, Try.ntmps3
  go_wp2_with (first
    | (go_at_call 5; rw [← hW1]; clear hW1; refine (awake10_any _).mono ?_; rintro e w2 ⟨rfl, hw2⟩; have hH2 := hH1.keep hw2)
    | (refine wpList_load_row rfl 23 _ rfl w.heap.size rfl 23 (Hd.hv h) (0, 0) _ hH2 Try.underlying23 rfl (info_head h) ?_)
    | (go_at_call 6; clear tok1; refine (hPut_good h hg _).mono ?_; rintro e w3 ⟨ga, rfl, hn3, hw3⟩; have hH3 := hH2.keep hw3)
    | (refine wpList_load_row rfl 23 _ rfl w.heap.size rfl 23 (Hd.hv h) (0, 0) _ hH3 Try.underlying23 rfl (info_head h) ?_)
    | (go_at_call 6; refine (hPut_good h hg _).mono ?_; rintro e w4 ⟨gb, rfl, hn4, hw4⟩; have hA4 := hn3.arr.keep hw4)
    | (go_at_call 7; clear tok2; refine (hSeal_any _ 512 512 (Hd.layB h) HLL.out _ (arr_row512 hA4 HLL.out)).mono ?_; rintro e w5 ⟨-, h5, hw5⟩; obtain ⟨gs, rfl, hn5⟩ := h5 rfl; have hA5 := hA4.keep hw5)
    | (go_at_call 7; refine (hSeal_any _ 512 512 (Hd.layB h) HLL.out _ (arr_row512 hA5 HLL.out)).mono ?_; rintro e w6 ⟨-, h6, hw6⟩; obtain ⟨gt, rfl, hn6⟩ := h6 rfl; have hA6 := hA5.keep hw6)
    | (go_at_call 8; refine (hGet_lay h hg ga 512 _ hA6).mono ?_; rintro e w7 ⟨rfl, hw7⟩)
    | (refine wpList_store_row rfl 23 _ _ rfl w7.heap.size (Hd.hv h) rfl rfl 23 N (heap_alloc_new _ _) (info_head h) HNS.out (Hd.hv_one h) ?_; rw [setRow_alloc_new]; obtain ⟨U8, hU8⟩ : ∃ V, V = w7.alloc (.cells (Hd.hv h) 23) := ⟨_, rfl⟩; have HX8 : HeadAt U8 w7.heap.size h := (by rw [hU8]; exact headat_new _ _); have b8 : Bw w7 U8 := (by rw [hU8]; exact bw_alloc7 (Bw.refl _) _); rw [← hU8]; clear hU8)
    | (refine wpList_three7 rfl _ _ _ rfl (some ⟨ga, 0, none⟩) (some ⟨gs, 0, none⟩) (some ⟨gt, 0, none⟩) 512 (by rfl) (by rfl) (by rfl) ?_; refine Hid.out ?_))
  show Hid _
  obtain ⟨hl, hhl⟩ : ∃ x, x = U8.heap.size := ⟨_, rfl⟩
  obtain ⟨gx, hgx⟩ : ∃ x, x = w7.heap.size := ⟨_, rfl⟩
  obtain ⟨G, hG⟩ : ∃ G, G = G3 ga gs gt := ⟨_, rfl⟩
  have l3 := hn3.arr.lt
  have l4 := hn4.arr.lt
  have l5 := hn5.arr.lt
  have l6 := hn6.arr.lt
  have n3 := hn3.new
  have n4 := hn4.new
  have n5 := hn5.new
  have n6 := hn6.new
  have l8 : gx < U8.heap.size := by rw [hgx]; exact (Array.getElem?_eq_some_iff.1 HX8).1
  have z1 := hb1.size
  have z1' := (Array.getElem?_eq_some_iff.1 hH1).1
  have z2 := hw2.size
  have z3 := hw3.size
  have z4 := hw4.size
  have z5 := hw5.size
  have z6 := hw6.size
  have z7 := hw7.size
  have g0 : G 0 = ga := by rw [hG]; rfl
  have g1 : G 1 = gs := by rw [hG]; rfl
  have g2 : G 2 = gt := by rw [hG]; rfl
  have HNE : Hid (∀ i j, i < 3 → j < 3 → i ≠ j → G i ≠ G j) := fun i j hi hj hne => by
    rcases (show i = 0 ∨ i = 1 ∨ i = 2 by omega) with rfl | rfl | rfl <;> rcases (show j = 0 ∨ j = 1 ∨ j = 2 by omega) with rfl | rfl | rfl <;> omega
  have HGB : Hid (∀ j, j < 3 → G j < hl ∧ w.heap.size + 1 ≤ G j ∧ G j ≠ gb ∧ G j < gx) := fun j hj => by
    rcases (show j = 0 ∨ j = 1 ∨ j = 2 by omega) with rfl | rfl | rfl <;> omega
  have b78 : Bw w6 U8 := hw7.trans b8
  have H5H : Hid ((U8.alloc (.cells #[.slice (some ⟨ga, 0, none⟩) 512 512, .slice (some ⟨gs, 0, none⟩) 512 512, .slice (some ⟨gt, 0, none⟩) 512 512] 25)).heap[hl]? = some (.cells #[.slice (some ⟨ga, 0, none⟩) 512 512, .slice (some ⟨gs, 0, none⟩) 512 512, .slice (some ⟨gt, 0, none⟩) 512 512] 25 (0, 0))) := by
    show _ = _
    rw [hhl]; exact heap_alloc_new _ _
  have hal : Bw U8 (U8.alloc (.cells #[.slice (some ⟨ga, 0, none⟩) 512 512, .slice (some ⟨gs, 0, none⟩) 512 512, .slice (some ⟨gt, 0, none⟩) 512 512] 25)) := bw_alloc7 (Bw.refl _) _
  have H5M : Hid (Mid c G (U8.alloc (.cells #[.slice (some ⟨ga, 0, none⟩) 512 512, .slice (some ⟨gs, 0, none⟩) 512 512, .slice (some ⟨gt, 0, none⟩) 512 512] 25)) 0 0) := fun j hj => by
    rcases (show j = 0 ∨ j = 1 ∨ j = 2 by omega) with rfl | rfl | rfl
    · rw [g0]; exact ⟨Hd.layB h, (hA6.keep b78).keep hal, HLL.out, fun h => by omega, fun _ i hi => by omega⟩
    · rw [g1]; exact ⟨Hd.sealB (Hd.layB h), ((hn5.arr.keep hw6).keep b78).keep hal, HSL.out, fun h => by omega, fun _ i hi => by omega⟩
    · rw [g2]; exact ⟨Hd.sealB (Hd.layB h), (hn6.arr.keep b78).keep hal, HSL.out, fun h => by omega, fun _ i hi => by omega⟩
  have H5C : Hid (∀ j, j < 3 → (U8.alloc (.cells #[.slice (some ⟨ga, 0, none⟩) 512 512, .slice (some ⟨gs, 0, none⟩) 512 512, .slice (some ⟨gt, 0, none⟩) 512 512] 25)).cell? ⟨hl, j, none⟩ = some (.slice (some ⟨G j, 0, none⟩) 512 512)) := fun j hj => by
    rw [cell_of_row _ hl j _ _ _ H5H.out]
    rcases (show j = 0 ∨ j = 1 ∨ j = 2 by omega) with rfl | rfl | rfl
    · rw [g0]; rfl
    · rw [g1]; rfl
    · rw [g2]; rfl
  have H5B : Hid (Bw w (U8.alloc (.cells #[.slice (some ⟨ga, 0, none⟩) 512 512, .slice (some ⟨gs, 0, none⟩) 512 512, .slice (some ⟨gt, 0, none⟩) 512 512] 25))) := (hb1.trans (hw2.trans (hw3.trans (hw4.trans (hw5.trans (hw6.trans b78)))))).trans hal
  have H5X : Hid (HeadAt (U8.alloc (.cells #[.slice (some ⟨ga, 0, none⟩) 512 512, .slice (some ⟨gs, 0, none⟩) 512 512, .slice (some ⟨gt, 0, none⟩) 512 512] 25)) gx h ∧ HeadAt (U8.alloc (.cells #[.slice (some ⟨ga, 0, none⟩) 512 512, .slice (some ⟨gs, 0, none⟩) 512 512, .slice (some ⟨gt, 0, none⟩) 512 512] 25)) w.heap.size h ∧ ArrAt (U8.alloc (.cells #[.slice (some ⟨ga, 0, none⟩) 512 512, .slice (some ⟨gs, 0, none⟩) 512 512, .slice (some ⟨gt, 0, none⟩) 512 512] 25)) gb (Hd.layB h)) := by
    refine ⟨?_, (hH3.keep (hw4.trans (hw5.trans (hw6.trans b78)))).keep hal, (hn4.arr.keep (hw5.trans (hw6.trans b78))).keep hal⟩
    rw [hgx]; exact HX8.keep hal
  rw [← hhl, ← hgx]
  clear hhl hgx hG g0 g1 g2 l3 l4 l5 l6 l8 n3 n4 n5 n6 z1 z1' z2 z3 z4 z5 z6 z7 hH1 hH2 hH3 hA4 hA5 hA6 hn3 hn4 hn5 hn6 HX8 b8 b78 hal hw2 hw3 hw4 hw5 hw6 hw7 hb1
  generalize U8.alloc (.cells #[.slice (some ⟨ga, 0, none⟩) 512 512, .slice (some ⟨gs, 0, none⟩) 512 512, .slice (some ⟨gt, 0, none⟩) 512 512] 25) = w5 at *
  obtain ⟨W, hW⟩ : ∃ W : Nat, Hid (W = 512) := ⟨_, rfl⟩
  have W512 : W ≤ 512 := by rw [hW.out]; exact Nat.le_refl _
  have W0 : 0 < W := by rw [hW.out]; decide
  have HHK : Hid (∀ w', Bx (fun b => ∃ j, j < 3 ∧ b = G j) w5 w' → ∀ j, j < 3 → w'.cell? ⟨hl, j, none⟩ = some (.slice (some ⟨G j, 0, none⟩) W W)) := fun w' hx j hj => by
    have := H5C.out j hj
    rw [hW.out, World.cell?_of_block (w := w5) (hx.block hl (block_lt_of_cell this) (fun ⟨i, hi, e⟩ => by have := (HGB.out i hi).1; omega))]
    exact this
  rw [← hW.out]
  unfold Hid
  go_wp2
  go_loopw [16] (fun i wr => ∃ k : Nat, k ≤ 3 ∧ i = .int .i64 (k : Int) ∧ Hid (Mid c G wr k 0) ∧ Bx (fun b => ∃ j, j < 3 ∧ b = G j) w5 wr) (fun i _ => 3 - (intOf i).toNat)
  case atStart => exact ⟨0, by omega, rfl, H5M.out, Bx.refl _ _⟩
  case round =>
    obtain ⟨k, hk, rfl, hM, hx⟩ := hrel
    have k0 : (0 : Int) ≤ (k : Int) := Int.natCast_nonneg _
    by_cases hk3 : k < 3
    · rename World => wo
      have t3 : (k : Int) < 3 := by omega
      have ek : (k : Int) % 256 = (k : Int) := by omega
      obtain ⟨v, hv⟩ : ∃ v, Hid (v = V c k) := ⟨_, rfl⟩
      have ev : (c + (k : Int)) % 256 = v := by rw [hv.out]; rfl
      go_wp2
      go_loopw [17] (fun i wr => ∃ t : Nat, t ≤ W ∧ i = .int .i64 (t : Int) ∧ Hid (Mid c G wr k t) ∧ Bx (fun b => ∃ j, j < 3 ∧ b = G j) w5 wr) (fun i _ => W - (intOf i).toNat)
      case atStart => exact ⟨0, Nat.zero_le _, rfl, hM.out, hx⟩
      case round =>
        clear hM hx
        obtain ⟨t, ht, rfl, hM, hx⟩ := hrel
        have t0 : (0 : Int) ≤ (t : Int) := Int.natCast_nonneg _
        have ck := HHK.out _ hx k hk3
        by_cases htW : t < W
        · have t1 : (t : Int) < (W : Int) := by omega
          obtain ⟨l, hB, hll, -, -⟩ := hM.out k hk3
          obtain ⟨c1, c2⟩ := hB.cell (c := t) (by omega)
          have hset := mid_set HNE.out hM.out hk3 (t := t) (by omega)
          rw [← hv.out] at hset
          have HSET : Hid (Mid c G (wr.setCell ⟨G k, t, none⟩ (.int .u8 v)) k (t + 1)) := hset
          clear hset hB
          go_wp2
          go_roundw
          case rel => exact ⟨t + 1, by omega, by go_num, HSET, hx.put ⟨k, hk3, rfl⟩⟩
          case measure => simp [intOf]; omega
        · have et : t = W := by omega
          have hN : Hid (Mid c G wr (k + 1) 0) := mid_next (by have := hM.out; rw [et, hW.out] at this; exact this)
          have t1 : ¬ (t : Int) < (W : Int) := by omega
          clear et
          go_wp2
          go_roundw
          case rel => exact ⟨k + 1, by omega, by go_num, hN, hx⟩
          case measure => simp [intOf]; omega
    · have ek : k = 3 := by omega
      subst ek
      rename World => w6
      have HG6 : Hid (∀ w', Bw w6 w' → ∀ j, j < 3 → RowAt w' (some ⟨G j, 0, none⟩) W (fun _ => V c j)) := fun w' hb j hj => by
        obtain ⟨l, hB, hll, h7, -⟩ := hM.out j hj
        rw [hW.out]
        exact row_congr10 (arr_row512 (hB.keep hb) hll) (fun _ => V_bd c j) (fun i hi => (h7 hj i hi).symm)
      have HC6 : Hid (∀ w', Bw w6 w' → ∀ j, j < 3 → w'.cell? ⟨hl, j, none⟩ = some (.slice (some ⟨G j, 0, none⟩) W W)) := fun w' hb j hj => by
        have := HHK.out _ hx j hj
        rw [hb.cell (p := ⟨hl, j, none⟩) (block_lt_of_cell this)]
        exact this
      have HX6 : Hid (∀ w', Bw w6 w' → HeadAt w' gx h ∧ HeadAt w' w.heap.size h ∧ ArrAt w' gb (Hd.layB h)) := fun w' hb => by
        obtain ⟨x1, x2, x3⟩ := H5X.out
        refine ⟨HeadAt.keep ((hx.block gx (Array.getElem?_eq_some_iff.1 x1).1 (fun ⟨i, hi, e⟩ => by have := (HGB.out i hi).2.2.2; omega)).trans x1) hb, HeadAt.keep ((hx.block w.heap.size (Array.getElem?_eq_some_iff.1 x2).1 (fun ⟨i, hi, e⟩ => by have := (HGB.out i hi).2.1; omega)).trans x2) hb, ArrAt.keep (x3.keepx hx (fun ⟨i, hi, e⟩ => (HGB.out i hi).2.2.1 e.symm)) hb⟩
      have HB6 : Hid (∀ w', Bw w6 w' → Bw w w') := fun w' hb => by
        have h5 := H5B.out
        exact Bw.trans ⟨hx.os.trans h5.os, hx.tape.trans h5.tape, hx.output.trans h5.output, Nat.le_trans h5.size hx.size, fun b hb => (hx.block b (Nat.lt_of_lt_of_le hb h5.size) (fun ⟨i, hi, e⟩ => by have := (HGB.out i hi).2.1; omega)).trans (h5.block b hb)⟩ hb
      clear hM hx H5H H5M H5C H5B HHK H5X
      go_wp2
      go_loopw [18, 19] (fun v i wr => ∃ (k : Nat) (P C : Nat → Nat), k ≤ 3 ∧ i = .int .i64 (k : Int) ∧ wr.ownsRow w6.heap.size 25 1 v k (cellsL P C (W + 20) k) ∧ Hid (∀ j, j < k → Own wr (P j) (W + 20) (longF c W j)) ∧ Bw w6 wr) (fun _ i _ => 3 - (intOf i).toNat)
      case atStart => exact ⟨0, fun _ => 0, fun _ => 0, by omega, rfl, World.ownsRow_nil _ _ _ _, fun j hj => by omega, Bw.refl _⟩
      case round =>
        obtain ⟨k, P, C, hk, rfl, hown, hP, hb⟩ := hrel
        have k0 : (0 : Int) ≤ (k : Int) := Int.natCast_nonneg _
        by_cases hk3 : k < 3
        · rename World => wo
          have t3 : (k : Int) < 3 := by omega
          have ck := HC6.out _ hb k hk3
          have hrG := HG6.out _ hb k hk3
          have szo := hb.size
          have ek : (k : Int) % 256 = (k : Int) := by omega
          obtain ⟨v, hv⟩ : ∃ v, Hid (v = V c k) := ⟨_, rfl⟩
          have ev : (c + (k : Int)) % 256 = v := by rw [hv.out]; rfl
          obtain ⟨u, hu⟩ : ∃ u, Hid (u = U c k) := ⟨_, rfl⟩
          have eu : (v + 9) % 256 = u := by rw [hu.out, hv.out]; rfl
          rw [← hv.out] at hrG
          go_wp2
          go_loopw [20, 21] (fun l i wr => ∃ t : Nat, t ≤ 20 ∧ i = .int .i64 (t : Int) ∧ Bw wo wr ∧ ((t = 0 ∧ l = .slice (some ⟨G k, 0, none⟩) W W) ∨ (0 < t ∧ wr.ownsRow wo.heap.size 5 1 l (W + t) (cellsU (longF c W k) (W + t))))) (fun _ i _ => 20 - (intOf i).toNat)
          case atStart => exact ⟨0, by omega, rfl, Bw.refl _, Or.inl ⟨rfl, rfl⟩⟩
          case round =>
            obtain ⟨t, ht, rfl, hbo, hl2⟩ := hrel
            have t0 : (0 : Int) ≤ (t : Int) := Int.natCast_nonneg _
            have szr := hbo.size
            by_cases ht20 : t < 20
            · have t1 : (t : Int) < 20 := by omega
              have hval : Hid (longF c W k (W + t) = u) := by show _ = _; unfold longF; rw [if_neg (by omega), hu.out]
              have hmx : W + t + 1 ≤ maxLen := by unfold maxLen; omega
              rcases hl2 with ⟨ht0, rfl⟩ | ⟨htp, hownl⟩
              · have hcl : Hid (cellsU (fun _ => v) W ++ [.int .u8 u] = cellsU (longF c W k) (W + (t + 1))) := by
                  show _ = _
                  subst ht0
                  rw [show W + (0 + 1) = W + 1 from rfl, cellsU_succ]
                  congr 1
                  · exact List.map_congr_left fun i hi => by unfold longF; rw [if_pos (List.mem_range.1 hi), hv.out]
                  · unfold longF; rw [if_neg (by omega), hu.out]
                subst ht0
                go_wp2_with (at_builtin; refine wpList_append_full7 (by rfl) _ _ (by rfl) (some ⟨G k, 0, none⟩) W (fun _ => v) (by rfl) ((hrG.keep hbo).keep (bw_alloc7 (Bw.refl _) _)) (by omega) ⟨wr.heap.size, 0, none⟩ 1 1 [.int .u8 u] (by rfl) (by rfl) (World.news_of_block (cs := #[_]) (t := 5) (fr := (0, 0)) (heap_alloc_new wr _)) (by simp [Value.oneCell']) (by omega) (by omega) ?_; intro v4 w4 hown4 hbw4)
                go_roundw
                case rel => (repeat apply Exists.intro); exact ⟨⟨1, by omega, by go_num, hbo.trans ((bw_alloc7 (Bw.refl _) _).trans hbw4), Or.inr ⟨by omega, by rw [← hcl.out]; exact own_lower hown4 (by rw [size_alloc]; omega)⟩⟩, rfl⟩
                case measure => simp [intOf]
              · go_wp2_with (at_builtin; refine wpList_append_lies _ (by rfl) (.tmp 104) (.tmp 110) _ (by rfl) wo.heap.size 5 i0 _ 1 1 Try.underlying25 hi0 hz0 hz1 hz2 rfl (by omega) _ _ _ (by rfl) (hownl.alloc _) ⟨wr.heap.size, 0, none⟩ 1 1 [.int .u8 u] (by rfl) (by rfl) (World.news_of_block (cs := #[_]) (t := 5) (fr := (0, 0)) (heap_alloc_new wr _)) (by simp [Value.oneCell']) (by omega) hmx (by omega) (by simp; omega) (wr.heap.size + 1) (by simp) ?_; intro g4 c4 w4 hown4 hgrow4 hat4 hlt4)
                go_roundw
                case rel => (repeat apply Exists.intro); exact ⟨⟨t + 1, by omega, by go_num, bw_grow hgrow4 (Below.alloc hbo szr _) (by rw [size_alloc]; omega) (hownl.alloc _), Or.inr ⟨by omega, by rw [show W + (t + 1) = W + t + 1 from rfl, cellsU_succ, hval.out]; exact hown4⟩⟩, rfl⟩
                case measure => simp [intOf]; omega
            · have et : t = 20 := by omega
              subst et
              rcases hl2 with ⟨h0, -⟩ | ⟨-, hownl⟩
              · omega
              obtain ⟨g1, c1, rfl, hg1, hc1, hc1', ho1⟩ := Own.of hownl (by omega)
              have HO1 : Hid (Own wr g1 (W + 20) (longF c W k)) := ho1
              have hPr : Hid (∀ j, j < k → Own wr (P j) (W + 20) (longF c W j)) := fun j hj => (hP.out j hj).keep hbo
              have hownr := own_keep hown hbo
              have hbr := hb.trans hbo
              have szb := hbr.size
              clear ho1 hownl hown hrG ck
              go_wp2_with (at_builtin; refine wpList_append_lies _ (by rfl) (.tmp 112) (.tmp 114) _ (by rfl) w6.heap.size 25 j0 _ 1 24 Try.underlying32 hj0 hy0 hy1 hy2 rfl (by omega) _ _ _ (by rfl) (hownr.alloc _) ⟨wr.heap.size, 0, none⟩ 1 1 [.slice (some ⟨g1, 0, none⟩) (W + 20) c1] (by rfl) (by rfl) (World.news_of_block (cs := #[_]) (t := 25) (fr := (0, 0)) (heap_alloc_new wr _)) (by simp [Value.oneCell']) (by omega) (by unfold maxLen; omega) (by omega) (by simp; omega) (wr.heap.size + 1) (by simp) ?_; intro g4 c4 w4 hown4 hgrow4 hat4 hlt4)
              have hbw4 : Bw w6 w4 := bw_grow hgrow4 (Below.alloc hbr szb _) (by rw [size_alloc]; omega) (hownr.alloc _)
              have hkeep : ∀ g f, Own wr g (W + 20) f → Own w4 g (W + 20) f := fun g f ⟨cur, e1, e2⟩ => by
                have hlt := (Array.getElem?_eq_some_iff.1 e1).1
                have e3 := (heap_alloc_old wr (.cells #[.slice (some ⟨g1, 0, none⟩) (W + 20) c1] 25) hlt).trans e1
                exact ⟨cur, (hgrow4.block g (by rw [size_alloc]; omega) (own_apart7 (hownr.alloc _) e3 (by decide))).trans e3, e2⟩
              go_roundw
              case rel => (repeat apply Exists.intro); exact ⟨⟨k + 1, (fun j => if j = k then g1 else P j), (fun j => if j = k then c1 else C j), by omega, by go_num, by rw [cellsL_succ]; exact hown4, fun j hj => by
                by_cases e : j = k
                · subst e; dsimp only; rw [if_pos rfl]; exact hkeep _ _ HO1.out
                · dsimp only; rw [if_neg e]; exact hkeep _ _ (hPr.out j (by omega)), hbw4⟩, rfl⟩
              case measure => simp [intOf]; omega
        · have ek : k = 3 := by omega
          subst ek
          rename World => w7
          obtain ⟨gl, cl, cur, rfl, hgl, hcur, hcl3, -, -, htk⟩ : ∃ gl cl cur, _ = Value.slice (some ⟨gl, 0, none⟩) 3 cl ∧ w6.heap.size ≤ gl ∧ w7.heap[gl]? = some (.cells cur 25 (0, 0)) ∧ 3 ≤ cl ∧ cl ≤ maxLen ∧ cur.size = cl * 1 ∧ cur.toList.take (3 * 1) = cellsL P C (W + 20) 3 := by
            rcases hown.2 with ⟨_, h0⟩ | ⟨gl, cl, cur, hv, hr⟩
            · omega
            · exact ⟨gl, cl, cur, hv, hr⟩
          have HCL : Hid (∀ j, j < 3 → w7.cell? ⟨gl, j, none⟩ = some (.slice (some ⟨P j, 0, none⟩) (W + 20) (C j))) := fun j hj => by
            rw [cell_of_row w7 gl j cur _ _ hcur]
            have e : (cur.toList.take (3 * 1))[j]? = (cellsL P C (W + 20) 3)[j]? := by rw [htk]
            rw [List.getElem?_take, if_pos (by omega), Array.getElem?_toList] at e
            rw [e]
            unfold cellsL
            rw [List.getElem?_map, List.getElem?_range hj]; rfl
          have HCA' : Hid (∀ j, j < 3 → w7.cell? ⟨hl, j, none⟩ = some (.slice (some ⟨G j, 0, none⟩) W W)) := HC6.out _ hb
          have HRG : Hid (∀ j, j < 3 → ∀ i, i < W → w7.cell? ⟨G j, i, none⟩ = some (.int .u8 (V c j))) := fun j hj i hi => by
            obtain ⟨b', o', e, hcc⟩ := (HG6.out _ hb j hj).at hi
            cases e
            have := hcc i hi
            rwa [Nat.zero_add] at this
          have HBW : Hid (Bw w w7) := HB6.out _ hb
          obtain ⟨X7, B7, A7⟩ := HX6.out _ hb
          clear HC6 HG6 HB6 HX6 hown hcur htk hb
          have HPL : Hid (∀ j, j < 3 → ∀ i, i < W + 20 → w7.cell? ⟨P j, i, none⟩ = some (.int .u8 (longF c W j i))) := fun j hj i hi => ((hP.out j hj).cell hi).1
          clear hP hgl hcl3
          go_wp2
          go_loop [4, 22] (fun r i => ∃ k : Nat, k ≤ 3 ∧ r = .bool false ∧ i = .int .i64 (k : Int)) (fun _ i => 3 - (intOf i).toNat)
          case atStart => exact ⟨0, by omega, rfl, rfl⟩
          case round =>
            obtain ⟨k, hk, rfl, rfl⟩ := hrel
            have k0 : (0 : Int) ≤ (k : Int) := Int.natCast_nonneg _
            by_cases hk3 : k < 3
            · have t3 : (k : Int) < 3 := by omega
              have c1 := HCL.out k hk3
              have c2 := HCA'.out k hk3
              have ek : (k : Int) % 256 = (k : Int) := by omega
              obtain ⟨v, hv⟩ : ∃ v, Hid (v = V c k) := ⟨_, rfl⟩
              have ev : (c + (k : Int)) % 256 = v := by rw [hv.out]; rfl
              obtain ⟨u, hu⟩ : ∃ u, Hid (u = U c k) := ⟨_, rfl⟩
              have eu : (v + 9) % 256 = u := by rw [hu.out, hv.out]; rfl
              go_wp2
              go_loop [4, 24] (fun r i => ∃ t : Nat, t ≤ W ∧ r = .bool false ∧ i = .int .i64 (t : Int)) (fun _ i => W - (intOf i).toNat)
              case atStart => exact ⟨0, by omega, rfl, rfl⟩
              case round =>
                obtain ⟨t, ht, rfl, rfl⟩ := hrel
                have t0 : (0 : Int) ≤ (t : Int) := Int.natCast_nonneg _
                by_cases htW : t < W
                · have t1 : (t : Int) < (W : Int) := by omega
                  have c3 : w7.cell? ⟨G k, t, none⟩ = some (.int .u8 v) := by rw [hv.out]; exact HRG.out k hk3 t htW
                  go_wp2
                  go_round
                  case rel => exact ⟨t + 1, by omega, rfl, by go_num⟩
                  case measure => simp [intOf]; omega
                · have t1 : ¬ (t : Int) < (W : Int) := by omega
                  go_wp2
                  go_loop [4, 25] (fun r i => ∃ t : Nat, t ≤ 20 ∧ r = .bool false ∧ i = .int .i64 ((W : Int) + (t : Int))) (fun _ i => W + 20 - (intOf i).toNat)
                  case atStart => exact ⟨0, by omega, rfl, by go_num⟩
                  case round =>
                    obtain ⟨s, hs, rfl, rfl⟩ := hrel
                    have s0 : (0 : Int) ≤ (s : Int) := Int.natCast_nonneg _
                    by_cases hs20 : s < 20
                    · have s1 : (W : Int) + (s : Int) < (W : Int) + 20 := by omega
                      have s2 : (s : Int) < 20 := by omega
                      have c4 : w7.cell? ⟨P k, W + s, none⟩ = some (.int .u8 u) := by
                        have := HPL.out k hk3 (W + s) (by omega)
                        unfold longF at this; rwa [if_neg (by omega), ← hu.out] at this
                      have s3 : ((W : Int) + (s : Int)).toNat = W + s := by omega
                      have s4 : (0 : Int) ≤ (W : Int) + (s : Int) := by omega
                      go_wp2
                      go_round
                      case rel => exact ⟨s + 1, by omega, rfl, by go_num⟩
                      case measure => simp [intOf]; omega
                    · have s1 : ¬ (W : Int) + (s : Int) < (W : Int) + 20 := by omega
                      have s2 : ¬ (s : Int) < 20 := by omega
                      go_wp2
                      go_round
                      case rel => first | exact ⟨k + 1, by omega, by go_num⟩ | exact ⟨k + 1, by omega, rfl, by go_num⟩
                      case measure => simp [intOf]; omega
            · have ek : k = 3 := by omega
              subst ek
              go_wp2_with (first
                | (go_at_call 8; rw [hW.out]; refine (hGet_lay h hg gb _ _ A7).mono ?_; rintro e w8 ⟨rfl, hw8⟩)
                | (refine wpList_store_row rfl 23 _ _ rfl w8.heap.size (Hd.hv h) rfl rfl 23 N (heap_alloc_new _ _) (info_head h) HNS.out (Hd.hv_one h) ?_; rw [setRow_alloc_new]; obtain ⟨U9, hU9⟩ : ∃ V, V = w8.alloc (.cells (Hd.hv h) 23) := ⟨_, rfl⟩; have Y9 : HeadAt U9 w8.heap.size h := (by rw [hU9]; exact headat_new _ _); have b9 : Bw w7 U9 := (by rw [hU9]; exact bw_alloc7 hw8 _); rw [← hU9]; clear hU9; have X9 := X7.keep b9; have B9 := B7.keep b9)
                | (refine wpList_load_g10 (by rfl) 23 _ rfl gx rfl 23 (Hd.hv h) (0, 0) _ X9 Try.underlying23 rfl (info_head h) ?_) | (refine wpList_load_g10 (by rfl) 23 _ rfl w.heap.size rfl 23 (Hd.hv h) (0, 0) _ B9 Try.underlying23 rfl (info_head h) ?_) | (refine wpList_load_g10 (by rfl) 23 _ rfl w8.heap.size rfl 23 (Hd.hv h) (0, 0) _ Y9 Try.underlying23 rfl (info_head h) ?_))
              go_ret
              exact ⟨rfl, HBW.out.trans b9⟩
theorem walk (y0 : Hd.Hdr) (a1 : Int) (w : World) (w0 : InHead y0) (w1 : (Lit.int .u8 a1).wf = true) :
    Calls Try.prog 3 #[.agg (Hd.hv y0), .int .u8 a1] w fun e w' => e = .returned (.bool true) ∧ Below w.heap.size w w' := by
  have b1 := bounds_u8 w1
  by_cases hm : Hd.may y0 = 0
  · exact own_good y0 (Hd.may_good hm) a1 (by omega) (by omega) w
  · exact own_bad y0 a1 _ rfl hm w

set_option maxRecDepth 100000 in
theorem lifted (os : Os) (started : os.Started) (H : Type) (enc : TypeId × Value → H) :
    ReturnsInHanded {} Try.checked os 3 .any (Rows.headOwnSpec.pre6 enc Try.prog Try.f3 Rows.headOwnRow.domain false) (Rows.headOwnSpec.post enc Try.prog Try.f3 false true false false) := by
  refine returnsInHanded_of_change_sized (C := Try.checked) own started (by kernel_rfl) Try.func3
    (ChangeSpec.witness6 (enc := enc) (C := Try.checked) false ⟨#[], #[.agg #[.string .empty, .string .empty, .int .i64 0, .int .i64 0, .int .i64 0, .int .u8 0, .string .empty], .int .u8 0], []⟩ 8 (by kernel_rfl) (by kernel_rfl) (by kernel_rfl) (by kernel_rfl)) ?_
  intro W base args ds gs before hval0 hW hcnd hsz0 _
  have hval : ∀ (j : Nat) t v, Try.f3.params[j]? = some t → args[j]? = some v → Value.okWide Try.prog W .any base t v := hval0
  have hW' := hW
  obtain ⟨p, q, hA0, hV, rfl, hfz, hnd⟩ := hW
  have hA : DataW.TrodAll enc Try.prog W 0 (fun _ => true) true Try.f3.params.toList args.toList ds p := hA0
  have hsz : (DataW.weightsEach Try.prog (Try.f3.params.toList ++ Rows.headOwnSpec.plain.varTypes Try.prog) (ds ++ gs)).all (· ≤ reachBytes) = true := hsz0
  rw [Try.params3] at hA hval hsz
  obtain ⟨v0, vs0, d0, ds0, p0, q0, hargs, rfl, rfl, h0, r0⟩ := trodAll_cons hA
  obtain ⟨v1, vs1, d1, ds1, p1, q1, rfl, rfl, rfl, h1, r1⟩ := trodAll_cons r0
  obtain ⟨rfl, rfl, rfl⟩ := trodAll_nil r1
  obtain rfl : args = #[v0, v1] := by cases args; simp_all
  obtain ⟨rfl, rfl⟩ := trodVars_none hV
  have k0 := h0
  have lt0 : ∀ x ∈ p0, x.block < W.heap.size := by obtain ⟨m, hm⟩ := k0; exact DataW.trod_lt m _ _ _ hm
  obtain ⟨y0, rfl, w0⟩ := open_head (hval 0 23 v0 rfl rfl) h0 (fun x hx => by simpa using List.all_eq_true.1 hsz x (DataW.weights_mem_each (j := 0) (t := 23) rfl rfl x hx))
  obtain ⟨a1, rfl, rfl, rfl, w1⟩ := open_int Try.underlying5 (hval 1 5 v1 rfl rfl) h1
  clear hA0 hval0
  refine (walk y0 a1 W w0 w1).mono fun e W' ⟨he, bel⟩ => ?_
  subst he
  exact ⟨_, rfl, _, _, _, [], _, [], hW', trodAll_mk1 (shut_bool Try.underlying4 _), (trodAll_cons_mk (Below.trod laidOut (by kernel_rfl) (of_decide_eq_true (by kernel_rfl)) k0 bel lt0) (trodAll_cons_mk (shut_int Try.underlying5 w1) trodAll_mk0)), rfl, bel.frame _, fun h => by cases h⟩

theorem over : Rows.headOwnRow.holds Try.pinned (OpenSpec.ofChange Rows.headOwnSpec) :=
  OpenClaim.holds_of_wide 3 Try.f3 rfl rfl rfl rfl rfl rfl rfl ⟨rfl, rfl, rfl, rfl, rfl⟩ rfl rfl rfl rfl rfl (by kernel_rfl) Try.func3 (by kernel_rfl)
    (of_decide_eq_true (by kernel_rfl)) (by unfold Func.isWrapper; first | (rw [if_pos (by decide +kernel)]; kernel_rfl) | (rw [if_neg (by decide +kernel)]; exact ⟨rfl, rfl⟩))
    (fun os started H enc _ => lifted os started H enc)

theorem proved : Rows.HeadOwnSaid := over
#print axioms proved
end Go.Proofs.Ytkoacehgfmflmab.headOwn
