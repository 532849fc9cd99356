/- Proved: for any two numbers and every width the statement OctalOwn answers true (the document's P7.8: what Put answers is new memory, its spare room too), with no condition. -/
import Derived.Test.YthmkjccidmjlnabV7
import Derived.Test.YthmkjccidmjlnabK0
import Derived.ShutString
import Derived.ChangeOld
namespace Go.Proofs.Ythmkjccidmjlnab.octalOwn
open Go.ChangeShapes Go.WideShapes Go.ChangeAt Go.RowKit
set_option linter.unusedVariables false

set_option linter.unusedSimpArgs false
attribute [local go_sem] List.getElem?_cons_zero Option.getD_some
theorem oput_some (n z : Int) (hn : n ≤ 9223372036854775807) (w : World) : Calls Try.prog 6 #[.int .i64 n, .int .i64 z] w fun e w' => ∃ v c, e = .returned (.tuple #[v, .int .i64 c]) ∧ Bw w w' := by
  by_cases h : Oct.Has n z
  · obtain ⟨W, rfl⟩ := Int.eq_ofNat_of_zero_le (show 0 ≤ z by have := h.1; omega)
    exact (oput_yes n W hn h w).mono (fun e w' ⟨g, he, _, _, hw⟩ => ⟨_, _, he, hw⟩)
  · exact (oput_no n z hn h w).mono (fun e w' ⟨he, hw⟩ => ⟨_, _, he, hw⟩)
set_option maxRecDepth 100000 in
set_option maxHeartbeats 2000000 in
theorem own_no1 (n m z : Int) (hn : n ≤ 9223372036854775807) (hm : m ≤ 9223372036854775807) (h : ¬ Oct.Has n z) (w : World) :
    Calls Try.prog 3 #[.int .i64 n, .int .i64 m, .int .i64 z] w fun e w' => e = .returned (.bool true) ∧ Bw w w' := by
  have H : Hid (¬ Oct.Has n z) := h
  clear h
  have tok1 : Hid (n = n) := rfl
  have tok2 : Hid (n = n) := rfl
  obtain ⟨c, hc⟩ : ∃ c, Hid (c = Oct.errP n z) := ⟨_, rfl⟩
  have hne : (c != 0) = true := by rw [hc.out]; exact (Oct.errP_ne n z).1
  go_enter Try.func3, Try.ntmps3
  go_wp2_with (first
    | (go_at_call 5; refine (awake_any _).mono ?_; rintro e w1 ⟨rfl, hw1⟩)
    | (go_at_call 6; clear tok1; refine (oput_no n z hn H.out _).mono ?_; rintro e w2 ⟨rfl, hw2⟩; rw [← hc.out])
    | (go_at_call 6; clear tok2; refine (oput_some m z hm _).mono ?_; rintro e w3 ⟨v, d, rfl, hw3⟩)
    | (go_at_call 6; refine (oput_no n z hn H.out _).mono ?_; rintro e w4 ⟨rfl, hw4⟩; rw [← hc.out]))
  go_ret
  exact ⟨rfl, hw1.trans (hw2.trans (hw3.trans hw4))⟩
set_option maxRecDepth 100000 in
set_option maxHeartbeats 2000000 in
theorem own_no2 (n m : Int) (W : Nat) (hn : n ≤ 9223372036854775807) (hm : m ≤ 9223372036854775807) (h1 : Oct.Has n (W : Int)) (h : ¬ Oct.Has m (W : Int)) (w : World) :
    Calls Try.prog 3 #[.int .i64 n, .int .i64 m, .int .i64 (W : Int)] w fun e w' => e = .returned (.bool true) ∧ Bw w w' := by
  have H : Hid (¬ Oct.Has m (W : Int)) := h
  have H1 : Hid (Oct.Has n (W : Int)) := h1
  clear h h1
  have tok1 : Hid (n = n) := rfl
  have tok2 : Hid (n = n) := rfl
  obtain ⟨c, hc⟩ : ∃ c, Hid (c = Oct.errP m (W : Int)) := ⟨_, rfl⟩
  have hne : (c != 0) = true := by rw [hc.out]; exact (Oct.errP_ne m W).1
  go_enter Try.func3, Try.ntmps3
  go_wp2_with (first
    | (go_at_call 5; refine (awake_any _).mono ?_; rintro e w1 ⟨rfl, hw1⟩)
    | (go_at_call 6; clear tok1; refine (oput_yes n W hn H1.out _).mono ?_; rintro e w2 ⟨g2, rfl, ho2, hg2, hw2⟩; clear ho2 hg2)
    | (go_at_call 6; clear tok2; refine (oput_no m (W : Int) hm H.out _).mono ?_; rintro e w3 ⟨rfl, hw3⟩; rw [← hc.out])
    | (go_at_call 6; refine (oput_yes n W hn H1.out _).mono ?_; rintro e w4 ⟨g4, rfl, ho4, hg4, hw4⟩; clear ho4 hg4))
  go_ret
  exact ⟨rfl, hw1.trans (hw2.trans (hw3.trans hw4))⟩

/-- the blocks of three rows -/
def G3 (a b c j : Nat) : Nat := if j = 0 then a else if j = 1 then b else c
/-- three rows of W bytes, the first k of which are all 7 times their place, and so are the first t bytes of the next one -/
def Mid (G : Nat → Nat) (W : Nat) (w : World) (k t : Nat) : Prop := ∀ j, j < 3 → ∃ F, BlockIs w (G j) W F ∧ (j < k → ∀ c, c < W → F c = 7 * (j : Int)) ∧ (j = k → ∀ c, c < t → F c = 7 * (j : Int))
theorem Mid.next {G : Nat → Nat} {W : Nat} {w : World} {k : Nat} (h : Mid G W w k W) : Mid G W w (k + 1) 0 := fun j hj => by
  obtain ⟨F, h1, h2, h3⟩ := h j hj
  refine ⟨F, h1, fun hk c hc => ?_, fun _ c hc => by omega⟩
  rcases Nat.lt_or_ge j k with h | h
  · exact h2 h c hc
  · exact h3 (by omega) c hc
theorem Mid.set {G : Nat → Nat} {W : Nat} {w : World} {k t : Nat} (hne : ∀ i j, i < 3 → j < 3 → i ≠ j → G i ≠ G j) (h : Mid G W w k t) (hk : k < 3) (ht : t < W) : Mid G W (w.setCell ⟨G k, t, none⟩ (.int .u8 (7 * (k : Int)))) k (t + 1) := fun j hj => by
  obtain ⟨F, h1, h2, h3⟩ := h j hj
  by_cases e : j = k
  · subst e
    refine ⟨fun c => if c = t then 7 * (j : Int) else F c, h1.set ht (if_pos rfl) (fun c _ hc => if_neg hc), fun h => by omega, fun _ c hc => ?_⟩
    dsimp only
    by_cases hct : c = t
    · rw [if_pos hct]
    · rw [if_neg hct]; exact h3 rfl c (by omega)
  · obtain ⟨cur, c1, c2, c3⟩ := h1
    exact ⟨F, ⟨cur, (heap_setCell_other w ⟨G k, t, none⟩ (G j) _ (fun e' => hne j k hj hk e (by simpa using e'))).trans c1, c2, c3⟩, h2, fun e' => absurd e' e⟩
/-- a row of 7 times its place, and twenty bytes more -/
def longF (W : Nat) (j : Nat) (c : Nat) : Int := if c < W then 7 * (j : Int) else 7 * (j : Int) + 1
theorem longF_bd {W j : Nat} (hj : j < 3) (c : Nat) : 0 ≤ longF W j c ∧ longF W j c < 256 := by unfold longF; split <;> omega
/-- the list of the long rows -/
def cellsL (P C : Nat → Nat) (n k : Nat) : List Value := (List.range k).map fun j => .slice (some ⟨P j, 0, none⟩) n (C j)
theorem cellsL_succ (P C : Nat → Nat) (n k g c : Nat) : cellsL (fun j => if j = k then g else P j) (fun j => if j = k then c else C j) n (k + 1) = cellsL P C n k ++ [.slice (some ⟨g, 0, none⟩) n c] := by
  unfold cellsL
  rw [List.range_succ, List.map_append]
  congr 1
  · exact List.map_congr_left fun i hi => by have := List.mem_range.1 hi; dsimp only; rw [if_neg (by omega), if_neg (by omega)]
  · simp
set_option maxRecDepth 100000 in
set_option maxHeartbeats 4000000 in
theorem own_yes (n m : Int) (W : Nat) (hn : n ≤ 9223372036854775807) (hm : m ≤ 9223372036854775807) (h1 : Oct.Has n (W : Int)) (h2 : Oct.Has m (W : Int)) (w : World) :
    Calls Try.prog 3 #[.int .i64 n, .int .i64 m, .int .i64 (W : Int)] w fun e w' => e = .returned (.bool true) ∧ Bw w w' := by
  obtain ⟨i0, hi0, hz0, hz1, hz2⟩ := info_parts info_u8
  obtain ⟨j0, hj0, hy0, hy1, hy2⟩ := info_parts info_rows7
  have H1 : Hid (Oct.Has n (W : Int)) := h1
  have H2 : Hid (Oct.Has m (W : Int)) := h2
  have W2 : 2 ≤ W := by have := h1.1; omega
  have W12 : W ≤ 12 := by have := h1.2.1; omega
  have tok1 : Hid (n = n) := rfl
  have tok2 : Hid (n = n) := rfl
  have tok3 : Hid (n = n) := rfl
  clear h1 h2
  go_enter Try.func3, Try.ntmps3
  go_wp2_with (first
    | (go_at_call 5; refine (awake_any _).mono ?_; rintro e w1 ⟨rfl, hw1⟩)
    | (go_at_call 6; clear tok1; refine (oput_yes n W hn H1.out _).mono ?_; rintro e w2 ⟨ga, rfl, ho2, hg2, hw2⟩)
    | (go_at_call 6; clear tok2; refine (oput_yes m W hm H2.out _).mono ?_; rintro e w3 ⟨gb, rfl, ho3, hg3, hw3⟩)
    | (go_at_call 6; clear tok3; refine (oput_yes n W hn H1.out _).mono ?_; rintro e w4 ⟨gc, rfl, ho4, hg4, hw4⟩)
    | (refine wpList_three7 rfl _ _ _ rfl (some ⟨ga, 0, none⟩) (some ⟨gb, 0, none⟩) (some ⟨gc, 0, none⟩) W (by rfl) (by rfl) (by rfl) ?_))
  obtain ⟨h, hh⟩ : ∃ h, h = w4.heap.size := ⟨_, rfl⟩
  obtain ⟨G, hG⟩ : ∃ G, G = G3 ga gb gc := ⟨_, rfl⟩
  have l2 := (Array.getElem?_eq_some_iff.1 ho2.choose_spec.1).1
  have l3 := (Array.getElem?_eq_some_iff.1 ho3.choose_spec.1).1
  have l4 := (Array.getElem?_eq_some_iff.1 ho4.choose_spec.1).1
  have z1 := hw1.size
  have z2 := hw2.size
  have z3 := hw3.size
  have z4 := hw4.size
  have g0 : G 0 = ga := by rw [hG]; rfl
  have g1 : G 1 = gb := by rw [hG]; rfl
  have g2 : G 2 = gc := by rw [hG]; rfl
  have HNE : Hid (∀ i j, i < 3 → j < 3 → i ≠ j → G i ≠ G j) := fun i j hi hj hne => by
    rcases (show i = 0 ∨ i = 1 ∨ i = 2 by omega) with rfl | rfl | rfl <;> rcases (show j = 0 ∨ j = 1 ∨ j = 2 by omega) with rfl | rfl | rfl <;> omega
  have HGB : Hid (∀ j, j < 3 → G j < h ∧ w.heap.size ≤ G j) := fun j hj => by
    rcases (show j = 0 ∨ j = 1 ∨ j = 2 by omega) with rfl | rfl | rfl <;> omega
  have H5H : Hid ((w4.alloc (.cells #[.slice (some ⟨ga, 0, none⟩) W W, .slice (some ⟨gb, 0, none⟩) W W, .slice (some ⟨gc, 0, none⟩) W W] 23)).heap[h]? = some (.cells #[.slice (some ⟨ga, 0, none⟩) W W, .slice (some ⟨gb, 0, none⟩) W W, .slice (some ⟨gc, 0, none⟩) W W] 23 (0, 0))) := by
    show _ = _
    rw [hh]; exact heap_alloc_new _ _
  have H5M : Hid (Mid G W (w4.alloc (.cells #[.slice (some ⟨ga, 0, none⟩) W W, .slice (some ⟨gb, 0, none⟩) W W, .slice (some ⟨gc, 0, none⟩) W W] 23)) 0 0) := fun j hj => by
    refine ⟨Oct.formF (if j = 1 then m.toNat else n.toNat) W, ?_, fun h => by omega, fun _ c hc => by omega⟩
    rcases (show j = 0 ∨ j = 1 ∨ j = 2 by omega) with rfl | rfl | rfl
    · rw [g0, if_neg (by decide)]; exact ((ho2.keep hw3).keep hw4).keep (bw_alloc7 (Bw.refl _) _)
    · rw [g1, if_pos rfl]; exact (ho3.keep hw4).keep (bw_alloc7 (Bw.refl _) _)
    · rw [g2, if_neg (by decide)]; exact ho4.keep (bw_alloc7 (Bw.refl _) _)
  have H5C : Hid (∀ j, j < 3 → (w4.alloc (.cells #[.slice (some ⟨ga, 0, none⟩) W W, .slice (some ⟨gb, 0, none⟩) W W, .slice (some ⟨gc, 0, none⟩) W W] 23)).cell? ⟨h, j, none⟩ = some (.slice (some ⟨G j, 0, none⟩) W W)) := fun j hj => by
    rw [cell_of_row _ h j _ _ _ H5H.out]
    rcases (show j = 0 ∨ j = 1 ∨ j = 2 by omega) with rfl | rfl | rfl
    · rw [g0]; rfl
    · rw [g1]; rfl
    · rw [g2]; rfl
  have H5B : Hid (Bw w (w4.alloc (.cells #[.slice (some ⟨ga, 0, none⟩) W W, .slice (some ⟨gb, 0, none⟩) W W, .slice (some ⟨gc, 0, none⟩) W W] 23))) := bw_alloc7 (hw1.trans (hw2.trans (hw3.trans hw4))) _
  rw [← hh]
  clear hh hG g0 g1 g2 l2 l3 l4 z1 z2 z3 z4 ho2 ho3 ho4 hg2 hg3 hg4 hw1 hw2 hw3 hw4
  generalize w4.alloc (.cells #[.slice (some ⟨ga, 0, none⟩) W W, .slice (some ⟨gb, 0, none⟩) W W, .slice (some ⟨gc, 0, none⟩) W W] 23) = w5 at *
  have HHK : Hid (∀ w', Bx (fun b => ∃ j, j < 3 ∧ b = G j) w5 w' → ∀ j, j < 3 → w'.cell? ⟨h, j, none⟩ = some (.slice (some ⟨G j, 0, none⟩) W W)) := fun w' hx j hj => by
    have := H5C.out j hj
    rw [World.cell?_of_block (w := w5) (hx.block h (block_lt_of_cell this) (fun ⟨i, hi, e⟩ => by have := (HGB.out i hi).1; omega))]
    exact this
  go_loopw [14] (fun i wr => ∃ k : Nat, k ≤ 3 ∧ i = .int .i64 (k : Int) ∧ Hid (Mid G W wr k 0) ∧ Bx (fun b => ∃ j, j < 3 ∧ b = G j) w5 wr) (fun i _ => 3 - (intOf i).toNat)
  case atStart => exact ⟨0, by omega, rfl, H5M.out, Bx.refl _ _⟩
  case round =>
    obtain ⟨k, hk, rfl, hM, hx⟩ := hrel
    have k0 : (0 : Int) ≤ (k : Int) := Int.natCast_nonneg _
    by_cases hk3 : k < 3
    · rename World => wo
      have t3 : (k : Int) < 3 := by omega
      go_wp2
      go_loopw [15] (fun i wr => ∃ t : Nat, t ≤ W ∧ i = .int .i64 (t : Int) ∧ Hid (Mid G W wr k t) ∧ Bx (fun b => ∃ j, j < 3 ∧ b = G j) w5 wr) (fun i _ => W - (intOf i).toNat)
      case atStart => exact ⟨0, Nat.zero_le _, rfl, hM.out, hx⟩
      case round =>
        clear hM hx
        obtain ⟨t, ht, rfl, hM, hx⟩ := hrel
        have t0 : (0 : Int) ≤ (t : Int) := Int.natCast_nonneg _
        have ck := HHK.out _ hx k hk3
        by_cases htW : t < W
        · have t1 : (t : Int) < (W : Int) := by omega
          obtain ⟨F, hB, -, -⟩ := hM.out k hk3
          obtain ⟨c1, c2⟩ := hB.cell htW
          have hset := Mid.set HNE.out hM.out hk3 htW
          have HSET : Hid (Mid G W (wr.setCell ⟨G k, t, none⟩ (.int .u8 (7 * (k : Int)))) k (t + 1)) := hset
          clear hset hB
          go_wp2
          go_roundw
          case rel => exact ⟨t + 1, by omega, by go_num, HSET, hx.put ⟨k, hk3, rfl⟩⟩
          case measure => simp [intOf]; omega
        · have et : t = W := by omega
          subst et
          have hN : Hid (Mid G t wr (k + 1) 0) := hM.out.next
          go_wp2
          go_roundw
          case rel => exact ⟨k + 1, by omega, by go_num, hN, hx⟩
          case measure => simp [intOf]; omega
    · have ek : k = 3 := by omega
      subst ek
      rename World => w6
      have HG6 : Hid (∀ w', Bw w6 w' → ∀ j, j < 3 → RowAt w' (some ⟨G j, 0, none⟩) W (fun _ => 7 * (j : Int))) := fun w' hb j hj => by
        obtain ⟨F, hB, h7, -⟩ := hM.out j hj
        exact ((hB.congr (f' := fun _ => 7 * (j : Int)) (fun c hc => (h7 hj c hc).symm)).keep hb).row (fun _ => by omega)
      have HC6 : Hid (∀ w', Bw w6 w' → ∀ j, j < 3 → w'.cell? ⟨h, j, none⟩ = some (.slice (some ⟨G j, 0, none⟩) W W)) := fun w' hb j hj => by
        have := HHK.out _ hx j hj
        rw [hb.cell (p := ⟨h, j, none⟩) (block_lt_of_cell this)]
        exact this
      have HB6 : Hid (∀ w', Bw w6 w' → Bw w w') := fun w' hb => by
        have h5 := H5B.out
        exact Bw.trans ⟨hx.os.trans h5.os, hx.tape.trans h5.tape, hx.output.trans h5.output, Nat.le_trans h5.size hx.size, fun b hb => (hx.block b (Nat.lt_of_lt_of_le hb h5.size) (fun ⟨i, hi, e⟩ => by have := (HGB.out i hi).2; omega)).trans (h5.block b hb)⟩ hb
      clear hM hx H5H H5M H5C H5B HHK
      go_wp2
      go_loopw [16, 17] (fun v i wr => ∃ (k : Nat) (P C : Nat → Nat), k ≤ 3 ∧ i = .int .i64 (k : Int) ∧ wr.ownsRow w6.heap.size 23 1 v k (cellsL P C (W + 20) k) ∧ Hid (∀ j, j < k → Own wr (P j) (W + 20) (longF W j)) ∧ Bw w6 wr) (fun _ i _ => 3 - (intOf i).toNat)
      case atStart => exact ⟨0, fun _ => 0, fun _ => 0, by omega, rfl, World.ownsRow_nil _ _ _ _, fun j hj => by omega, Bw.refl _⟩
      case round =>
        obtain ⟨k, P, C, hk, rfl, hown, hP, hb⟩ := hrel
        have k0 : (0 : Int) ≤ (k : Int) := Int.natCast_nonneg _
        by_cases hk3 : k < 3
        · rename World => wo
          have t3 : (k : Int) < 3 := by omega
          have ck := HC6.out _ hb k hk3
          have hrG := HG6.out _ hb k hk3
          have szo := hb.size
          go_wp2
          go_loopw [18, 19] (fun l i wr => ∃ t : Nat, t ≤ 20 ∧ i = .int .i64 (t : Int) ∧ Bw wo wr ∧ ((t = 0 ∧ l = .slice (some ⟨G k, 0, none⟩) W W) ∨ (0 < t ∧ wr.ownsRow wo.heap.size 5 1 l (W + t) (cellsU (longF W k) (W + t))))) (fun _ i _ => 20 - (intOf i).toNat)
          case atStart => exact ⟨0, by omega, rfl, Bw.refl _, Or.inl ⟨rfl, rfl⟩⟩
          case round =>
            obtain ⟨t, ht, rfl, hbo, hl⟩ := hrel
            have t0 : (0 : Int) ≤ (t : Int) := Int.natCast_nonneg _
            have szr := hbo.size
            by_cases ht20 : t < 20
            · have t1 : (t : Int) < 20 := by omega
              have hval : Hid (longF W k (W + t) = 7 * (k : Int) + 1) := by show _ = _; unfold longF; rw [if_neg (by omega)]
              have hmx : W + t + 1 ≤ maxLen := by unfold maxLen; omega
              rcases hl with ⟨ht0, rfl⟩ | ⟨htp, hownl⟩
              · have hcl : Hid (cellsU (fun _ => 7 * (k : Int)) W ++ [.int .u8 (7 * (k : Int) + 1)] = cellsU (longF W k) (W + (t + 1))) := by
                  show _ = _
                  subst ht0
                  rw [show W + (0 + 1) = W + 1 from rfl, cellsU_succ]
                  congr 1
                  · exact List.map_congr_left fun i hi => by unfold longF; rw [if_pos (List.mem_range.1 hi)]
                  · unfold longF; rw [if_neg (by omega)]
                subst ht0
                go_wp2_with (at_builtin; refine wpList_append_full7 (by rfl) _ _ (by rfl) (some ⟨G k, 0, none⟩) W (fun _ => 7 * (k : Int)) (by rfl) ((hrG.keep hbo).keep (bw_alloc7 (Bw.refl _) _)) (by omega) ⟨wr.heap.size, 0, none⟩ 1 1 [_] (by rfl) (by rfl) (World.news_of_block (cs := #[_]) (t := 5) (fr := (0, 0)) (heap_alloc_new wr _)) (by simp [Value.oneCell']) (by omega) (by omega) ?_; intro v4 w4 hown4 hbw4)
                go_roundw
                case rel => (repeat apply Exists.intro); exact ⟨⟨1, by omega, by go_num, hbo.trans ((bw_alloc7 (Bw.refl _) _).trans hbw4), Or.inr ⟨by omega, by rw [← hcl.out]; exact own_lower hown4 (by rw [size_alloc]; omega)⟩⟩, rfl⟩
                case measure => simp [intOf]
              · go_wp2_with (at_builtin; refine wpList_append_lies _ (by rfl) (.tmp 97) (.tmp 102) _ (by rfl) wo.heap.size 5 i0 _ 1 1 Try.underlying23 hi0 hz0 hz1 hz2 rfl (by omega) _ _ _ (by rfl) (hownl.alloc _) ⟨wr.heap.size, 0, none⟩ 1 1 [_] (by rfl) (by rfl) (World.news_of_block (cs := #[_]) (t := 5) (fr := (0, 0)) (heap_alloc_new wr _)) (by simp [Value.oneCell']) (by omega) hmx (by omega) (by simp; omega) (wr.heap.size + 1) (by simp) ?_; intro g4 c4 w4 hown4 hgrow4 hat4 hlt4)
                go_roundw
                case rel => (repeat apply Exists.intro); exact ⟨⟨t + 1, by omega, by go_num, bw_grow hgrow4 (Below.alloc hbo szr _) (by rw [size_alloc]; omega) (hownl.alloc _), Or.inr ⟨by omega, by rw [show W + (t + 1) = W + t + 1 from rfl, cellsU_succ, hval.out]; exact hown4⟩⟩, rfl⟩
                case measure => simp [intOf]; omega
            · have et : t = 20 := by omega
              subst et
              rcases hl with ⟨h0, -⟩ | ⟨-, hownl⟩
              · omega
              obtain ⟨g1, c1, rfl, hg1, hc1, hc1', ho1⟩ := Own.of hownl (by omega)
              have HO1 : Hid (Own wr g1 (W + 20) (longF W k)) := ho1
              have hPr : Hid (∀ j, j < k → Own wr (P j) (W + 20) (longF W j)) := fun j hj => (hP.out j hj).keep hbo
              have hownr := own_keep hown hbo
              have hbr := hb.trans hbo
              have szb := hbr.size
              clear ho1 hownl hown hrG ck
              go_wp2_with (at_builtin; refine wpList_append_lies _ (by rfl) (.tmp 104) (.tmp 106) _ (by rfl) w6.heap.size 23 j0 _ 1 24 Try.underlying27 hj0 hy0 hy1 hy2 rfl (by omega) _ _ _ (by rfl) (hownr.alloc _) ⟨wr.heap.size, 0, none⟩ 1 1 [.slice (some ⟨g1, 0, none⟩) (W + 20) c1] (by rfl) (by rfl) (World.news_of_block (cs := #[_]) (t := 23) (fr := (0, 0)) (heap_alloc_new wr _)) (by simp [Value.oneCell']) (by omega) (by unfold maxLen; omega) (by omega) (by simp; omega) (wr.heap.size + 1) (by simp) ?_; intro g4 c4 w4 hown4 hgrow4 hat4 hlt4)
              have hbw4 : Bw w6 w4 := bw_grow hgrow4 (Below.alloc hbr szb _) (by rw [size_alloc]; omega) (hownr.alloc _)
              have hkeep : ∀ g f, Own wr g (W + 20) f → Own w4 g (W + 20) f := fun g f ⟨cur, e1, e2⟩ => by
                have hlt := (Array.getElem?_eq_some_iff.1 e1).1
                have e3 := (heap_alloc_old wr (.cells #[.slice (some ⟨g1, 0, none⟩) (W + 20) c1] 23) hlt).trans e1
                exact ⟨cur, (hgrow4.block g (by rw [size_alloc]; omega) (own_apart7 (hownr.alloc _) e3 (by decide))).trans e3, e2⟩
              go_roundw
              case rel => (repeat apply Exists.intro); exact ⟨⟨k + 1, (fun j => if j = k then g1 else P j), (fun j => if j = k then c1 else C j), by omega, by go_num, by rw [cellsL_succ]; exact hown4, fun j hj => by
                by_cases e : j = k
                · subst e; dsimp only; rw [if_pos rfl]; exact hkeep _ _ HO1.out
                · dsimp only; rw [if_neg e]; exact hkeep _ _ (hPr.out j (by omega)), hbw4⟩, rfl⟩
              case measure => simp [intOf]; omega
        · have ek : k = 3 := by omega
          subst ek
          rename World => w7
          obtain ⟨gl, cl, cur, rfl, hgl, hcur, hcl3, -, -, htk⟩ : ∃ gl cl cur, _ = Value.slice (some ⟨gl, 0, none⟩) 3 cl ∧ w6.heap.size ≤ gl ∧ w7.heap[gl]? = some (.cells cur 23 (0, 0)) ∧ 3 ≤ cl ∧ cl ≤ maxLen ∧ cur.size = cl * 1 ∧ cur.toList.take (3 * 1) = cellsL P C (W + 20) 3 := by
            rcases hown.2 with ⟨_, h0⟩ | ⟨gl, cl, cur, hv, hr⟩
            · omega
            · exact ⟨gl, cl, cur, hv, hr⟩
          have HCL : Hid (∀ j, j < 3 → w7.cell? ⟨gl, j, none⟩ = some (.slice (some ⟨P j, 0, none⟩) (W + 20) (C j))) := fun j hj => by
            rw [cell_of_row w7 gl j cur _ _ hcur]
            have e : (cur.toList.take (3 * 1))[j]? = (cellsL P C (W + 20) 3)[j]? := by rw [htk]
            rw [List.getElem?_take, if_pos (by omega), Array.getElem?_toList] at e
            rw [e]
            unfold cellsL
            rw [List.getElem?_map, List.getElem?_range hj]; rfl
          have HCA := HC6.out _ hb
          have HCA' : Hid (∀ j, j < 3 → w7.cell? ⟨h, j, none⟩ = some (.slice (some ⟨G j, 0, none⟩) W W)) := HCA
          have HRG : Hid (∀ j, j < 3 → ∀ c, c < W → w7.cell? ⟨G j, c, none⟩ = some (.int .u8 (7 * (j : Int)))) := fun j hj c hc => by
            obtain ⟨b', o', e, hcc⟩ := (HG6.out _ hb j hj).at hc
            cases e
            have := hcc c hc
            rwa [Nat.zero_add] at this
          have hbw := HB6.out _ hb
          clear HCA HC6 HG6 HB6 hown hcur htk hb
          have HPL : Hid (∀ j, j < 3 → ∀ c, c < W + 20 → w7.cell? ⟨P j, c, none⟩ = some (.int .u8 (longF W j c))) := fun j hj c hc => ((hP.out j hj).cell hc).1
          have n0 : 0 ≤ n := H1.out.2.2.1
          have hSF : Hid (Oct.Says W (Oct.formF n.toNat W) n 0 0) := by
            have := Oct.form_says (n := n.toNat) (W := W) W2 W12 (by have := H1.out.2.2.2; rwa [Int.toNat_natCast] at this) (by omega)
            rwa [Int.toNat_of_nonneg n0] at this
          have hIF : Hid (IsForm W (Oct.formF n.toNat W) n.toNat) := ⟨by have := H1.out.2.2.2; rwa [Int.toNat_natCast] at this, fun i _ => rfl⟩
          clear hP hgl hcl3
          go_wp2
          go_loop [6, 20] (fun r i => ∃ k : Nat, k ≤ 3 ∧ r = .bool false ∧ i = .int .i64 (k : Int)) (fun _ i => 3 - (intOf i).toNat)
          case atStart => exact ⟨0, by omega, rfl, rfl⟩
          case round =>
            obtain ⟨k, hk, rfl, rfl⟩ := hrel
            have k0 : (0 : Int) ≤ (k : Int) := Int.natCast_nonneg _
            by_cases hk3 : k < 3
            · have t3 : (k : Int) < 3 := by omega
              have c1 := HCL.out k hk3
              have c2 := HCA'.out k hk3
              go_wp2
              go_loop [6, 21] (fun r i => ∃ t : Nat, t ≤ W + 20 ∧ r = .bool false ∧ i = .int .i64 (t : Int)) (fun _ i => W + 20 - (intOf i).toNat)
              case atStart => exact ⟨0, by omega, rfl, rfl⟩
              case round =>
                obtain ⟨t, ht, rfl, rfl⟩ := hrel
                have t0 : (0 : Int) ≤ (t : Int) := Int.natCast_nonneg _
                by_cases htW : t < W
                · have t1 : (t : Int) < (W : Int) := by omega
                  have t2 : (t : Int) < (W : Int) + 20 := by omega
                  have c3 := HRG.out k hk3 t htW
                  have c4 : w7.cell? ⟨P k, t, none⟩ = some (.int .u8 (7 * (k : Int))) := by
                    have := HPL.out k hk3 t (by omega)
                    unfold longF at this; rwa [if_pos htW] at this
                  have t4 : ¬ (W : Int) ≤ (t : Int) := by omega
                  go_wp2
                  go_round
                  case rel => exact ⟨t + 1, by omega, rfl, by go_num⟩
                  case measure => simp [intOf]; omega
                · by_cases ht20 : t < W + 20
                  · have t1 : ¬ (t : Int) < (W : Int) := by omega
                    have t2 : (t : Int) < (W : Int) + 20 := by omega
                    have c4 : w7.cell? ⟨P k, t, none⟩ = some (.int .u8 (7 * (k : Int) + 1)) := by
                      have := HPL.out k hk3 t (by omega)
                      unfold longF at this; rwa [if_neg htW] at this
                    have t4 : (W : Int) ≤ (t : Int) := by omega
                    go_wp2
                    go_round
                    case rel => exact ⟨t + 1, by omega, rfl, by go_num⟩
                    case measure => simp [intOf]; omega
                  · have t2 : ¬ (t : Int) < (W : Int) + 20 := by omega
                    go_wp2
                    go_round
                    case rel => first | exact ⟨k + 1, by omega, by go_num⟩ | exact ⟨k + 1, by omega, rfl, by go_num⟩
                    case measure => simp [intOf]; omega
            · have ek : k = 3 := by omega
              subst ek
              go_wp2_with (first
                | (go_at_call 6; refine (oput_yes n W hn H1.out _).mono ?_; rintro e w8 ⟨g8, rfl, ho8, hg8, hw8⟩; have hr8 := ho8.row (Oct.formF_bd _ _); clear ho8 hg8)
                | (go_at_call 7; refine (oexact_any _ W W (Oct.formF n.toNat W) (Nat.le_refl _) _ hr8 n 0 0 hSF.out).mono ?_; rintro e w9 ⟨hx, hw9⟩; obtain rfl := hx.yes rfl hIF.out; clear hx))
              go_ret
              exact ⟨rfl, hbw.trans (hw8.trans hw9)⟩
theorem walk (a0 : Int) (a1 : Int) (a2 : Int) (w : World) (w0 : (Lit.int .i64 a0).wf = true) (w1 : (Lit.int .i64 a1).wf = true) (w2 : (Lit.int .i64 a2).wf = true) :
    Calls Try.prog 3 #[.int .i64 a0, .int .i64 a1, .int .i64 a2] w fun e w' => e = .returned (.bool true) ∧ Below w.heap.size w w' := by
  have b0 := bounds_i64 w0
  have b1 := bounds_i64 w1
  by_cases h : Oct.Has a0 a2
  · obtain ⟨W, rfl⟩ := Int.eq_ofNat_of_zero_le (show 0 ≤ a2 by have := h.1; omega)
    by_cases h2 : Oct.Has a1 (W : Int)
    · exact own_yes a0 a1 W (by omega) (by omega) h h2 w
    · exact own_no2 a0 a1 W (by omega) (by omega) h h2 w
  · exact own_no1 a0 a1 a2 (by omega) (by omega) h w

set_option maxRecDepth 100000 in
theorem lifted (os : Os) (started : os.Started) (H : Type) (enc : TypeId × Value → H) :
    ReturnsInHanded {} Try.checked os 3 .any (Rows.octalOwnSpec.pre6 enc Try.prog Try.f3 Rows.octalOwnRow.domain false) (Rows.octalOwnSpec.post enc Try.prog Try.f3 false true false false) := by
  refine returnsInHanded_of_change_sized (C := Try.checked) own started (by kernel_rfl) Try.func3
    (ChangeSpec.witness6 (enc := enc) (C := Try.checked) false ⟨#[], #[.int .i64 0, .int .i64 0, .int .i64 0], []⟩ 8 (by kernel_rfl) (by kernel_rfl) (by kernel_rfl) (by kernel_rfl)) ?_
  intro W base args ds gs before hval0 hW hcnd hsz0 _
  have hval : ∀ (j : Nat) t v, Try.f3.params[j]? = some t → args[j]? = some v → Value.okWide Try.prog W .any base t v := hval0
  have hW' := hW
  obtain ⟨p, q, hA0, hV, rfl, hfz, hnd⟩ := hW
  have hA : DataW.TrodAll enc Try.prog W 0 (fun _ => true) true Try.f3.params.toList args.toList ds p := hA0
  have hsz : (DataW.weightsEach Try.prog (Try.f3.params.toList ++ Rows.octalOwnSpec.plain.varTypes Try.prog) (ds ++ gs)).all (· ≤ reachBytes) = true := hsz0
  rw [Try.params3] at hA hval hsz
  obtain ⟨v0, vs0, d0, ds0, p0, q0, hargs, rfl, rfl, h0, r0⟩ := trodAll_cons hA
  obtain ⟨v1, vs1, d1, ds1, p1, q1, rfl, rfl, rfl, h1, r1⟩ := trodAll_cons r0
  obtain ⟨v2, vs2, d2, ds2, p2, q2, rfl, rfl, rfl, h2, r2⟩ := trodAll_cons r1
  obtain ⟨rfl, rfl, rfl⟩ := trodAll_nil r2
  obtain rfl : args = #[v0, v1, v2] := by cases args; simp_all
  obtain ⟨rfl, rfl⟩ := trodVars_none hV
  obtain ⟨a0, rfl, rfl, rfl, w0⟩ := open_int Try.underlying3 (hval 0 3 v0 rfl rfl) h0
  obtain ⟨a1, rfl, rfl, rfl, w1⟩ := open_int Try.underlying3 (hval 1 3 v1 rfl rfl) h1
  obtain ⟨a2, rfl, rfl, rfl, w2⟩ := open_int Try.underlying3 (hval 2 3 v2 rfl rfl) h2
  clear hA0 hval0
  refine (walk a0 a1 a2 W w0 w1 w2).mono fun e W' ⟨he, bel⟩ => ?_
  subst he
  exact ⟨_, rfl, _, _, _, [], _, [], hW', trodAll_mk1 (shut_bool Try.underlying4 _), (trodAll_cons_mk (shut_int Try.underlying3 w0) (trodAll_cons_mk (shut_int Try.underlying3 w1) (trodAll_cons_mk (shut_int Try.underlying3 w2) trodAll_mk0))), rfl, bel.frame _, fun h => by cases h⟩

theorem over : Rows.octalOwnRow.holds Try.pinned (OpenSpec.ofChange Rows.octalOwnSpec) :=
  OpenClaim.holds_of_wide 3 Try.f3 rfl rfl rfl rfl rfl rfl rfl ⟨rfl, rfl, rfl, rfl, rfl⟩ rfl rfl rfl rfl rfl (by kernel_rfl) Try.func3 (by kernel_rfl)
    (of_decide_eq_true (by kernel_rfl)) (by unfold Func.isWrapper; first | (rw [if_pos (by decide +kernel)]; kernel_rfl) | (rw [if_neg (by decide +kernel)]; exact ⟨rfl, rfl⟩))
    (fun os started H enc _ => lifted os started H enc)

theorem proved : Rows.OctalOwnSaid := over
#print axioms proved
end Go.Proofs.Ythmkjccidmjlnab.octalOwn
