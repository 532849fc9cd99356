/- Contract of the program's own Text. -/
import Derived.Test.YtcpapaceggnaoaaDoorD5
namespace Go.Proofs.YtcpapaceggnaoaaDoor
open Go.RowKit Go.Deep

theorem index_b32 (w : World) (cur : Array Value) (k : Nat) (z : Int) (hk : k < 32) (h : cur[k]? = some (.int .u8 z)) :
    (Instr.index 23 (.agg cur) (.int .i64 (k : Int))).run Tryd.prog w = .ok (.int .u8 z) w := by
  simp [Instr.index, run_underlying Tryd.underlying23, asIntOf, hk, go_sem]
  rw [h]; rfl

set_option maxRecDepth 100000 in
set_option maxHeartbeats 4000000 in
theorem ptext_any (T : Array Value) (d : Nat → Nat) (hd : ∀ i, d i < 256) (hTs : T.size = 32) (hT : ∀ i, i < 32 → T[i]? = some (.int .u8 ((d i : Nat) : Int))) (w : World) :
    Calls Tryd.prog 12 #[.agg T] w fun e w' => e = .returned (.string (str (txtF d) 64)) ∧ Bw w w' := by
  obtain ⟨i0, hi0, hz0, hz1, hz2⟩ := info_parts info_u8
  have hi32 : (Tryd.prog.info? 23).map (·.size) = some T.size := by rw [hTs]; kernel_rfl
  have hT' : Hid (∀ i, i < 32 → T[i]? = some (.int .u8 ((d i : Nat) : Int))) := hT
  have hbx : Bw w (w.alloc (.cells T 23)) := (Below.refl _ _).alloc (Nat.le_refl _) _
  have hb0 : (w.alloc (.cells T 23)).heap[w.heap.size]? = some (.cells T 23 (0, 0)) := heap_alloc_new _ _
  clear hT
  go_enter Tryd.func12, Tryd.ntmps12
  go_wp2_with (first
    | (refine wpList_make_own _ rfl _ _ _ rfl (w.heap.size + 1) 5 i0 _ 1 Tryd.underlying22 hi0 hz0 hz1 .i64 .i64 64 64 rfl rfl rfl (by rw [hz2]; decide) (by unfold maxLen; decide) (by rw [size_alloc]; omega) ?_; intro w1 hown1 hgrow1)
    | refine wpList_load_row rfl 23 _ rfl w.heap.size rfl 23 T (0, 0) _ ((hgrow1.block w.heap.size (by rw [size_alloc]; omega) (by simp)).trans hb0) Tryd.underlying23 rfl hi32 ?_)
  have hbw1 : Below (w.heap.size + 1) (w.alloc (.cells T 23)) w1 := (Below.refl _ _).grown hgrow1 (by rw [size_alloc]; omega) (fun k hk => by cases hk)
  go_loopw [3, 8] (fun v i wr => ∃ k : Nat, k ≤ 32 ∧ i = .int .i64 k ∧ wr.ownsRow (w.heap.size + 1) 5 1 v (2 * k) (cellsU (txtF d) (2 * k)) ∧ Below (w.heap.size + 1) (w.alloc (.cells T 23)) wr) (fun _ i _ => 32 - (intOf i).toNat)
  case atStart => exact ⟨0, Nat.zero_le _, rfl, by rw [size_alloc] at hown1; exact hown1, hbw1⟩
  case round =>
    clear hown1 hgrow1 hbw1
    obtain ⟨k, hk, rfl, hown, hbw⟩ := hrel
    have hsz := hbw.size
    rw [size_alloc] at hsz
    by_cases hlt : k < 32
    · have hdk := hd k
      have k0 : (0 : Int) ≤ (k : Int) := Int.natCast_nonneg _
      have k1 : (k : Int) < 32 := by omega
      have hix := fun W : World => index_b32 W T k _ hlt (hT'.out k hlt)
      have x1 : ∀ W : World, (Instr.index 9 (.string { data := #[48, 49, 50, 51, 52, 53, 54, 55, 56, 57, 97, 98, 99, 100, 101, 102] }) (.int .u8 ((d k : Int) / 16))).run Tryd.prog W = .ok (.int .u8 (txtF d (2 * k))) W := fun W => by
        have := hex_at W (d k / 16) (by omega)
        rw [show ((d k / 16 : Nat) : Int) = (d k : Int) / 16 by omega] at this
        rw [this]; unfold txtF; rw [if_pos (by omega), show 2 * k / 2 = k by omega]
      have x2 : ∀ W : World, (Instr.index 9 (.string { data := #[48, 49, 50, 51, 52, 53, 54, 55, 56, 57, 97, 98, 99, 100, 101, 102] }) (.int .u8 (bits .and .u8 (d k : Int) 15))).run Tryd.prog W = .ok (.int .u8 (txtF d (2 * k + 1))) W := fun W => by
        have := hex_at W (d k % 16) (by omega)
        rw [and15 _ hdk, this]; unfold txtF; rw [if_neg (by omega), show (2 * k + 1) / 2 = k by omega]
      have hmx : 2 * k + 2 ≤ maxLen := by unfold maxLen; omega
      clear hb0
      go_wp2
      go_region_held3 (fun _ => True)
        (first | trivial)
        (first | (refine step_append_lies _ (by rfl) _ _ _ (by rfl) (w.heap.size + 1) 5 i0 _ 1 1 Tryd.underlying22 hi0 hz0 hz1 hz2 rfl (by omega) _ _ _ (by rfl) ((hown.alloc _).drew) ⟨wr.heap.size, 0, none⟩ 2 2 [_, _] (by rfl) (by rfl) (World.news_of_block (cs := #[_, _]) (t := 5) (fr := (0, 0)) (heap_alloc_new wr _)) (by simp [Value.oneCell']) (by omega) hmx (by omega) (by simp; omega) (wr.heap.size + 1) (by simp) ?_; intro gg cap w1 hown1 hgrow hat hlt'))
      all_goals
        go_wp2
        go_roundw
        case rel => exact ⟨k + 1, by omega, by go_num, by rw [show 2 * (k + 1) = 2 * k + 1 + 1 from rfl, cellsU_succ, cellsU_succ, List.append_assoc]; exact hown1, bw_grow hgrow ((Below.alloc hbw hsz _).drew) (by simp; omega) ((hown.alloc _).drew)⟩
        case measure => simp [intOf]; omega
    · have ek : k = 32 := by omega
      subst ek
      obtain ⟨A1, c1, e1, _, _, hr1, _⟩ := row_of_own (txtF_bd hd) hown
      subst e1
      have cv := conv_row (C := c1) hr1
      have hbw' : Bw w wr := Bw.trans hbx (by rw [← size_alloc w (.cells T 23)] at hbw; exact hbw)
      go_wp2
      go_ret
      exact ⟨rfl, hbw'⟩
end Go.Proofs.YtcpapaceggnaoaaDoor
