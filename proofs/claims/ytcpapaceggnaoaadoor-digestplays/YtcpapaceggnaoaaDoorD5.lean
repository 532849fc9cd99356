/- Contract of the document's own Text, of layer 5. -/
import Derived.Test.YtcpapaceggnaoaaDoorD4
namespace Go.Proofs.YtcpapaceggnaoaaDoor
open Go.RowKit Go.Deep

/-- a digit to the base 16 -/
def hexd (v : Nat) : Nat := if v < 10 then 48 + v else 87 + v
/-- letter i of a digest's text -/
def txtF (d : Nat → Nat) (i : Nat) : Int := ((hexd (if i % 2 = 0 then d (i / 2) / 16 else d (i / 2) % 16) : Nat) : Int)
theorem hexd_lt {v : Nat} (h : v < 16) : hexd v < 256 := by unfold hexd; split <;> omega
theorem txtF_bd {d : Nat → Nat} (hd : ∀ i, d i < 256) (i : Nat) : 0 ≤ txtF d i ∧ txtF d i < 256 := by
  have h := hd (i / 2)
  have := hexd_lt (v := if i % 2 = 0 then d (i / 2) / 16 else d (i / 2) % 16) (by split <;> omega)
  unfold txtF; omega
theorem hex_lit (w : World) (v : Nat) (z : Int) (e : ((({ data := #[48, 49, 50, 51, 52, 53, 54, 55, 56, 57, 97, 98, 99, 100, 101, 102] } : ByteArray)[v]?).map fun b => (b.toNat : Int)) = some z) : (Instr.index 9 (.string { data := #[48, 49, 50, 51, 52, 53, 54, 55, 56, 57, 97, 98, 99, 100, 101, 102] }) (.int .u8 (v : Int))).run Tryd.prog w = .ok (.int .u8 z) w := by
  obtain ⟨b, hb, rfl⟩ := Option.map_eq_some_iff.1 e
  simp [Instr.index, run_underlying Tryd.underlying9, asIntOf, hb]
theorem hex_at (w : World) (v : Nat) (h : v < 16) : (Instr.index 9 (.string { data := #[48, 49, 50, 51, 52, 53, 54, 55, 56, 57, 97, 98, 99, 100, 101, 102] }) (.int .u8 (v : Int))).run Tryd.prog w = .ok (.int .u8 ((hexd v : Nat) : Int)) w := by
  have h' : v = 0 ∨ v = 1 ∨ v = 2 ∨ v = 3 ∨ v = 4 ∨ v = 5 ∨ v = 6 ∨ v = 7 ∨ v = 8 ∨ v = 9 ∨ v = 10 ∨ v = 11 ∨ v = 12 ∨ v = 13 ∨ v = 14 ∨ v = 15 := by omega
  rcases h' with rfl | rfl | rfl | rfl | rfl | rfl | rfl | rfl | rfl | rfl | rfl | rfl | rfl | rfl | rfl | rfl <;> exact hex_lit w _ _ (by rfl)
theorem and15 (x : Nat) (hx : x < 256) : bits .and .u8 (x : Int) 15 = ((x % 16 : Nat) : Int) := by
  rw [show (15 : Int) = ((15 : Nat) : Int) from rfl, u8_and_nat x 15 hx (by decide)]
  have : x &&& 15 = x % 16 := Nat.and_two_pow_sub_one_eq_mod x 4
  rw [this]

set_option maxRecDepth 100000 in
set_option maxHeartbeats 4000000 in
theorem text_any (T : Array Value) (d : Nat → Nat) (hd : ∀ i, d i < 256) (hT : ∀ i, i < 32 → T[i]? = some (.int .u8 ((d i : Nat) : Int))) (w : World) :
    Calls Tryd.prog 13 #[.agg T] w fun e w' => e = .returned (.string (str (txtF d) 64)) ∧ Bw w w' := by
  obtain ⟨i0, hi0, hz0, hz1, hz2⟩ := info_parts info_u8
  have hT' : Hid (∀ i, i < 32 → T[i]? = some (.int .u8 ((d i : Nat) : Int))) := hT
  clear hT
  go_enter Tryd.func13, Tryd.ntmps13
  go_wp2
  go_loopw [3, 4] (fun v i wr => ∃ k : Nat, k ≤ 32 ∧ i = .int .i64 k ∧ wr.ownsRow (w.heap.size + 1) 5 1 v (2 * k) (cellsU (txtF d) (2 * k)) ∧ Below (w.heap.size + 1) (w.alloc (.cells T 23)) wr) (fun _ i _ => 32 - (intOf i).toNat)
  case atStart => exact ⟨0, Nat.zero_le _, rfl, World.ownsRow_nil _ _ _ _, Below.refl _ _⟩
  case round =>
    obtain ⟨k, hk, rfl, hown, hbw⟩ := hrel
    have hsz := hbw.size
    rw [size_alloc] at hsz
    by_cases hlt : k < 32
    · have hb0 : (w.alloc (.cells T 23)).heap[w.heap.size]? = some (.cells T 23 (0, 0)) := heap_alloc_new _ _
      have hbl : wr.heap[w.heap.size]? = some (.cells T 23 (0, 0)) := (hbw.block _ (by omega)).trans hb0
      have hc : wr.cell? ⟨w.heap.size, k, none⟩ = some (.int .u8 ((d k : Nat) : Int)) := (cell_of_row wr w.heap.size k T _ _ hbl).trans (hT'.out k hlt)
      have hdk := hd k
      have k0 : (0 : Int) ≤ (k : Int) := Int.natCast_nonneg _
      have k1 : (k : Int) < 32 := by omega
      have x1 : ∀ W : World, (Instr.index 9 (.string { data := #[48, 49, 50, 51, 52, 53, 54, 55, 56, 57, 97, 98, 99, 100, 101, 102] }) (.int .u8 ((d k : Int) / 16))).run Tryd.prog W = .ok (.int .u8 (txtF d (2 * k))) W := fun W => by
        have := hex_at W (d k / 16) (by omega)
        rw [show ((d k / 16 : Nat) : Int) = (d k : Int) / 16 by omega] at this
        rw [this]; unfold txtF; rw [if_pos (by omega), show 2 * k / 2 = k by omega]
      have x2 : ∀ W : World, (Instr.index 9 (.string { data := #[48, 49, 50, 51, 52, 53, 54, 55, 56, 57, 97, 98, 99, 100, 101, 102] }) (.int .u8 (bits .and .u8 (d k : Int) 15))).run Tryd.prog W = .ok (.int .u8 (txtF d (2 * k + 1))) W := fun W => by
        have := hex_at W (d k % 16) (by omega)
        rw [and15 _ hdk, this]; unfold txtF; rw [if_neg (by omega), show (2 * k + 1) / 2 = k by omega]
      have hmx : 2 * k + 2 ≤ maxLen := by unfold maxLen; omega
      clear hb0 hbl
      go_wp2
      go_region_held3 (fun w' => w'.cell? ⟨w.heap.size, k, none⟩ = some (.int .u8 ((d k : Nat) : Int)))
        (first | go_keep | (go_split_ands; exact far_of hgrow ((hown.alloc _).drew) (by simp; omega) (by simp only; omega) (by assumption)))
        (first | (refine step_append_lies _ (by rfl) _ _ _ (by rfl) (w.heap.size + 1) 5 i0 _ 1 1 Tryd.underlying22 hi0 hz0 hz1 hz2 rfl (by omega) _ _ _ (by rfl) ((hown.alloc _).drew) ⟨wr.heap.size, 0, none⟩ 2 2 [_, _] (by rfl) (by rfl) (World.news_of_block (cs := #[_, _]) (t := 5) (fr := (0, 0)) (heap_alloc_new wr _)) (by simp [Value.oneCell']) (by omega) hmx (by omega) (by simp; omega) (wr.heap.size + 1) (by simp) ?_; intro gg cap w1 hown1 hgrow hat hlt'))
      all_goals
        go_wp2
        go_roundw
        case rel => exact ⟨k + 1, by omega, by go_num, by rw [show 2 * (k + 1) = 2 * k + 1 + 1 from rfl, cellsU_succ, cellsU_succ, List.append_assoc]; exact hown1, bw_grow hgrow ((Below.alloc hbw hsz _).drew) (by simp; omega) ((hown.alloc _).drew)⟩
        case measure => simp [intOf]; omega
    · have ek : k = 32 := by omega
      subst ek
      obtain ⟨A1, c1, e1, _, _, hr1, _⟩ := row_of_own (txtF_bd hd) hown
      subst e1
      have cv := conv_row (C := c1) hr1
      have hbw' : Bw w wr := Bw.trans ((Below.refl _ _).alloc (Nat.le_refl _) _ : Bw w (w.alloc (.cells T 23))) (by rw [← size_alloc w (.cells T 23)] at hbw; exact hbw)
      go_wp2
      go_ret
      exact ⟨rfl, hbw'⟩
end Go.Proofs.YtcpapaceggnaoaaDoor
