/- The contract of the program's laid. -/
import Derived.Test.YtcnafcoifhdigaaG2
namespace Go.Proofs.Ytcnafcoifhdigaa
open Go.RowKit Go.Deep
set_option linter.unusedVariables false
set_option linter.unusedSimpArgs false

/-- a row of bytes of the call's own does not lie in a block of another type -/
theorem own_apart_block {W : World} {b g : Nat} {e t : TypeId} {s n : Nat} {v : Value} {xs : List Value} {cs : Array Value} {fr : Nat × Nat} (h : W.ownsRow b e s v n xs) (hg : W.heap[g]? = some (.cells cs t fr)) (hne : e ≠ t) : some g ≠ v.ownBlock := by
  rcases h.2 with ⟨rfl, _⟩ | ⟨g', cap, cur, rfl, _, hg', _⟩
  · intro e; cases e
  · intro e'
    simp only [Value.ownBlock, Option.some.injEq] at e'
    subst e'
    rw [hg] at hg'
    cases hg'
    exact hne rfl

theorem shift_byte {N p : Nat} : ((N : Int) / 2 ^ (8 * p)) % 256 = ((N / 256 ^ p % 256 : Nat) : Int) := by
  have e : (2 : Int) ^ (8 * p) = ((256 ^ p : Nat) : Int) := by rw [show (256 : Nat) = 2 ^ 8 from rfl, ← Nat.pow_mul, Int.natCast_pow]; rfl
  rw [e, Int.natCast_emod, Int.natCast_ediv]; rfl

set_option maxRecDepth 100000 in
set_option maxHeartbeats 2000000 in
theorem laid_any (g n : Nat) (N W O : Nat → Nat) (F : Nat → Int) (hn : n ≤ 1000) (hW : ∀ j, j < n → W j ≤ 8) (hN : ∀ j, j < n → N j < 18446744073709551616) (hO0 : O 0 = 0) (hO : ∀ j, j < n → O (j + 1) = O j + W j) (hOm : ∀ j, j ≤ n → O j ≤ 100000)
    (hF : ∀ j, j < n → ∀ t, t < W j → F (O j + t) = ((Blk.byteOf (N j) (W j) t : Nat) : Int)) (w : World) (hc : ∀ j, j < n → w.cell? ⟨g, j * 2, none⟩ = some (.int .u64 (N j : Int)) ∧ w.cell? ⟨g, j * 2 + 1, none⟩ = some (.int .i64 (W j : Int))) :
    Calls Try.prog 17 #[.slice (some ⟨g, 0, none⟩) n n] w fun e w' => ∃ v, e = .returned v ∧ w'.ownsRow w.heap.size 5 1 v (O n) (cellsU F (O n)) ∧ Bw w w' := by
  obtain ⟨i0, hi0, hz0, hz1, hz2⟩ := info_parts info_u8
  have HW : Hid (∀ j, j < n → W j ≤ 8) := hW
  have HN : Hid (∀ j, j < n → N j < 18446744073709551616) := hN
  have HO : Hid (∀ j, j < n → O (j + 1) = O j + W j) := hO
  have HO0 : Hid (O 0 = 0) := hO0
  have HOm : Hid (∀ j, j ≤ n → O j ≤ 100000) := hOm
  have HF : Hid (∀ j, j < n → ∀ t, t < W j → F (O j + t) = ((Blk.byteOf (N j) (W j) t : Nat) : Int)) := hF
  have HC : Hid (∀ j, j < n → w.cell? ⟨g, j * 2, none⟩ = some (.int .u64 (N j : Int)) ∧ w.cell? ⟨g, j * 2 + 1, none⟩ = some (.int .i64 (W j : Int))) := hc
  clear hW hN hO hO0 hOm hF hc
  go_enter Try.func17, Try.ntmps17
  go_wp2
  go_loopw [3, 9] (fun v i wr => ∃ j : Nat, j ≤ n ∧ i = .int .i64 j ∧ wr.ownsRow w.heap.size 5 1 v (O j) (cellsU F (O j)) ∧ Bw w wr) (fun _ i _ => n - (intOf i).toNat)
  case atStart => exact ⟨0, Nat.zero_le _, rfl, by rw [HO0.out]; exact World.ownsRow_nil w _ _ _, Bw.refl _⟩
  case round =>
    obtain ⟨j, hj, rfl, hown, hw⟩ := hrel
    by_cases hlt : j < n
    · obtain ⟨c1, c2⟩ := HC.out j hlt
      have k1 := cell_later hw c1
      have k2 := cell_later hw c2
      clear c1 c2
      have j0 : (0 : Int) ≤ (j : Int) := Int.natCast_nonneg _
      have hWj := HW.out j hlt
      have hNj := HN.out j hlt
      rename World => wo
      go_wp2
      go_loopw [3, 6] (fun v i wr => ∃ m t : Nat, m + t = W j ∧ i = .int .i64 ((m : Int) - 1) ∧ wr.ownsRow w.heap.size 5 1 v (O j + t) (cellsU F (O j + t)) ∧ Bw w wr ∧ wr.heap[wo.heap.size]? = some (.cells #[.int .u64 (N j : Int), .int .i64 (W j : Int)] 43 (0, 0))) (fun _ i _ => (intOf i + 1).toNat)
      case atStart => exact ⟨W j, 0, rfl, rfl, hown.alloc _, Below.alloc hw hw.size _, heap_alloc_new _ _⟩
      case round =>
        obtain ⟨m, t, hmt, rfl, hown', hw', hB⟩ := hrel
        rcases m with _ | p
        · have hm2 := HO.out j hlt
          have ht : t = W j := by omega
          subst ht
          rw [← hm2] at hown'
          clear hm2 hmt hown
          go_wp2
          go_roundw
          case rel => exact ⟨j + 1, by omega, by go_num, hown', hw'⟩
          case measure => simp [intOf]; omega
        · have ep : ((p + 1 : Nat) : Int) - 1 = (p : Int) := by omega
          rw [ep]
          clear ep
          have p0 : (0 : Int) ≤ (p : Int) := Int.natCast_nonneg _
          have p1 : (p : Int) < 8 := by omega
          have hm1 := HOm.out (j + 1) (by omega)
          have hm2 := HO.out j hlt
          have hval : Hid ((N j : Int) / 2 ^ (8 * p) % 256 = F (O j + t)) := by
            show _ = _
            rw [HF.out j hlt t (by omega), shift_byte]
            unfold Blk.byteOf
            rw [show W j - 1 - t = p by omega]
          have hN0 : (0 : Int) ≤ (N j : Int) := Int.natCast_nonneg _
          have szr := hw'.size
          have b1 := cell_of_row wr wo.heap.size 0 _ _ _ hB
          have hap := own_apart_block (hown'.alloc (.cells #[.int .u8 ((N j : Int) / 2 ^ (8 * p) % 256)] 5)) ((heap_alloc_old wr _ (Array.getElem?_eq_some_iff.1 hB).1).trans hB) (by decide)
          clear hown
          go_wp2_with (at_builtin; refine wpList_append_lies _ (by rfl) (.tmp 20) (.tmp 27) _ (by rfl) w.heap.size 5 i0 _ 1 1 Try.underlying24 hi0 hz0 hz1 hz2 rfl (by omega) _ _ _ (by rfl) (hown'.alloc _) ⟨wr.heap.size, 0, none⟩ 1 1 [_] (by rfl) (by rfl) (World.news_of_block (cs := #[_]) (t := 5) (fr := (0, 0)) (heap_alloc_new wr _)) (by simp [Value.oneCell']) (by omega) (by unfold maxLen; omega) (by omega) (by simp; omega) (wr.heap.size + 1) (by simp) ?_; intro g4 c4 w4 hown4 hgrow4 hat4 hlt4)
          go_roundw
          case rel => exact ⟨p, t + 1, by omega, by go_num, by rw [show O j + (t + 1) = O j + t + 1 from rfl, cellsU_succ, ← hval.out]; exact hown4, bw_grow hgrow4 (Below.alloc hw' (by omega) _) (by rw [size_alloc]; omega) (hown'.alloc _), ((hgrow4.block _ (by rw [size_alloc]; have := (Array.getElem?_eq_some_iff.1 hB).1; omega) hap).trans (heap_alloc_old wr _ (Array.getElem?_eq_some_iff.1 hB).1)).trans hB⟩
          case measure => simp [intOf]
    · have ek : j = n := by omega
      subst ek
      go_wp2
      go_ret
      exact ⟨_, rfl, hown, hw⟩
end Go.Proofs.Ytcnafcoifhdigaa
