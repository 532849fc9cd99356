/- The document's own parts and Real, of layer 11. -/
import Derived.Test.YtjifdoneejofiaaUA
import Derived.Laws.AppendOwnNone
namespace Go.Proofs.Ytjifdoneejofiaa
open Go.RowKit Go.Deep
set_option linter.unusedVariables false
set_option linter.unusedSimpArgs false

def PartsEnds (base : Nat) (ps : List Tr.B) (e : Ending) (w' : World) : Prop := ∃ v, e = .returned v ∧ w'.ownsRow base 9 1 v ps.length (Nm.cellsS ps)
set_option maxRecDepth 100000 in
set_option maxHeartbeats 2000000 in
theorem rparts_any (p : Tr.B) (hp : p.length ≤ 1000000) (w : World) :
    Calls Try.prog 59 #[.string (Nm.S p)] w fun e w' => PartsEnds w.heap.size (Tr.pts p) e w' ∧ Bw w w' := by
  by_cases h0 : p = []
  · have q1 : ((Nm.S p).toList == []) = true := by rw [Nm.toList_S, h0]; rfl
    have e : Hid (Tr.pts p = []) := by show _ = _; unfold Tr.pts; rw [if_pos h0]
    rw [e.out]
    clear h0
    go_enter Try.func59, Try.ntmps59
    go_wp2
    go_ret
    exact ⟨⟨_, rfl, World.ownsRow_nil _ _ _ _⟩, Bw.refl _⟩
  · have q1 : ((Nm.S p).toList == []) = false := by rw [Nm.toList_S, beq_eq_false_iff_ne]; exact h0
    have e : Hid (Tr.pts p = Nm.pieces p) := by show _ = _; unfold Tr.pts; rw [if_neg h0]
    rw [e.out]
    have HPc : Hid (∀ u, Calls Try.prog 64 #[.string (Nm.S p)] u fun e w' => ∃ v, e = .returned v ∧ PcsAt w' v (Nm.pieces p) ∧ Bw u w') := fun u => by
      have := rpieces_any (Nm.S p) (by rw [Nm.size_S]; omega) u
      rwa [Nm.toList_S] at this
    have hpl := Nm.len_pieces p
    obtain ⟨xs, hxs⟩ : ∃ ps, Hid (Nm.pieces p = ps) := ⟨_, rfl⟩
    rw [hxs.out] at HPc hpl ⊢
    have hxl : xs.length ≤ 1000001 := by omega
    clear h0 hpl
    obtain ⟨i0, hi0, hz0, hz1, hz2⟩ := info_parts info_str
    obtain ⟨H, hH⟩ : ∃ H, Hid (w.heap.size = H) := ⟨_, rfl⟩
    rw [hH.out]
    go_enter Try.func59, Try.ntmps59
    go_wp2_with (go_at_call 64; refine (HPc.out _).mono ?_; rintro e w1 ⟨v, rfl, hpc, hw1⟩; obtain ⟨g1, c1, rfl, hcap1, hg1, hc1⟩ := id hpc)
    have HC1 : Hid (∀ W, Bw w1 W → ∀ k (h1 : k < xs.length), W.cell? ⟨g1, k * 2 + 1, none⟩ = some (.string (Nm.S xs[k]))) := fun W hW k h1 => by
      rw [hW.cell (p := ⟨g1, k * 2 + 1, none⟩) hg1]
      exact (hc1 k h1).2
    obtain ⟨H1, hH1⟩ : ∃ H, Hid (w1.heap.size = H) := ⟨_, rfl⟩
    have hHH : Hid (H ≤ H1) := by show _ ≤ _; rw [← hH.out, ← hH1.out]; exact hw1.size
    clear hpc hc1 hg1 hcap1
    obtain ⟨n, hnn⟩ : ∃ n, Hid (xs.length = n) := ⟨_, rfl⟩
    rw [hnn.out] at hxl ⊢
    go_loopw [3, 5] (fun v i wr => ∃ (k : Nat), k ≤ n ∧ i = .int .i64 (k : Int) ∧ Hid (wr.ownsRow H1 9 1 v k (Nm.cellsS (xs.take k))) ∧ Bw w1 wr) (fun _ i _ => n - (intOf i).toNat)
    case atStart => exact ⟨0, Nat.zero_le _, rfl, World.ownsRow_nil _ _ _ _, Bw.refl _⟩
    case round =>
      obtain ⟨k, hk, rfl, hown, hbw⟩ := hrel
      have k0 : (0 : Int) ≤ (k : Int) := Int.natCast_nonneg _
      have szr : H1 ≤ wr.heap.size := by rw [← hH1.out]; exact hbw.size
      by_cases hlt : k < n
      · have t2 : (k : Int) < (n : Int) := by omega
        have hkx : k < xs.length := by rw [hnn.out]; exact hlt
        have a1 := HC1.out _ hbw k hkx
        have htk : Hid (xs.take (k + 1) = xs.take k ++ [xs[k]]) := by show _ = _; rw [List.take_add_one, List.getElem?_eq_getElem hkx]; rfl
        have ho := hown.out
        go_wp2_with (at_builtin; refine wpList_append_lies _ (by rfl) (.tmp 17) (.tmp 23) _ (by rfl) H1 9 i0 _ 1 16 Try.underlying85 hi0 hz0 hz1 hz2 rfl (by omega) _ _ _ (by rfl) (ho.alloc _) ⟨wr.heap.size, 0, none⟩ 1 1 [_] (by rfl) (by rfl) (World.news_of_block (cs := #[_]) (t := 9) (fr := (0, 0)) (heap_alloc_new wr _)) (by simp [Value.oneCell']) (by omega) (by unfold maxLen; omega) (by omega) (by simp; omega) (wr.heap.size + 1) (by simp) ?_; intro g4 c4 w4 hown4 hgrow4 hat4 hlt4)
        go_roundw
        case rel => exact ⟨k + 1, by omega, by go_num, by rw [htk.out, Nm.cellsS_snoc]; exact hown4, by
          have := bw_grow hgrow4 (base := H1) (W := w1) (by rw [← hH1.out]; exact bw_alloc11 hbw _) (by rw [size_alloc]; omega) (ho.alloc _)
          rw [← hH1.out] at this; exact this⟩
        case measure => simp [intOf]; omega
      · have ek : k = n := by omega
        subst ek
        have hfin := own_lower11 hown.out hHH.out
        rw [List.take_of_length_le (by rw [hnn.out]; exact Nat.le_refl _)] at hfin
        have HFin : Hid _ := hfin
        clear hfin
        go_wp2
        go_ret
        exact ⟨⟨_, rfl, by rw [hnn.out]; exact HFin.out⟩, hw1.trans hbw⟩
end Go.Proofs.Ytjifdoneejofiaa
