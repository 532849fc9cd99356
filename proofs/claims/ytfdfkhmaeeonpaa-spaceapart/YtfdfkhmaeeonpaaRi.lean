/- Layer 16: append of runs, of noughts; slices.Insert at runs. -/
import Derived.Test.YtfdfkhmaeeonpaaRh
import Derived.Shelf.Spec.SlicesInsert
import Derived.Maps.AppendAt
namespace Go.Proofs.Ytfdfkhmaeeonpaa
open Go.RowKit Go.Deep
set_option linter.unusedVariables false
set_option linter.unusedSimpArgs false

/-- append of runs onto the head of a row -/
theorem appR {w : World} {b c : Nat} {L V : List Sp.Rn} (h : RB w 48 b c L) {i m : Nat} (hi : i ≤ L.length) (hm : V.length = m) {A : Addr} (hA : RsAt w (some A) V) (vc : Nat) (hbig : i + m ≤ 1000002) :
    ∃ b' c' w', (Builtin.append_ #[46, 46] 46 #[.slice (some ⟨b, 0, none⟩) i c, .slice (some A) m vc]).run Try.prog w = .ok (.slice (some ⟨b', 0, none⟩) (i + m) c') w' ∧
      RB w' 48 b' c' (L.take i ++ V) ∧ (b' = b ∨ w.heap.size ≤ b') ∧ Bx (· = b) w w' ∧ (i + m ≤ c → b' = b ∧ c' = c ∧ RB w' 48 b c (L.take i ++ V ++ L.drop (i + m))) := by
  obtain ⟨i0, hi0, hz0, hz1, hz2⟩ := info_parts infoR
  have hnews : ∀ j u, (Sp.cellsR V)[j]? = some u → w.cell? (A.add j) = some u := fun j u hu => by
    rcases hA with h0 | ⟨b', o', e, hA⟩
    · rw [h0] at hu; simp [Sp.cellsR] at hu
    · cases e
      rw [Addr.add_lit]
      exact hA j u hu
  by_cases hr : i + m ≤ c
  · obtain ⟨cur, hcur, hsz, _⟩ := id h
    obtain ⟨h1, h2, h3⟩ := lay_row h hi (by omega) hcur (V := V)
    have hrun := run_append_room (P := Try.prog) w 46 46 48 i0 Try.underlying46 hi0 b i c cur hcur A m vc (Sp.cellsR V) (by rw [Sp.cellsR_len, hm, hz1]) hnews (Sp.cellsR_one V) hr (by rw [hz1]; exact h1)
    rw [hz1] at hrun
    rw [hm] at h2
    refine ⟨b, c, _, hrun, ?_, .inl rfl, h3, fun _ => ⟨rfl, rfl, h2⟩⟩
    have h4 := h2.take (i + m)
    rwa [List.append_assoc, ← List.append_assoc, List.take_left' (by simp; omega)] at h4
  · have hle := h.le
    have hlt := h.lt
    have hown := (h.take i).own (Nat.le_refl b)
    have hl : (L.take i).length = i := by rw [List.length_take]; omega
    rw [hl] at hown
    obtain ⟨v', w', hrun, ho, hg, hnn, hb⟩ := run_append_own_at (P := Try.prog) w b 46 46 48 i0 _ 2 16 Try.underlying46 hi0 hz0 hz1 hz2 rfl (by decide) _ i _ hown A m vc (Sp.cellsR V) (by rw [Sp.cellsR_len, hm]) hnews (Sp.cellsR_one V) (by unfold maxLen; omega) (by omega) (by omega)
    rw [← Sp.cellsR_append] at ho
    rcases ho.2 with ⟨e, _⟩ | ⟨g, cap, cur, e, _⟩
    · have := (hnn.1 e).1; cases this
    · subst e
      have hl2 : (L.take i ++ V).length = i + m := by rw [List.length_append, hl, hm]
      rw [← hl2] at ho
      obtain ⟨hR, _⟩ := RB.of_own ho
      refine ⟨g, cap, w', hrun, hR, ?_, ⟨hg.os, hg.tape, hg.output, hg.size, fun x hx hne => hg.block x hx (fun e => hne ?_)⟩, fun hc => absurd hc hr⟩
      · rcases hb with e | e
        · simp only [Value.ownBlock, Option.some.injEq] at e; exact .inl e
        · simp only [Value.ownBlock, Option.some.injEq] at e; exact .inr (by omega)
      · simpa [Value.ownBlock] using e
/-- append of noughts, for which there is no room, onto the head of a row -/
theorem growR {w : World} {b c : Nat} {L : List Sp.Rn} (h : RB w 48 b c L) {i k : Nat} (hi : i ≤ L.length) (h0 : 0 < k) (hg : c < i + k) (hbig : i + k ≤ 1000002) :
    ∃ G w', (Builtin.append_ #[46, 3] 46 #[.slice (some ⟨b, 0, none⟩) i c, .int .i64 (k : Int)]).run Try.prog w = .ok (.slice (some ⟨w.heap.size, 0, none⟩) (i + k) G) w' ∧
      RB w' 48 w.heap.size G (L.take i ++ List.replicate k (0, 0)) ∧ Bw w w' := by
  obtain ⟨i0, hi0, hz0, hz1, hz2⟩ := info_parts infoR
  have hl : (L.take i).length = i := by rw [List.length_take]; omega
  obtain ⟨G, hG⟩ : ∃ G, G = grownCap w (i + k) c 48 := ⟨_, rfl⟩
  have g1 : i + k ≤ G := by rw [hG]; exact grownCap_ge w _ _ _
  have g2 : G ≤ maxLen := by rw [hG]; exact grownCap_le_maxLen w _ _ _ (by unfold maxLen; omega)
  have hold : (Builtin.firstCells i0.size i (.slice (some ⟨b, 0, none⟩) i c)).run Try.prog w.drew = .ok (Sp.cellsR (L.take i)).toArray w.drew := by
    rw [hz1]
    refine run_firstCells_some w.drew 2 i ⟨b, 0, none⟩ i c _ (by rw [Sp.cellsR_len, hl]) (fun j u hu => ?_)
    rcases (h.take i).src0 with e | ⟨b', o', e, hA⟩
    · rw [e] at hu; simp [Sp.cellsR] at hu
    · cases e
      rw [Addr.add_lit]
      exact hA j u hu
  have hrun := Lib.run_append_grow_zeros w 46 3 46 48 i0 _ .i64 .i64 Try.underlying46 Try.underlying3 hi0 hz0 (some ⟨b, 0, none⟩) i c _ hold k h0 (by omega) hg (by omega) (by rw [hz2]; omega) (by rw [hz2]; exact growslice_fits hg (by omega))
  rw [← hG] at hrun
  refine ⟨G, _, hrun, ⟨_, (Go.MapKept.heap_alloc w.drew _).1, ?_, ?_, g2, ?_⟩, bw_alloc16 ((Bw.refl w).drew) _⟩
  · have e1 : ∀ n, (Builtin.zeroCells (Value.agg #[.int .i64 0, .int .i64 0]).cells n).size = n * 2 := fun n => by rw [← Array.length_toList, zcells, Sp.cellsR_len, List.length_replicate]
    simp only [Array.size_append, e1, List.size_toArray, Sp.cellsR_len, hl]
    omega
  · simp only [List.length_append, hl, List.length_replicate]; exact g1
  · simp only [Array.toList_append, zcells]
    rw [← Sp.cellsR_append, List.take_left' (by simp only [Sp.cellsR_len])]

theorem overR {w : World} {a b : Addr} {la ca lb cb tA tB c1 c2 : Nat} {L M : List Sp.Rn} (ha : RB w tA a.block c1 L) (hb : RB w tB b.block c2 M) (h0 : 0 < c2) (hne : a.block ≠ b.block) (fa : a.spot = none) :
    (callFunc 46 #[.slice (some a) la ca, .slice (some b) lb cb]).run Try.prog w = .ok (.value (.bool false)) w := by
  obtain ⟨ab, ao, av⟩ := a
  dsimp only at fa ha hne
  subst fa
  rw [run_callFunc_extern Try.func46 (by kernel_rfl) (by kernel_rfl) (by kernel_rfl) (e := Extern.SlicesOverlaps.overlaps #[46, 46] #[4]) (by kernel_rfl),
    Lib.run_overlaps_apart w 46 4 48 Try.underlying46 2 (by obtain ⟨i0, hi0, hz0, hz1, hz2⟩ := info_parts infoR; intro w; simp [sizeOf, typeInfo, hi0, hz1]) ⟨ab, ao, none⟩ b la ca lb cb hne tA tB (c1 * 2) (c2 * 2) ha.shape hb.shape (by omega) (ha.free _) (ha.free _)]
  rfl
end Go.Proofs.Ytfdfkhmaeeonpaa
