/- The statements' own others, of layer 11. -/
import Derived.Test.YtjifdoneejofiabYD
namespace Go.Proofs.Ytjifdoneejofiab
open Go.RowKit Go.Deep
set_option linter.unusedVariables false
set_option linter.unusedSimpArgs false

/-- an answer that is a list -/
def CopyEndsI (t : List Tr.It) (e : Ending) (w' : World) : Prop := ∃ A c M, e = .returned (.slice A M.length c) ∧ Tr.its M = t ∧ ItsAt w' A M
set_option maxRecDepth 100000 in
set_option maxHeartbeats 4000000 in
theorem others_any (A : Option Addr) (cap : Nat) (L : List Tr.Iv) (p : Tr.B) (hn : L.length * 80 ≤ 140737488355328) (w : World) (ha : ItsAt w A L) :
    Calls Try.prog 12 #[.slice A L.length cap, .string (Nm.S p)] w fun e w' => CopyEndsI ((Tr.its L).filter (Tr.ot p)) e w' ∧ Bw w w' := by
  obtain ⟨n, hnn⟩ : ∃ n, Hid (L.length = n) := ⟨_, rfl⟩
  rw [hnn.out] at hn ⊢
  have HA : Hid (ItsAt w A L) := ha
  clear ha
  obtain ⟨j0, hj0, hy0, hy1, hy2⟩ := info_parts info_item
  obtain ⟨H, hH⟩ : ∃ H, Hid (w.heap.size = H) := ⟨_, rfl⟩
  obtain ⟨P, hP⟩ : ∃ P : Tr.It → Bool, Hid (P = Tr.ot p) := ⟨_, rfl⟩
  rw [← hP.out]
  go_enter Try.func12, Try.ntmps12
  go_wp2
  go_loopw [5, 6] (fun v i wr => ∃ (k : Nat), k ≤ n ∧ i = .int .i64 (k : Int) ∧ Hid (wr.ownsRow H 26 6 v (Tr.sel P (L.take k)).length (Tr.cellsI (Tr.sel P (L.take k)))) ∧ Bw w wr) (fun _ i _ => n - (intOf i).toNat)
  case atStart => exact ⟨0, Nat.zero_le _, rfl, World.ownsRow_nil _ _ _ _, Bw.refl _⟩
  case round =>
    obtain ⟨i, hi, rfl, hown, hbw⟩ := hrel
    have i0' : (0 : Int) ≤ (i : Int) := Int.natCast_nonneg _
    by_cases hlt : i < n
    · have i1 : (i : Int) < (n : Int) := by omega
      obtain ⟨y, hy⟩ : ∃ y, Hid (L[i]? = some y) := ⟨_, List.getElem?_eq_getElem (by rw [hnn.out]; exact hlt)⟩
      obtain ⟨b, off, rfl, hY, hB⟩ := (HA.out.keep hbw).at hy.out
      have HY : Hid (ItAt wr b (off + i * 6) y) := hY
      have HB : Hid (BodyAt wr y) := hB
      have c0 := hY.c0
      clear hY hB
      obtain ⟨d, hd⟩ : ∃ d, Hid (P y.it = d) := ⟨_, rfl⟩
      have hsl : (Tr.sel P (L.take i)).length ≤ i := Nat.le_trans (Tr.sel_len _ _) (by rw [List.length_take]; omega)
      have hHw : H ≤ wr.heap.size := by rw [← hH.out]; exact hbw.size
      have hsn := Tr.sel_snoc P hy.out
      rw [hd.out] at hsn
      obtain ⟨m, hm⟩ : ∃ m, Hid ((Tr.sel P (L.take i)).length = m) := ⟨_, rfl⟩
      rw [hm.out] at hsl hown
      have hdp : (!((Nm.S y.it.path).toList == (Nm.S p).toList)) = d := by
        rw [Tr.S_eql, ← hd.out, hP.out]
        unfold Tr.ot
        simp
      cases d with
      | false =>
        have q1 : ((Nm.S y.it.path).toList == (Nm.S p).toList) = true := by simpa using hdp
        have HSN : Hid (Tr.sel P (L.take (i + 1)) = Tr.sel P (L.take i)) := by show _ = _; rw [hsn, if_neg (by decide), List.append_nil]
        clear hsn hdp
        go_wp2_with fail
        go_roundw
        case rel => exact ⟨i + 1, by omega, by go_num, by rw [HSN.out, hm.out]; exact hown.out, hbw⟩
        case measure => simp [intOf]; omega
      | true =>
        have q1 : ((Nm.S y.it.path).toList == (Nm.S p).toList) = false := by simpa using hdp
        have HSN : Hid (Tr.sel P (L.take (i + 1)) = Tr.sel P (L.take i) ++ [y]) := by show _ = _; rw [hsn, if_pos rfl]
        clear hsn hdp
        obtain ⟨w5, hw5⟩ : ∃ V, V = wr.alloc (.cells y.arr 26) := ⟨_, rfl⟩
        have hb5 : Bw wr w5 := (by rw [hw5]; exact bw_alloc11 (Bw.refl _) _)
        have HI5 : Hid (ItsAt w5 (some ⟨wr.heap.size, 0, none⟩) [y]) := (by rw [hw5]; exact its_one (BoxAt.new _ _) (HB.out.keep (bw_alloc11 (Bw.refl _) _)))
        have hbw5 := hbw.trans hb5
        have hH5 : H ≤ w5.heap.size := (by rw [← hH.out]; exact hbw5.size)
        have HO5 : Hid _ := own_keep hown.out hb5
        go_wp2_with (first
          | refine wpList_load_it (by rfl) (.tmp 23) rfl b (off + i * 6) rfl y HY.out ?_
          | (refine wpList_build_it rfl (.tmp 24) rfl y rfl ?_; rw [← hw5]; clear hw5)
          | (at_builtin; refine wpList_append_its _ (by rfl) (.tmp 20) (.tmp 25) _ (by rfl) H 26 j0 _ 80 Try.underlying22 hj0 hy0 hy1 hy2 rfl _ _ _ (by rfl) HO5.out (some ⟨wr.heap.size, 0, none⟩) 1 [y] 1 rfl (by rfl) HI5.out (fun e => by cases e) (by unfold maxLen; omega) (by omega) hH5 ?_; intro v6 w6 hown6 hgrow6))
        go_roundw
        case rel => exact ⟨i + 1, by omega, by go_num, by rw [HSN.out, Tr.cellsI_append, List.length_append, hm.out]; exact hown6, by
          have := bw_grow hgrow6 (base := H) (by rw [← hH.out]; exact hbw5) hH5 HO5.out
          rw [← hH.out] at this; exact this⟩
        case measure => simp [intOf]; omega
    · have ei : i = n := by omega
      subst ei
      have HT : Hid (L.take i = L) := List.take_of_length_le (by rw [hnn.out]; exact Nat.le_refl _)
      have hb := fun y hy => (HA.out.keep hbw).body y hy
      obtain ⟨A', c', hv, hle, hI, -, -⟩ := its_sel_at hown.out hb
      subst hv
      rw [HT.out] at hI
      have HI : Hid (ItsAt wr A' (Tr.sel P L)) := hI
      rw [HT.out]
      clear hI hle hb
      go_wp2
      go_ret
      exact ⟨⟨A', c', Tr.sel P L, rfl, Tr.its_sel P L, HI.out⟩, hbw⟩
theorem slice_one11 (k m d bk off : Nat) (w : World) : (Instr.slice 22 (.slice (some ⟨bk, off, none⟩) m (k + 1 + d)) (some (.int .i64 (k : Int))) (some (.int .i64 ((k : Int) + 1))) none).run Try.prog w = .ok (.slice (some ⟨bk, off + k * 6, none⟩) 1 (1 + d)) w := by
  have r0 : (0 : Int) ≤ (k : Int) := Int.natCast_nonneg _
  have r2 : (k : Int) + 1 ≤ ((k + 1 + d : Nat) : Int) := by omega
  have r3 : (k : Int) ≤ (k : Int) + 1 := by omega
  have r4 : ¬ (k + 1 + d = k) := by omega
  have r5 : k + 1 + d - k = 1 + d := by omega
  go_simp
  first | omega | (simp [r4, r5]) | skip
theorem SayIts.form {t : List Tr.It} {er : Int} {e : Ending} {w' : World} (h : SayIts t er e w') : ∃ A c M, e = .returned (.tuple #[.slice A M.length c, .int .i64 er]) ∧ Hid (er ≠ 0 → M = []) ∧ Hid (er = 0 → Tr.its M = t ∧ M.length ≤ c ∧ ItsAt w' A M) := by
  by_cases h0 : er = 0
  · obtain ⟨A, c, M, e1, e2, e3, e4⟩ := h.2 h0
    exact ⟨A, c, M, by rw [e1, h0], fun k => absurd h0 k, fun _ => ⟨e2, e3, e4⟩⟩
  · exact ⟨none, 0, [], h.1 h0, fun _ => rfl, fun k => absurd k h0⟩
theorem Tr.with_zero {t : List Tr.It} {x : Tr.It} (h : Tr.withE t x = 0) : (Tr.chkE t).2 = 0 ∧ (Tr.chkE (Tr.withL t x)).2 = 0 := by
  unfold Tr.withE at h
  split at h
  · exact absurd h (by assumption)
  · rename_i hn; exact ⟨Decidable.not_not.1 hn, h⟩
end Go.Proofs.Ytjifdoneejofiab
