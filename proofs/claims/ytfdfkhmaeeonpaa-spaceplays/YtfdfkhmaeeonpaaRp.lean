/- Layer 16: Free, Runs. -/
import Derived.Test.YtfdfkhmaeeonpaaRo
namespace Go.Proofs.Ytfdfkhmaeeonpaa
open Go.RowKit Go.Deep
set_option linter.unusedVariables false
set_option linter.unusedSimpArgs false

theorem Sp.tot_take {L : List Sp.Rn} {j : Nat} {r : Sp.Rn} (h : L[j]? = some r) : Sp.tot (L.take (j + 1)) = Sp.tot (L.take j) + r.2 := by
  rw [List.take_add_one, h, Option.toList_some, Sp.tot_append]
  rfl
theorem Sp.tot_le (L : List Sp.Rn) (j : Nat) : Sp.tot (L.take j) ≤ Sp.tot L := by
  have h := congrArg Sp.tot (List.take_append_drop j L)
  rw [Sp.tot_append] at h
  omega
theorem Sp.Norm.tot {n : Nat} {L : List Sp.Rn} (h : Sp.Norm n L) : Sp.tot L ≤ n := by
  have h1 : Sp.sumTo (Sp.cov L) n = Sp.tot L := Sp.tot_sum (fun r hr => (h.ok r hr).2)
  have h2 : ∀ m, Sp.sumTo (Sp.cov L) m ≤ m := fun m => by
    induction m with
    | zero => exact Nat.le_refl _
    | succ m ih => have := h.cov_le m; rw [Sp.sumTo]; omega
  have := h2 n
  omega
set_option maxRecDepth 100000 in
theorem sfree_nil (w : World) : Calls Try.prog 16 #[.pointer none] w fun e w' => e = .returned (.int .i64 0) ∧ Bw w w' := by
  go_enter Try.func16, Try.ntmps16
  go_wp2
  go_ret
  exact ⟨rfl, Bw.refl _⟩
set_option maxRecDepth 100000 in
theorem sruns_nil (w : World) : Calls Try.prog 19 #[.pointer none] w fun e w' => e = .returned (.slice none 0 0) ∧ Bw w w' := by
  go_enter Try.func19, Try.ntmps19
  go_wp2
  go_ret
  exact ⟨rfl, Bw.refl _⟩
set_option maxRecDepth 100000 in
set_option maxHeartbeats 2000000 in
theorem sfree_any {w : World} {g n b c : Nat} {L : List Sp.Rn} (hs : SpAt w g n b c L) : Calls Try.prog 16 #[.pointer (some ⟨g, 0, none⟩)] w fun e w' => e = .returned (.int .i64 (Sp.tot L : Int)) ∧ Bw w w' := by
  have hfew := hs.few
  have hn1 := hs.n1
  have htot := hs.norm.tot
  have c1 := hs.c1
  have HS : Hid (SpAt w g n b c L) := hs
  obtain ⟨m, hm⟩ : ∃ m, Hid (L.length = m) := ⟨_, rfl⟩
  rw [hm.out] at hfew c1
  clear hs
  go_enter Try.func16, Try.ntmps16
  go_wp2
  clear c1
  go_loopw [3, 13] (fun s3 s13 wr => ∃ (j s : Nat), s3 = .int .i64 (s : Int) ∧ s13 = .int .i64 (j : Int) ∧ j ≤ m ∧ Hid (s = Sp.tot (L.take j)) ∧ Hid (Bw w wr)) (fun _ s13 _ => m - (intOf s13).toNat)
  case atStart => exact ⟨0, 0, rfl, rfl, Nat.zero_le _, by rw [List.take_zero]; rfl, Bw.refl _⟩
  case round =>
    obtain ⟨j, s, rfl, rfl, hj, hs, hbw⟩ := hrel
    have j0 : (0 : Int) ≤ (j : Int) := Int.natCast_nonneg _
    by_cases hlt : j < m
    · have j1 : (j : Int) < (m : Int) := by omega
      obtain ⟨r, hr⟩ : ∃ r, Hid (L[j]? = some r) := ⟨_, List.getElem?_eq_getElem (by rw [hm.out]; exact hlt)⟩
      obtain ⟨y0, y1⟩ := (HS.out.keep hbw.out).row.cells hr.out
      have h1 := Sp.tot_le L (j + 1)
      have h2 := Sp.tot_take hr.out
      have hs' := hs.out
      have s0 : (0 : Int) ≤ (s : Int) + (r.2 : Int) := by omega
      have s1 : (s : Int) + (r.2 : Int) ≤ 65536 := by omega
      have hx : Hid (s + r.2 = Sp.tot (L.take (j + 1))) := by refine (?_ : _ = _); omega
      have HV := Bw.alloc16x wr (.cells #[.int .i64 (r.1 : Int), .int .i64 (r.2 : Int)] 48)
      clear h1 h2 hs' hs htot hlt
      go_wp2
      go_roundw
      case rel => exact ⟨j + 1, s + r.2, by go_num, by go_num, by omega, hx, hbw.out.trans HV⟩
      case measure => simp [intOf]; omega
    · obtain rfl : j = m := by omega
      have hx : s = Sp.tot L := by rw [hs.out, ← hm.out, List.take_length]
      clear hs htot hlt
      go_wp2
      go_ret
      exact ⟨by rw [hx]; rfl, hbw.out⟩

theorem made_runs (n : Nat) : (madeCells #[Value.int .i64 0, Value.int .i64 0] (n * 2)).toList = Sp.cellsR (List.replicate n (0, 0)) := by
  rw [← zcells]
  apply List.ext_getElem?
  intro j
  unfold madeCells Builtin.zeroCells
  by_cases hj : j < n * 2
  · simp [hj, Value.cells]
  · simp [hj, Value.cells]
/-- new runs in memory, as they are answered -/
def RunsEnds (L : List Sp.Rn) (w : World) (e : Ending) (w' : World) : Prop := ∃ b : Nat, e = .returned (.slice (some ⟨b, 0, none⟩) L.length L.length) ∧ RB w' 32 b L.length L ∧ w.heap.size ≤ b ∧ Bw w w'
set_option maxRecDepth 100000 in
set_option maxHeartbeats 2000000 in
theorem sruns_any {w : World} {g n b c : Nat} {L : List Sp.Rn} (hs : SpAt w g n b c L) : Calls Try.prog 19 #[.pointer (some ⟨g, 0, none⟩)] w fun e w' => RunsEnds L w e w' := by
  have hfew := hs.few
  obtain ⟨m, hm⟩ : ∃ m, Hid (L.length = m) := ⟨_, rfl⟩
  obtain ⟨W, hmk, hR0, hW⟩ : ∃ W, (Instr.makeSlice 40 (.int .i64 (m : Int)) (.int .i64 (m : Int))).run Try.prog w = .ok (.slice (some ⟨w.heap.size, 0, none⟩) m m) W ∧ RB W 32 w.heap.size m (List.replicate m (0, 0)) ∧ Bw w W := by
    rw [hm.out] at hfew
    obtain ⟨i0, hi0, hz0, hz1, hz2⟩ := info_parts infoA
    obtain ⟨W, h1, h2, h3⟩ := run_makeSlice_full (P := Try.prog) w w.heap.size 40 32 i0 _ 2 Try.underlying40 hi0 hz0 hz1 .i64 .i64 m (by omega) (by rw [hz2]; omega) (by unfold maxLen; omega) (Nat.le_refl _)
    refine ⟨W, h1, ?_, ⟨h3.os, h3.tape, h3.output, h3.size, fun k hk => h3.block k hk (by simp)⟩⟩
    have hl : (List.replicate m ((0, 0) : Sp.Rn)).length = m := List.length_replicate
    have h4 := h2
    have e : (madeCells (Value.agg #[.int .i64 0, .int .i64 0]).cells (m * 2)).toList = Sp.cellsR (List.replicate m (0, 0)) := made_runs m
    rw [e] at h4
    have h5 := RB.of_own (t := 32) (b := w.heap.size) (c := m) (L := List.replicate m (0, 0)) (by rw [hl]; exact h4)
    exact h5.1
  have c1 := hs.c1
  have c2 := (hs.keep hW).c1
  have HS : Hid (SpAt w g n b c L) := hs
  rw [hm.out] at hfew c1 c2
  have HL : Hid (L.length = m) := hm
  unfold RunsEnds
  rw [hm.out]
  obtain ⟨P, hP⟩ : ∃ P, Hid (w.heap.size = P) := ⟨_, rfl⟩
  rw [hP.out] at hmk hR0
  have HE : Hid (∀ w', RB w' 32 P m L → Bw w w' → ∃ b : Nat, Ending.returned (.slice (some ⟨P, 0, none⟩) m m) = .returned (.slice (some ⟨b, 0, none⟩) m m) ∧ RB w' 32 b m L ∧ w.heap.size ≤ b ∧ Bw w w') := fun w' h1 h2 => ⟨P, rfl, h1, Nat.le_of_eq hP.out, h2⟩
  clear hs
  go_enter Try.func19, Try.ntmps19
  go_wp2
  clear c1 c2 hmk
  go_loopw [19] (fun s19 wr => ∃ (j : Nat) (M : List Sp.Rn), s19 = .int .i64 (j : Int) ∧ j ≤ m ∧ RB wr 32 P m M ∧ Hid (M.length = m ∧ M.take j = L.take j) ∧ Hid (Bw w wr)) (fun s19 _ => m - (intOf s19).toNat)
  case atStart => exact ⟨0, _, rfl, Nat.zero_le _, hR0, ⟨List.length_replicate, by simp⟩, hW⟩
  case round =>
    obtain ⟨j, M, rfl, hj, hR, hM, hbw⟩ := hrel
    have j0 : (0 : Int) ≤ (j : Int) := Int.natCast_nonneg _
    by_cases hlt : j < m
    · have j1 : (j : Int) < (m : Int) := by omega
      obtain ⟨r, hr⟩ : ∃ r, Hid (L[j]? = some r) := ⟨_, List.getElem?_eq_getElem (by rw [hm.out]; exact hlt)⟩
      obtain ⟨y0, y1⟩ := (HS.out.keep hbw.out).row.cells hr.out
      obtain ⟨V, hV⟩ : ∃ V, V = wr.alloc (.cells #[.int .i64 (r.1 : Int), .int .i64 (r.2 : Int)] 48) := ⟨_, rfl⟩
      have kV : Bw wr V := by rw [hV]; exact bw_alloc16 (Bw.refl _) _
      obtain ⟨v0, v1⟩ : Box1 V wr.heap.size r := by rw [hV]; exact box1_new wr r _
      have hRV := hR.keep kV
      have f0 := hRV.free (j * 2)
      have f1 := hRV.free (j * 2 + 1)
      obtain ⟨u0, u1⟩ := hRV.cells (List.getElem?_eq_getElem (show j < M.length by have := hM.out.1; omega))
      have hput := hRV.put (i := j) (by have := hM.out.1; omega) r
      have hMn : Hid ((M.set j r).length = m ∧ (M.set j r).take (j + 1) = L.take (j + 1)) := by
        refine (?_ : _ ∧ _)
        refine ⟨by rw [List.length_set]; exact hM.out.1, ?_⟩
        rw [List.take_add_one, List.take_add_one, List.getElem?_set_self (by have := hM.out.1; omega), hr.out, List.take_set_of_le (Nat.le_refl _), hM.out.2]
      have HP : Hid (RB ((V.setCell ⟨P, j * 2, none⟩ (.int .i64 (r.1 : Int))).setCell ⟨P, j * 2 + 1, none⟩ (.int .i64 (r.2 : Int))) 32 P m (M.set j r)) := hput
      clear hput hR hRV
      go_upto_region 7 with fail
      rw [← hV]
      clear hV
      go_wp2
      go_roundw
      case rel => exact ⟨j + 1, M.set j r, by go_num, by omega, HP.out, hMn, Bw.put (Bw.put (hbw.out.trans kV) (Nat.le_of_eq hP.out) _ _) (Nat.le_of_eq hP.out) _ _⟩
      case measure => simp [intOf]; omega
    · obtain rfl : j = m := by omega
      have e : M = L := by
        have h1 := hM.out.2
        rw [List.take_of_length_le (Nat.le_of_eq hM.out.1), List.take_of_length_le (Nat.le_of_eq hm.out)] at h1
        exact h1
      rw [e] at hR
      have HR := HE.out wr hR hbw.out
      have HR2 : Hid _ := HR
      clear HR hR hM e hlt HE
      go_wp2
      go_ret
      exact HR2.out
end Go.Proofs.Ytfdfkhmaeeonpaa
