/- The program's own Find and hasFile, of layer 11, as landed at 97b3c5cd. -/
import Derived.Test.YtjifdoneejofiabY2
import Derived.Test.YtjifdoneejofiabU6
namespace Go.Proofs.Ytjifdoneejofiab
open Go.RowKit Go.Deep
set_option linter.unusedVariables false
set_option linter.unusedSimpArgs false

set_option maxRecDepth 100000 in
theorem find1_any (y : Tr.Iv) (p : Tr.B) (g : Nat) (w : World) (hg : w.cell? ⟨g, 0, none⟩ = some (.string (Nm.S p))) : Calls Try.prog 33 #[.agg y.arr, .pointer (some ⟨g, 0, none⟩)] w fun e w' => e = .returned (.bool (decide (y.it.path = p))) ∧ Bw w w' := by
  obtain ⟨W, hW⟩ : ∃ W, W = w.alloc (.cells y.arr 26) := ⟨_, rfl⟩
  have hbw : Bw w W := by rw [hW]; exact bw_alloc11 (Bw.refl _) _
  have hX : BoxAt W w.heap.size y := by rw [hW]; exact BoxAt.new _ _
  obtain ⟨x0, x1, x2, x3, x4, x5⟩ := hX.cells
  have hg2 := keep_cell11 hg hbw
  have es := Tr.S_eql y.it.path p
  clear hX hg
  go_enter Try.func33, Try.ntmps33
  go_upto_region 1 with fail
  rw [← hW]
  clear hW
  go_wp2
  go_ret
  exact ⟨rfl, hbw⟩
/-- a place, or -1 -/
def Tr.findI (t : List Tr.It) (p : Tr.B) : Int := match Tr.find t p with | some i => (i : Int) | none => -1
set_option maxRecDepth 100000 in
set_option maxHeartbeats 1000000 in
theorem indexf_any (A : Option Addr) (cap : Nat) (L : List Tr.Iv) (p : Tr.B) (g : Nat) (hn : L.length ≤ 4611686018427387904) (w : World) (ha : ItsAt w A L) (hg : w.cell? ⟨g, 0, none⟩ = some (.string (Nm.S p))) :
    Calls Try.prog 32 #[.slice A L.length cap, .func (.func 33) #[] #[.pointer (some ⟨g, 0, none⟩)]] w fun e w' => e = .returned (.int .i64 (Tr.findI (Tr.its L) p)) ∧ Bw w w' := by
  obtain ⟨r, hR⟩ : ∃ r, Hid (Tr.findI (Tr.its L) p = r) := ⟨_, rfl⟩
  rw [hR.out]
  obtain ⟨n, hnn⟩ : ∃ n, Hid (L.length = n) := ⟨_, rfl⟩
  rw [hnn.out] at hn ⊢
  have HA : Hid (ItsAt w A L) := ha
  have HG : Hid (w.cell? ⟨g, 0, none⟩ = some (.string (Nm.S p))) := hg
  clear ha hg
  go_enter Try.func32, Try.ntmps32
  go_wp2
  go_loopw [8] (fun i wr => ∃ k : Nat, k ≤ n ∧ i = .int .i64 (k : Int) ∧ Hid (∀ (j : Nat) (q : Tr.It), j < k → (Tr.its L)[j]? = some q → q.path ≠ p) ∧ Bw w wr) (fun i _ => n - (intOf i).toNat)
  case atStart => exact ⟨0, Nat.zero_le _, rfl, fun j q hj => absurd hj (Nat.not_lt_zero _), Bw.refl _⟩
  case round =>
    obtain ⟨i, hi, rfl, hno, hbw⟩ := hrel
    have i0 : (0 : Int) ≤ (i : Int) := Int.natCast_nonneg _
    by_cases hlt : i < n
    · have i1 : (i : Int) < (n : Int) := by omega
      obtain ⟨y, hy⟩ : ∃ y, Hid (L[i]? = some y) := ⟨_, List.getElem?_eq_getElem (by rw [hnn.out]; exact hlt)⟩
      obtain ⟨b, off, rfl, hY, -⟩ := (HA.out.keep hbw).at hy.out
      obtain ⟨d, hd⟩ : ∃ d, Hid (decide (y.it.path = p) = d) := ⟨_, rfl⟩
      have HF : Hid (∀ u, Bw w u → Calls Try.prog 33 #[.agg y.arr, .pointer (some ⟨g, 0, none⟩)] u fun e w' => e = .returned (.bool d) ∧ Bw u w') := fun u hu => by
        rw [← hd.out]; exact find1_any y p g u (keep_cell11 HG.out hu)
      have HY : Hid (ItAt wr b (off + i * 6) y) := hY
      clear hY
      cases d with
      | true =>
        have hp := of_decide_eq_true hd.out
        obtain rfl : (i : Int) = r := by
          rw [← hR.out]; unfold Tr.findI; rw [Tr.find_at _ _ i _ (Tr.its_at hy.out) hp hno.out]
        clear hp
        go_wp2_with (first
          | refine wpList_load_it (by rfl) (.tmp 14) rfl b (off + i * 6) rfl y HY.out ?_
          | (go_at_call 33; refine (HF.out _ hbw).mono ?_; rintro e w1 ⟨rfl, hw1⟩))
        go_ret
        exact ⟨rfl, hbw.trans hw1⟩
      | false =>
        have hp := of_decide_eq_false hd.out
        have nx : Hid (∀ (j : Nat) (q : Tr.It), j < i + 1 → (Tr.its L)[j]? = some q → q.path ≠ p) := fun j q hj hq => by
          rcases Nat.lt_or_ge j i with h | h
          · exact hno.out j q h hq
          · rw [show j = i by omega, Tr.its_at hy.out, Option.some.injEq] at hq
            rw [← hq]; exact hp
        clear hp
        go_wp2_with (first
          | refine wpList_load_it (by rfl) (.tmp 14) rfl b (off + i * 6) rfl y HY.out ?_
          | (go_at_call 33; refine (HF.out _ hbw).mono ?_; rintro e w1 ⟨rfl, hw1⟩))
        go_roundw
        case rel => exact ⟨i + 1, by omega, by go_num, nx, hbw.trans hw1⟩
        case measure => simp [intOf]; omega
    · have ei : i = n := by omega
      subst ei
      obtain rfl : (-1 : Int) = r := by
        rw [← hR.out]; unfold Tr.findI
        rw [Tr.find_none _ _ (fun j q hq => hno.out j q (by have := (List.getElem?_eq_some_iff.1 hq).1; rw [Tr.its_len, hnn.out] at this; exact this) hq)]
      go_wp2
      go_ret
      exact ⟨rfl, hbw⟩
set_option maxRecDepth 100000 in
theorem tfind_any (A : Option Addr) (cap : Nat) (L : List Tr.Iv) (p : Tr.B) (hn : L.length ≤ 4611686018427387904) (w : World) (ha : ItsAt w A L) :
    Calls Try.prog 10 #[.slice A L.length cap, .string (Nm.S p)] w fun e w' => e = .returned (.tuple #[.int .i64 ((Tr.findE (Tr.its L) p).1 : Int), .int .i64 (Tr.findE (Tr.its L) p).2]) ∧ Bw w w' := by
  obtain ⟨rA, rE, hR⟩ : ∃ a b, Hid (Tr.findE (Tr.its L) p = (a, b)) := ⟨_, _, show Tr.findE (Tr.its L) p = _ from rfl⟩
  rw [hR.out]
  dsimp only
  obtain ⟨r, hI⟩ : ∃ r, Hid (Tr.findI (Tr.its L) p = r) := ⟨_, rfl⟩
  have HX : Hid (∀ u, ItsAt u A L → u.cell? ⟨w.heap.size, 0, none⟩ = some (.string (Nm.S p)) → Calls Try.prog 32 #[.slice A L.length cap, .func (.func 33) #[] #[.pointer (some ⟨w.heap.size, 0, none⟩)]] u fun e w' => e = .returned (.int .i64 r) ∧ Bw u w') := fun u h1 h2 => by
    rw [← hI.out]; exact indexf_any A cap L p w.heap.size hn u h1 h2
  obtain ⟨n, hnn⟩ : ∃ n, Hid (L.length = n) := ⟨_, rfl⟩
  rw [hnn.out] at hn HX ⊢
  obtain ⟨W, hW⟩ : ∃ W, W = w.alloc (.cells #[.string (Nm.S p)] 9) := ⟨_, rfl⟩
  have hbw : Bw w W := by rw [hW]; exact bw_alloc11 (Bw.refl _) _
  have HC : Hid (W.cell? ⟨w.heap.size, 0, none⟩ = some (.string (Nm.S p))) := by show _ = _; rw [hW]; exact (new_cell8 w _ _).1
  have HA : Hid (ItsAt W A L) := ha.keep hbw
  clear ha
  rcases hf : Tr.find (Tr.its L) p with _ | i
  · have hr := hR.out
    unfold Tr.findE at hr
    rw [hf, Prod.mk.injEq] at hr
    obtain ⟨rfl, rfl⟩ := hr
    obtain rfl : (-1 : Int) = r := by rw [← hI.out]; unfold Tr.findI; rw [hf]
    clear hf
    go_enter Try.func10, Try.ntmps10
    go_upto_region 1 with fail
    rw [← hW]
    clear hW
    go_wp2_with (go_at_call 32; refine (HX.out _ HA.out HC.out).mono ?_; rintro e w1 ⟨rfl, hw1⟩)
    go_ret2
    exact ⟨rfl, hbw.trans hw1⟩
  · have hr := hR.out
    unfold Tr.findE at hr
    rw [hf, Prod.mk.injEq] at hr
    obtain ⟨rfl, rfl⟩ := hr
    obtain rfl : (i : Int) = r := by rw [← hI.out]; unfold Tr.findI; rw [hf]
    have i0 : (0 : Int) ≤ (i : Int) := Int.natCast_nonneg _
    clear hf
    go_enter Try.func10, Try.ntmps10
    go_upto_region 1 with fail
    rw [← hW]
    clear hW
    go_wp2_with (go_at_call 32; refine (HX.out _ HA.out HC.out).mono ?_; rintro e w1 ⟨rfl, hw1⟩)
    go_ret2
    exact ⟨rfl, hbw.trans hw1⟩
set_option maxRecDepth 100000 in
theorem hasfile_any (A : Option Addr) (cap : Nat) (L : List Tr.Iv) (p : Tr.B) (hn : L.length ≤ 4611686018427387904) (hs : Tr.Srt (Tr.its L)) (w : World) (ha : ItsAt w A L) :
    Calls Try.prog 52 #[.slice A L.length cap, .string (Nm.S p)] w fun e w' => e = .returned (.bool (Tr.hasB (Tr.its L) p 1)) ∧ Bw w w' := by
  obtain ⟨r, hR⟩ : ∃ r, Hid (Tr.hasB (Tr.its L) p 1 = r) := ⟨_, rfl⟩
  rw [hR.out]
  obtain ⟨n, hnn⟩ : ∃ n, Hid (L.length = n) := ⟨_, rfl⟩
  obtain ⟨rA, rE, hE⟩ : ∃ a b, Hid (Tr.findE (Tr.its L) p = (a, b)) := ⟨_, _, show Tr.findE (Tr.its L) p = _ from rfl⟩
  have HX : Hid (∀ u, ItsAt u A L → Calls Try.prog 10 #[.slice A n cap, .string (Nm.S p)] u fun e w' => e = .returned (.tuple #[.int .i64 (rA : Int), .int .i64 rE]) ∧ Bw u w') := fun u h => by
    have := tfind_any A cap L p hn u h
    rwa [hE.out, hnn.out] at this
  rw [hnn.out] at hn ⊢
  have HA : Hid (ItsAt w A L) := ha
  clear ha
  rcases hf : Tr.find (Tr.its L) p with _ | i
  · have hr := hE.out
    unfold Tr.findE at hr
    rw [hf, Prod.mk.injEq] at hr
    obtain ⟨rfl, rfl⟩ := hr
    obtain rfl : false = r := by rw [← hR.out]; exact (Tr.has_none hf).symm
    clear hf hs
    go_enter Try.func52, Try.ntmps52
    go_wp2_with (go_at_call 10; refine (HX.out _ HA.out).mono ?_; rintro e w1 ⟨rfl, hw1⟩)
    go_ret
    exact ⟨rfl, hw1⟩
  · have hr := hE.out
    unfold Tr.findE at hr
    rw [hf, Prod.mk.injEq] at hr
    obtain ⟨rfl, rfl⟩ := hr
    obtain ⟨x, hx, hxp, -⟩ := Tr.find_some _ _ _ hf
    obtain ⟨y, hy, rfl⟩ := Tr.its_of hx
    have hh := Tr.has_find hs (k := 1) hf hx
    rw [hR.out] at hh
    obtain ⟨b, off, rfl, hY, -⟩ := HA.out.at hy
    have HY : Hid (ItAt w b (off + i * 6) y) := hY
    have hlt : i < n := by have := (List.getElem?_eq_some_iff.1 hy).1; rw [hnn.out] at this; exact this
    have i0 : (0 : Int) ≤ (i : Int) := Int.natCast_nonneg _
    have i1 : (i : Int) < (n : Int) := by omega
    have hb : ((y.it.kind : Int) == 1) = r := by
      rw [hh]
      by_cases h : y.it.kind = 1
      · rw [decide_eq_true h, h]; rfl
      · rw [decide_eq_false h, beq_eq_false_iff_ne]; omega
    clear hf hs hx hxp hh hY hy
    go_enter Try.func52, Try.ntmps52
    go_wp2_with (go_at_call 10; refine (HX.out _ HA.out).mono ?_; rintro e w1 ⟨rfl, hw1⟩; have c1 := (HY.out.keep hw1).c1)
    go_ret
    exact ⟨rfl, hw1⟩
end Go.Proofs.Ytjifdoneejofiab
