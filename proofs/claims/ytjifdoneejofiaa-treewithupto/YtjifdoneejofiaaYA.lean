/- The program's own With, of layer 11, as landed at 97b3c5cd: the library's BinarySearchFunc, Grow and Concat at items. -/
import Derived.Test.YtjifdoneejofiaaY6
import Derived.Deep.LoopGhost
import Derived.Lib.AppendZeros
namespace Go.Proofs.Ytjifdoneejofiaa
open Go.RowKit Go.Deep
set_option linter.unusedVariables false
set_option linter.unusedSimpArgs false

set_option maxRecDepth 100000 in
theorem with1_any (y : Tr.Iv) (p : Tr.B) (hp : p.length ≤ 4611686018427387904) (hf : Tr.Fit y.it) (w : World) : Calls Try.prog 54 #[.agg y.arr, .string (Nm.S p)] w fun e w' => e = .returned (.int .i64 (Nm.cmp y.it.path p)) ∧ Bw w w' := by
  obtain ⟨W, hW⟩ : ∃ W, W = w.alloc (.cells y.arr 26) := ⟨_, rfl⟩
  have hbw : Bw w W := by rw [hW]; exact bw_alloc11 (Bw.refl _) _
  have hX : BoxAt W w.heap.size y := by rw [hW]; exact BoxAt.new _ _
  obtain ⟨x0, -, -, -, -, -⟩ := hX.cells
  have HF : Hid (∀ u, Calls Try.prog 43 #[.string (Nm.S y.it.path), .string (Nm.S p)] u fun e w' => e = .returned (.int .i64 (Nm.cmp y.it.path p)) ∧ Bw u w') := fun u => ncompareL y.it.path p (by have := hf.path; omega) hp u
  clear hX
  go_enter Try.func54, Try.ntmps54
  go_upto_region 1 with fail
  rw [← hW]
  clear hW
  go_wp2_with (go_at_call 43; refine (HF.out _).mono ?_; rintro e w1 ⟨rfl, hw1⟩)
  go_ret
  exact ⟨rfl, hbw.trans hw1⟩
namespace Tr
/-- a place in a tree for a path -/
structure Place (t : List It) (p : B) (c : Nat) (b : Bool) : Prop where
  le : c ≤ t.length
  low : ∀ (j : Nat) (x : It), j < c → t[j]? = some x → Nm.cmp x.path p = -1
  high : ∀ (j : Nat) (x : It), c ≤ j → t[j]? = some x → Nm.cmp x.path p ≠ -1
  there : b = true ↔ ∃ x, t[c]? = some x ∧ x.path = p
theorem cmp_mono {t : List It} (hs : Srt t) {p : B} {j k : Nat} {x y : It} (hjk : j ≤ k) (hx : t[j]? = some x) (hy : t[k]? = some y) (h : Nm.cmp y.path p = -1) : Nm.cmp x.path p = -1 := by
  rcases Nat.lt_or_ge j k with g | g
  · have h1 := hs j k x y g hx hy
    have f := Nm.cmp_facts x.path y.path p
    have r := (Nm.cmp_facts x.path p p).1
    have := f.2.2.2.2 (by omega) (by omega)
    omega
  · obtain rfl : j = k := by omega
    rw [hx] at hy; obtain rfl := Option.some.inj hy; exact h
end Tr
set_option maxRecDepth 100000 in
set_option maxHeartbeats 4000000 in
theorem bsearch_any (A : Option Addr) (cap : Nat) (L : List Tr.Iv) (p : Tr.B) (hn : L.length ≤ 1000000) (hp : p.length ≤ 4611686018427387904) (hs : Tr.Srt (Tr.its L)) (w : World) (ha : ItsAt w A L) :
    Calls Try.prog 53 #[.slice A L.length cap, .string (Nm.S p), .func (.func 54) #[] #[]] w fun e w' => ∃ c b, e = .returned (.tuple #[.int .i64 ((c : Nat) : Int), .bool b]) ∧ Tr.Place (Tr.its L) p c b ∧ Bw w w' := by
  obtain ⟨n, hnn⟩ : ∃ n, Hid (L.length = n) := ⟨_, rfl⟩
  rw [hnn.out] at hn ⊢
  have HA : Hid (ItsAt w A L) := ha
  have HS : Hid (Tr.Srt (Tr.its L)) := hs
  have HTL : Hid ((Tr.its L).length = n) := by show _ = _; rw [Tr.its_len, hnn.out]
  clear ha hs
  go_enter Try.func53, Try.ntmps53
  go_wp2
  go_loopw [9, 10] (fun s9 s10 wr => ∃ lo hi : Nat, s9 = .int .i64 (lo : Int) ∧ s10 = .int .i64 (hi : Int) ∧ lo ≤ hi ∧ hi ≤ n ∧ Hid (∀ (j : Nat) (x : Tr.It), j < lo → (Tr.its L)[j]? = some x → Nm.cmp x.path p = -1) ∧ Hid (∀ (j : Nat) (x : Tr.It), hi ≤ j → (Tr.its L)[j]? = some x → Nm.cmp x.path p ≠ -1) ∧ Bw w wr) (fun s9 s10 _ => (intOf s10).toNat - (intOf s9).toNat)
  case atStart => exact ⟨0, n, rfl, rfl, Nat.zero_le _, Nat.le_refl _, (fun j x hj => absurd hj (Nat.not_lt_zero _)), (fun j x hj hx => by have := (List.getElem?_eq_some_iff.1 hx).1; rw [HTL.out] at this; omega), Bw.refl _⟩
  case round =>
    obtain ⟨lo, hi, rfl, rfl, hlh, hin, hlow, hhigh, hbw⟩ := hrel
    by_cases hlt : lo < hi
    · obtain ⟨y, hy⟩ : ∃ y, Hid (L[(lo + hi) / 2]? = some y) := ⟨_, List.getElem?_eq_getElem (by rw [hnn.out]; omega)⟩
      obtain ⟨b, off, rfl, hY, hB⟩ := (HA.out.keep hbw).at hy.out
      have HY : Hid (ItAt wr b (off + (lo + hi) / 2 * 6) y) := hY
      have HTy : Hid ((Tr.its L)[(lo + hi) / 2]? = some y.it) := Tr.its_at hy.out
      obtain ⟨cv, hcv⟩ : ∃ r, Hid (Nm.cmp y.it.path p = r) := ⟨_, rfl⟩
      have hcr := (Nm.cmp_facts y.it.path p p).1
      rw [hcv.out] at hcr
      have HF : Hid (∀ u, Calls Try.prog 54 #[.agg y.arr, .string (Nm.S p)] u fun e w' => e = .returned (.int .i64 cv) ∧ Bw u w') := fun u => by
        rw [← hcv.out]; exact with1_any y p hp hB.fit u
      clear hY hB
      by_cases hc : cv < 0
      · have HLo : Hid (∀ (j : Nat) (x : Tr.It), j < (lo + hi) / 2 + 1 → (Tr.its L)[j]? = some x → Nm.cmp x.path p = -1) := fun j x hj hx =>
          Tr.cmp_mono HS.out (show j ≤ (lo + hi) / 2 by omega) hx HTy.out (by rw [hcv.out]; omega)
        go_wp2_with (first
          | refine wpList_load_it (by rfl) (.tmp 27) rfl b (off + (lo + hi) / 2 * 6) rfl y HY.out ?_
          | (go_at_call 54; refine (HF.out _).mono ?_; rintro e w1 ⟨rfl, hw1⟩))
        go_roundw
        case rel => exact ⟨(lo + hi) / 2 + 1, hi, by rw [show ((lo : Int) + (hi : Int)) / 2 + 1 = (((lo + hi) / 2 + 1 : Nat) : Int) by omega], rfl, by omega, hin, HLo.out, hhigh.out, hbw.trans hw1⟩
        case measure => simp [intOf]; omega
      · have HHi : Hid (∀ (j : Nat) (x : Tr.It), (lo + hi) / 2 ≤ j → (Tr.its L)[j]? = some x → Nm.cmp x.path p ≠ -1) := fun j x hj hx e => by
          have := Tr.cmp_mono HS.out hj HTy.out hx e
          rw [hcv.out] at this
          omega
        go_wp2_with (first
          | refine wpList_load_it (by rfl) (.tmp 27) rfl b (off + (lo + hi) / 2 * 6) rfl y HY.out ?_
          | (go_at_call 54; refine (HF.out _).mono ?_; rintro e w1 ⟨rfl, hw1⟩))
        go_roundw
        case rel => exact ⟨lo, (lo + hi) / 2, rfl, by rw [show ((lo : Int) + (hi : Int)) / 2 = (((lo + hi) / 2 : Nat) : Int) by omega], by omega, by omega, hlow.out, HHi.out, hbw.trans hw1⟩
        case measure => simp [intOf]; omega
    · obtain rfl : hi = lo := by omega
      by_cases hlt2 : hi < n
      · obtain ⟨y, hy⟩ : ∃ y, Hid (L[hi]? = some y) := ⟨_, List.getElem?_eq_getElem (by rw [hnn.out]; omega)⟩
        obtain ⟨b, off, rfl, hY, hB⟩ := (HA.out.keep hbw).at hy.out
        have HY : Hid (ItAt wr b (off + hi * 6) y) := hY
        have HTy : Hid ((Tr.its L)[hi]? = some y.it) := Tr.its_at hy.out
        obtain ⟨cv, hcv⟩ : ∃ r, Hid (Nm.cmp y.it.path p = r) := ⟨_, rfl⟩
        have HF : Hid (∀ u, Calls Try.prog 54 #[.agg y.arr, .string (Nm.S p)] u fun e w' => e = .returned (.int .i64 cv) ∧ Bw u w') := fun u => by
          rw [← hcv.out]; exact with1_any y p hp hB.fit u
        have i0 : (0 : Int) ≤ (hi : Int) := Int.natCast_nonneg _
        have i1 : (hi : Int) < (n : Int) := by omega
        have hz := (Nm.cmp_facts y.it.path p p).2.2.1
        rw [hcv.out] at hz
        have HP : Hid (∀ b : Bool, (b = true ↔ cv = 0) → Tr.Place (Tr.its L) p hi b) := fun b hb => ⟨by rw [HTL.out]; omega, hlow.out, hhigh.out, by
          rw [hb, hz]
          constructor
          · intro e; exact ⟨y.it, HTy.out, e⟩
          · rintro ⟨x, hx, e⟩
            rw [HTy.out] at hx; obtain rfl := Option.some.inj hx; exact e⟩
        clear hY hB hz
        obtain ⟨bb, hbb⟩ : ∃ b : Bool, (cv == 0) = b := ⟨_, rfl⟩
        have HBB : Hid (bb = true ↔ cv = 0) := by rw [← hbb]; exact beq_iff_eq
        go_wp2_with (first
          | refine wpList_load_it (by rfl) (.tmp 43) rfl b (off + hi * 6) rfl y HY.out ?_
          | (go_at_call 54; refine (HF.out _).mono ?_; rintro e w1 ⟨rfl, hw1⟩))
        go_ret2
        exact ⟨hi, bb, rfl, HP.out bb HBB.out, hbw.trans hw1⟩
      · obtain rfl : hi = n := by omega
        have HP : Hid (Tr.Place (Tr.its L) p hi false) := ⟨by rw [HTL.out]; omega, hlow.out, hhigh.out, ⟨(fun e => by cases e), by
          rintro ⟨x, hx, -⟩
          have := (List.getElem?_eq_some_iff.1 hx).1
          rw [HTL.out] at this
          omega⟩⟩
        go_wp2
        go_ret2
        exact ⟨hi, false, rfl, HP.out, hbw⟩
end Go.Proofs.Ytjifdoneejofiaa
