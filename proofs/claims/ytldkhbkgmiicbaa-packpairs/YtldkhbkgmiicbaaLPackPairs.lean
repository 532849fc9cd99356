/- Proved: for every item the statement PackPairs answers true (the document's P12.1: every Pairs). -/
import Derived.Test.YtldkhbkgmiicbaaZ1
import Derived.Test.YtldkhbkgmiicbaaAE
import Derived.Test.YtldkhbkgmiicbaaFy
import Derived.ShutString
import Derived.ChangeOld
namespace Go.Proofs.Ytldkhbkgmiicbaa.packPairs
open Go.ChangeShapes Go.WideShapes Go.ChangeAt Go.RowKit
set_option linter.unusedVariables false

set_option linter.unusedSimpArgs false
open Go.Deep
def none12 : Tr.Iv := ⟨⟨[97], 0, 0, 0, [], []⟩, none, 0⟩
theorem none12_fit : Tr.Fit none12.it := ⟨by decide, by decide, by decide, by decide, by decide, by decide⟩
theorem none12_may : Tr.mayE none12.it = 1 := by decide +kernel
theorem built_none12 : Try.prog.built 25 [(0, .string ⟨#[97]⟩)] = some none12.arr := by kernel_rfl
set_option maxRecDepth 100000 in
set_option maxHeartbeats 4000000 in
theorem walk (y0 : Tr.Iv) (w : World) (w0 : BodyAt w y0) :
    Calls Try.prog 3 #[.agg (Tr.Iv.vals y0).toArray] w fun e w' => e = .returned (.bool true) ∧ Below w.heap.size w w' := by
  have hfit := w0.fit
  obtain ⟨sa, sb, er, hS⟩ := Pk.split_ex y0.it.path
  obtain ⟨na, nb_, ner, hN⟩ := Pk.split_ex none12.it.path
  have HP : Hid (∀ u, Calls Try.prog 4 #[.agg y0.arr] u fun e w' => PairsEnds u.heap.size y0.it er e w' ∧ Bw u w') := fun u => ppairs_any y0 hfit hS u
  have HR : Hid (∀ u, Calls Try.prog 5 #[.agg y0.arr] u fun e w' => PairsEnds u.heap.size y0.it er e w' ∧ Bw u w') := fun u => rpairs_any y0 hfit hS u
  have HN : Hid (∀ u, Calls Try.prog 4 #[.agg none12.arr] u fun e w' => e = .returned (.tuple #[.slice none 0 0, .int .i64 1]) ∧ Bw u w') := fun u => (ppairs_any none12 none12_fit hN u).mono fun e w' h => ⟨by
    have := h.1.1 (by rw [none12_may]; decide)
    rwa [none12_may] at this, h.2⟩
  obtain ⟨em, hem⟩ : ∃ r, Hid (Tr.mayE y0.it = r) := ⟨_, rfl⟩
  obtain ⟨L, hL⟩ : ∃ L, Hid (Pk.prs y0.it er = L) := ⟨_, rfl⟩
  have hl2 : L.length ≤ 2 := by rw [← hL.out]; exact Pk.prs_len _ _
  obtain ⟨n, hn⟩ : ∃ n, Hid (L.length = n) := ⟨_, rfl⟩
  rw [hn.out] at hl2
  have cvt : ∀ (bs : Nat) e w', em = 0 → PairsEnds bs y0.it er e w' → ∃ A c, e = .returned (.tuple #[.slice A n c, .int .i64 0]) ∧ PrsAt w' A L := fun bs e w' h0 h => by
    obtain ⟨v, rfl, ho⟩ := h.2 (by rw [hem.out]; exact h0)
    rw [hL.out] at ho
    obtain ⟨A, c, hv, -, hI, -⟩ := prs_of_own ho
    rw [hn.out] at hv
    subst hv
    exact ⟨A, c, rfl, hI⟩
  have cvn : ∀ (bs : Nat) e w', em ≠ 0 → PairsEnds bs y0.it er e w' → e = .returned (.tuple #[.slice none 0 0, .int .i64 em]) := fun bs e w' h0 h => by
    have := h.1 (by rw [hem.out]; exact h0)
    rwa [hem.out] at this
  obtain ⟨W, hW⟩ : ∃ W, W = w.alloc (.cells y0.arr 25) := ⟨_, rfl⟩
  have hbW : Bw w W := by rw [hW]; exact bw_alloc11 (Bw.refl _) _
  have HX : Hid (BoxAt W w.heap.size y0) := by rw [hW]; exact BoxAt.new _ _
  have tok1 : Hid (w = w) := rfl
  clear w0 hfit
  rw [← Tr.arr_vals]
  by_cases h0 : em = 0
  · have HP0 : Hid (∀ u, Calls Try.prog 4 #[.agg y0.arr] u fun e w' => (∃ A c, e = .returned (.tuple #[.slice A n c, .int .i64 0]) ∧ PrsAt w' A L) ∧ Bw u w') := fun u => (HP.out u).mono fun e w' h => ⟨cvt _ e w' h0 h.1, h.2⟩
    have HR0 : Hid (∀ u, Calls Try.prog 5 #[.agg y0.arr] u fun e w' => (∃ A c, e = .returned (.tuple #[.slice A n c, .int .i64 0]) ∧ PrsAt w' A L) ∧ Bw u w') := fun u => (HR.out u).mono fun e w' h => ⟨cvt _ e w' h0 h.1, h.2⟩
    clear HP HR cvt cvn h0
    go_enter Try.func3, Try.ntmps3
    go_upto_region 1 with fail
    rw [← hW]
    clear hW
    go_wp2_with (first
      | refine wpList_load_it (by rfl) (.tmp 1) rfl w.heap.size 0 rfl y0 HX.out.it ?_
      | (go_at_call 4; clear tok1; refine (HP0.out _).mono ?_; rintro e w1 ⟨⟨A1, c1, rfl, hI1⟩, hw1⟩; replace HX : Hid (BoxAt w1 w.heap.size y0) := HX.out.keep hw1)
      | (go_at_call 5; refine (HR0.out _).mono ?_; rintro e w2 ⟨⟨A2, c2, rfl, hI2⟩, hw2⟩; have hI12 := hI1.keep hw2))
    have HI1 : Hid (PrsAt w2 A1 L) := hI12
    have HI2 : Hid (PrsAt w2 A2 L) := hI2
    have hb2 := (hbW.trans hw1).trans hw2
    clear hI12 hI1 hI2
    go_loopw [7] (fun i wr => ∃ k : Nat, k ≤ n ∧ i = .int .i64 (k : Int) ∧ Bw w2 wr) (fun i _ => n - (intOf i).toNat)
    case atStart => exact ⟨0, Nat.zero_le _, rfl, Bw.refl _⟩
    case round =>
      obtain ⟨k, hk, rfl, hbr⟩ := hrel
      by_cases hlt : k < n
      · have i0 : (0 : Int) ≤ (k : Int) := Int.natCast_nonneg _
        have i1 : (k : Int) < (n : Int) := by omega
        obtain ⟨p, hp⟩ : ∃ p, Hid (L[k]? = some p) := ⟨_, List.getElem?_eq_getElem (by rw [hn.out]; exact hlt)⟩
        have f1 := (HI1.out.keep hbr)
        have f2 := (HI2.out.keep hbr)
        rcases f1 with f1 | ⟨b1, o1, rfl, f1⟩
        · have := hn.out; rw [f1] at this; simp at this; omega
        rcases f2 with f2 | ⟨b2, o2, rfl, f2⟩
        · have := hn.out; rw [f2] at this; simp at this; omega
        obtain ⟨a0, a1⟩ := f1 k p hp.out
        obtain ⟨b0, b1'⟩ := f2 k p hp.out
        have hne := fun W => neq_pair W p p
        simp only [ne_eq, not_true_eq_false, decide_false] at hne
        clear f1 f2
        go_wp2_with fail
        go_quiet (fail)
        go_wp2
        go_roundw
        case rel => exact ⟨k + 1, by omega, by go_num, hbr.trans (Bw.drewN _ _)⟩
        case measure => simp [intOf]; omega
      · obtain rfl : k = n := by omega
        have hbn := built_none12
        go_wp2_with (first
          | refine wpList_built11 rfl _ _ rfl none12.arr hbn ?_
          | (go_at_call 4; refine (HN.out _).mono ?_; rintro e w5 ⟨rfl, hw5⟩))
        go_ret
        exact ⟨rfl, (hb2.trans hbr).trans hw5⟩
  · have HP0 : Hid (∀ u, Calls Try.prog 4 #[.agg y0.arr] u fun e w' => e = .returned (.tuple #[.slice none 0 0, .int .i64 em]) ∧ Bw u w') := fun u => (HP.out u).mono fun e w' h => ⟨cvn _ e w' h0 h.1, h.2⟩
    have HR0 : Hid (∀ u, Calls Try.prog 5 #[.agg y0.arr] u fun e w' => e = .returned (.tuple #[.slice none 0 0, .int .i64 em]) ∧ Bw u w') := fun u => (HR.out u).mono fun e w' h => ⟨cvn _ e w' h0 h.1, h.2⟩
    clear HP HR cvt cvn h0
    go_enter Try.func3, Try.ntmps3
    go_upto_region 1 with fail
    rw [← hW]
    clear hW
    go_wp2_with (first
      | refine wpList_load_it (by rfl) (.tmp 1) rfl w.heap.size 0 rfl y0 HX.out.it ?_
      | (go_at_call 4; clear tok1; refine (HP0.out _).mono ?_; rintro e w1 ⟨rfl, hw1⟩; replace HX : Hid (BoxAt w1 w.heap.size y0) := HX.out.keep hw1)
      | (go_at_call 5; refine (HR0.out _).mono ?_; rintro e w2 ⟨rfl, hw2⟩))
    have hb2 := (hbW.trans hw1).trans hw2
    go_loop [7] (fun i => i = .int .i64 0) (fun i => 0)
    case atStart => rfl
    case round =>
      obtain rfl := hrel
      have hbn := built_none12
      go_wp2_with (first
        | refine wpList_built11 rfl _ _ rfl none12.arr hbn ?_
        | (go_at_call 4; refine (HN.out _).mono ?_; rintro e w5 ⟨rfl, hw5⟩))
      go_ret
      exact ⟨rfl, hb2.trans hw5⟩

set_option maxRecDepth 100000 in
theorem lifted (os : Os) (started : os.Started) (H : Type) (enc : TypeId × Value → H) :
    ReturnsInHanded {} Try.checked os 3 .any (Rows.packPairsSpec.pre6 enc Try.prog Try.f3 Rows.packPairsRow.domain false) (Rows.packPairsSpec.post enc Try.prog Try.f3 false true false false) := by
  refine returnsInHanded_of_change_sized (C := Try.checked) own started (by kernel_rfl) Try.func3
    (ChangeSpec.witness6 (enc := enc) (C := Try.checked) false ⟨#[], #[.agg #[.string .empty, .int .u8 0, .int .i64 0, .int .i64 0, .slice none 0 0, .string .empty]], []⟩ 8 (by kernel_rfl) (by kernel_rfl) (by kernel_rfl) (by kernel_rfl)) ?_
  intro W base args ds gs before hval0 hW hcnd hsz0 _
  have hval : ∀ (j : Nat) t v, Try.f3.params[j]? = some t → args[j]? = some v → Value.okWide Try.prog W .any base t v := hval0
  have hW' := hW
  obtain ⟨p, q, hA0, hV, rfl, hfz, hnd⟩ := hW
  have hA : DataW.TrodAll enc Try.prog W 0 (fun _ => true) true Try.f3.params.toList args.toList ds p := hA0
  have hsz : (DataW.weightsEach Try.prog (Try.f3.params.toList ++ Rows.packPairsSpec.plain.varTypes Try.prog) (ds ++ gs)).all (· ≤ reachBytes) = true := hsz0
  rw [Try.params3] at hA hval hsz
  obtain ⟨v0, vs0, d0, ds0, p0, q0, hargs, rfl, rfl, h0, r0⟩ := trodAll_cons hA
  obtain ⟨rfl, rfl, rfl⟩ := trodAll_nil r0
  obtain rfl : args = #[v0] := by cases args; simp_all
  obtain ⟨rfl, rfl⟩ := trodVars_none hV
  have k0 := h0
  have lt0 : ∀ x ∈ p0, x.block < W.heap.size := by obtain ⟨m, hm⟩ := k0; exact DataW.trod_lt m _ _ _ hm
  obtain ⟨y0, rfl, w0⟩ := open_item (hval 0 25 v0 rfl rfl) h0 (fun x hx => by simpa using List.all_eq_true.1 hsz x (DataW.weights_mem_each (j := 0) (t := 25) rfl rfl x hx))
  clear hA0 hval0
  refine (walk y0 W w0).mono fun e W' ⟨he, bel⟩ => ?_
  subst he
  exact ⟨_, rfl, _, _, _, [], _, [], hW', trodAll_mk1 (shut_bool Try.underlying4 _), (trodAll_cons_mk (Below.trod laidOut (by kernel_rfl) (of_decide_eq_true (by kernel_rfl)) k0 bel lt0) trodAll_mk0), rfl, bel.frame _, fun h => by cases h⟩

theorem over : Rows.packPairsRow.holds Try.pinned (OpenSpec.ofChange Rows.packPairsSpec) :=
  OpenClaim.holds_of_wide 3 Try.f3 rfl rfl rfl rfl rfl rfl rfl ⟨rfl, rfl, rfl, rfl, rfl⟩ rfl rfl rfl rfl rfl (by kernel_rfl) Try.func3 (by kernel_rfl)
    (of_decide_eq_true (by kernel_rfl)) (by unfold Func.isWrapper; first | (rw [if_pos (by decide +kernel)]; kernel_rfl) | (rw [if_neg (by decide +kernel)]; exact ⟨rfl, rfl⟩))
    (fun os started H enc _ => lifted os started H enc)

theorem proved : Rows.PackPairsSaid := over
#print axioms proved
end Go.Proofs.Ytldkhbkgmiicbaa.packPairs
