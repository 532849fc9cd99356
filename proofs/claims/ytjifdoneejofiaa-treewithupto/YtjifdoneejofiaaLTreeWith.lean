/- Proved: for every list of items and every item, all of them together of at most 1048576 values and letters, the statement TreeWith answers true (the document's P11.7 and P11.13: every With). -/
import Derived.Test.YtjifdoneejofiaaU8
import Derived.Test.YtjifdoneejofiaaYP
import Derived.Test.YtjifdoneejofiaaY7
import Derived.Test.YtjifdoneejofiaaFu
import Derived.ShutString
import Derived.ChangeOld
import Derived.JoinedCond
import Derived.Deep.CondSized
namespace Go.Proofs.Ytjifdoneejofiaa.treeWith
open Go.ChangeShapes Go.WideShapes Go.ChangeAt Go.RowKit
set_option linter.unusedVariables false

set_option linter.unusedSimpArgs false
open Go.Deep
set_option maxRecDepth 100000 in
set_option maxHeartbeats 4000000 in
theorem walk (a0 : Option Addr) (len0 cap0 : Nat) (L0 : List Tr.Iv) (y1 : Tr.Iv) (w : World) (w0 : InItsU w a0 len0 cap0 L0) (w1 : InItU w y1) :
    Calls Try.prog 5 #[.slice a0 len0 cap0, .agg (Tr.Iv.vals y1).toArray] w fun e w' => e = .returned (.bool true) ∧ Below w.heap.size w w' := by
  obtain ⟨⟨hlen, hits, hle, hroom, hnil⟩, hsm⟩ := w0
  obtain ⟨hyb, hyp⟩ := w1
  have HNL : Hid (L0.length = len0) := hlen
  have HI : Hid (ItsAt w a0 L0) := hits
  have HYB : Hid (BodyAt w y1) := hyb
  have HLent : Hid (∀ u, Bw w u → Calls Try.prog 9 #[.slice a0 len0 cap0] u fun e w' => ∃ g c M, e = .returned (.slice (some ⟨g, 0, none⟩) len0 c) ∧ Tr.its M = Tr.its L0 ∧ LentAt w' g c M ∧ u.heap.size ≤ g ∧ Bw u w') := fun u hu => by
    have := lent11_any a0 cap0 L0 (by rw [HNL.out]; omega) u (HI.out.keep hu)
    rwa [HNL.out] at this
  obtain ⟨T, hT⟩ : ∃ T, Hid (Tr.withL (Tr.its L0) y1.it = T) := ⟨_, rfl⟩
  obtain ⟨er, hE⟩ : ∃ er, Hid (Tr.withE (Tr.its L0) y1.it = er) := ⟨_, rfl⟩
  have HTW : Hid (∀ u g c M, Bw w u → Tr.its M = Tr.its L0 → LentAt u g c M → Calls Try.prog 23 #[.slice (some ⟨g, 0, none⟩) len0 c, .agg y1.arr] u fun e w' => SayIts T er e w' ∧ Bw u w') := fun u g c M hu he hl => by
    have hml : M.length = len0 := by have := congrArg List.length he; rwa [Tr.its_len, Tr.its_len, HNL.out] at this
    have := twith_any (some ⟨g, 0, none⟩) c M y1 (by omega) (by have := hl.room; omega) (fun e => by cases e) u hl.its (HYB.out.keep hu)
    rw [he, hml, hT.out, hE.out] at this
    exact this.mono fun e w' h => ⟨h.1.says, h.2⟩
  have HRW : Hid (∀ u, Bw w u → Calls Try.prog 24 #[.slice a0 len0 cap0, .agg y1.arr] u fun e w' => SayIts T er e w' ∧ Bw u w') := fun u hu => by
    have := rwith_any a0 cap0 L0 y1 (by rw [HNL.out]; omega) (by rw [HNL.out]; exact hle) hyp u (HI.out.keep hu) (HYB.out.keep hu)
    rwa [HNL.out, hT.out, hE.out] at this
  have HKept : Hid (∀ u g c M, Bw w u → Tr.its M = Tr.its L0 → LentAt u g c M → Calls Try.prog 14 #[.slice (some ⟨g, 0, none⟩) len0 c, .slice a0 len0 cap0] u fun e w' => e = .returned (.bool true) ∧ Bw u w') := fun u g c M hu he hl => by
    have := kept11_any g c cap0 a0 M L0 (by rw [HNL.out]; omega) he u hl (HI.out.keep hu)
    rwa [HNL.out] at this
  have HTL : Hid (T.length ≤ 4611686018427387904) := by
    show _ ≤ _
    rw [← hT.out, Tr.with_len, Tr.its_len, HNL.out]
    split <;> omega
  have HSame : Hid (∀ u A c M A' c' M', Tr.its M = T → Tr.its M' = T → ItsAt u A M → ItsAt u A' M' → Calls Try.prog 19 #[.slice A M.length c, .slice A' M'.length c'] u fun e w' => e = .returned (.bool true) ∧ Bw u w') := fun u A c M A' c' M' h1 h2 h3 h4 => by
    have l1 : M.length = T.length := by rw [← h1, Tr.its_len]
    have l2 : M'.length = T.length := by rw [← h2, Tr.its_len]
    have hTL := HTL.out
    refine (rsame11_any A A' c c' M M' (by omega) (by omega) u h3 h4).mono fun e w' h => ?_
    obtain ⟨⟨x, rfl, hx⟩, hw⟩ := h
    rw [hx.2 (h1.trans h2.symm)]; exact ⟨rfl, hw⟩
  have HNil : Hid (∀ u, Calls Try.prog 19 #[.slice none 0 0, .slice none 0 0] u fun e w' => e = .returned (.bool true) ∧ Bw u w') := fun u => by
    refine (rsame11_any none none 0 0 [] [] (by decide) (by decide) u (ItsAt.nil _ _) (ItsAt.nil _ _)).mono fun e w' h => ?_
    obtain ⟨⟨x, rfl, hx⟩, hw⟩ := h
    rw [hx.2 rfl]; exact ⟨rfl, hw⟩
  obtain ⟨W, hW⟩ : ∃ W, W = w.alloc (.cells y1.arr 26) := ⟨_, rfl⟩
  have hbW : Bw w W := by rw [hW]; exact bw_alloc11 (Bw.refl _) _
  have HX : Hid (BoxAt W w.heap.size y1) := by rw [hW]; exact BoxAt.new _ _
  clear hlen hits hnil hyb hsm
  rw [← Tr.arr_vals]
  by_cases h0 : er = 0
  · subst h0
    go_enter Try.func5, Try.ntmps5
    go_upto_region 1 with fail
    rw [← hW]
    clear hW
    go_wp2_with (first
      | (go_at_call 9; refine (HLent.out _ hbW).mono ?_; rintro e w1 ⟨g1, c1, M1, rfl, he1, hl1, -, hw1⟩; have hb1 := hbW.trans hw1; have HX1 : Hid (BoxAt w1 w.heap.size y1) := HX.out.keep hw1)
      | refine wpList_load_it (by rfl) (.tmp 3) rfl w.heap.size 0 rfl y1 HX1.out.it ?_
      | (go_at_call 23; refine (HTW.out _ g1 c1 M1 hb1 he1 hl1).mono ?_; rintro e w2 ⟨⟨-, h2⟩, hw2⟩; obtain ⟨A2, c2, M2, rfl, hm2, hle2, hI2⟩ := h2 rfl; have hb2 := hb1.trans hw2; replace HX1 : Hid (BoxAt w2 w.heap.size y1) := HX1.out.keep hw2)
      | (go_at_call 24; refine (HRW.out _ hb2).mono ?_; rintro e w3 ⟨⟨-, h3⟩, hw3⟩; obtain ⟨A3, c3, M3, rfl, hm3, hle3, hI3⟩ := h3 rfl; have hb3 := hb2.trans hw3; have hI2' := hI2.keep hw3)
      | (go_at_call 19; refine (HSame.out _ A2 c2 M2 A3 c3 M3 hm2 hm3 hI2' hI3).mono ?_; rintro e w4 ⟨rfl, hw4⟩; have hl4 := ((hl1.keep hw2).keep hw3).keep hw4)
      | (go_at_call 14; refine (HKept.out _ g1 c1 M1 (hb3.trans hw4) he1 hl4).mono ?_; rintro e w5 ⟨rfl, hw5⟩))
    go_ret
    exact ⟨rfl, (hb3.trans hw4).trans hw5⟩
  · have HE0 : Hid (er ≠ 0) := h0
    clear h0
    go_enter Try.func5, Try.ntmps5
    go_upto_region 1 with fail
    rw [← hW]
    clear hW
    go_wp2_with (first
      | (go_at_call 9; refine (HLent.out _ hbW).mono ?_; rintro e w1 ⟨g1, c1, M1, rfl, he1, hl1, -, hw1⟩; have hb1 := hbW.trans hw1; have HX1 : Hid (BoxAt w1 w.heap.size y1) := HX.out.keep hw1)
      | refine wpList_load_it (by rfl) (.tmp 3) rfl w.heap.size 0 rfl y1 HX1.out.it ?_
      | (go_at_call 23; refine (HTW.out _ g1 c1 M1 hb1 he1 hl1).mono ?_; rintro e w2 ⟨⟨h2, -⟩, hw2⟩; obtain rfl := h2 HE0.out; have hb2 := hb1.trans hw2; replace HX1 : Hid (BoxAt w2 w.heap.size y1) := HX1.out.keep hw2)
      | (go_at_call 24; refine (HRW.out _ hb2).mono ?_; rintro e w3 ⟨⟨h3, -⟩, hw3⟩; obtain rfl := h3 HE0.out; have hb3 := hb2.trans hw3)
      | (go_at_call 19; refine (HNil.out _).mono ?_; rintro e w4 ⟨rfl, hw4⟩; have hl4 := ((hl1.keep hw2).keep hw3).keep hw4)
      | (go_at_call 14; refine (HKept.out _ g1 c1 M1 (hb3.trans hw4) he1 hl4).mono ?_; rintro e w5 ⟨rfl, hw5⟩))
    go_ret
    exact ⟨rfl, (hb3.trans hw4).trans hw5⟩

set_option maxRecDepth 100000 in
theorem lifted (os : Os) (started : os.Started) (H : Type) (enc : TypeId × Value → H) (F : Stop.Interp) :
    ReturnsInHanded {} Try.checked os 5 .any ((Rows.OpenSpec.upto Rows.treeWithSpec).pre6 enc Try.prog Try.f5 Rows.treeWithUptoRow.domain false) (((Rows.OpenSpec.upto Rows.treeWithSpec).at F).post enc Try.prog Try.f5 false true false false) := by
  refine returnsInHanded_of_cond_sized (C := Try.checked) (s := Rows.OpenSpec.upto Rows.treeWithSpec) (k := Rows.uptoSmall) rfl own started (by kernel_rfl) Try.func5
    (OpenSpec.witness (enc := enc) (C := Try.checked) (s := Rows.OpenSpec.upto Rows.treeWithSpec) (k := Rows.uptoSmall) rfl false ⟨#[], #[.slice none 0 0, .agg #[.string .empty, .int .u8 0, .int .i64 0, .int .i64 0, .slice none 0 0, .string .empty]], []⟩ 8 (by kernel_rfl) (by kernel_rfl) (by kernel_rfl) (x := ([.nil, .agg [.lit (.string []), .lit (.int .u8 0), .lit (.int .i64 0), .lit (.int .i64 0), .nil, .lit (.string [])]], [], [])) (by kernel_rfl) rfl (by kernel_rfl)) ?_
  intro W base args ds gs before hval0 hW hcnd hk0 hsz0 _
  have hval : ∀ (j : Nat) t v, Try.f5.params[j]? = some t → args[j]? = some v → Value.okWide Try.prog W .any base t v := hval0
  have hW1 : DataW.Whole enc Try.prog Try.f5.params.toList Rows.treeWithSpec.vars false W args.toList ds gs before := hW
  have hW' := hW1
  obtain ⟨p, q, hA0, hV, rfl, hfz, hnd⟩ := hW1
  have hA : DataW.TrodAll enc Try.prog W 0 (fun _ => true) true Try.f5.params.toList args.toList ds p := hA0
  have hsz : (DataW.weightsEach Try.prog (Try.f5.params.toList ++ Rows.treeWithSpec.plain.varTypes Try.prog) (ds ++ gs)).all (· ≤ reachBytes) = true := hsz0
  rw [Try.params5] at hA hval hsz
  obtain ⟨v0, vs0, d0, ds0, p0, q0, hargs, rfl, rfl, h0, r0⟩ := trodAll_cons hA
  obtain ⟨v1, vs1, d1, ds1, p1, q1, rfl, rfl, rfl, h1, r1⟩ := trodAll_cons r0
  obtain ⟨rfl, rfl, rfl⟩ := trodAll_nil r1
  obtain rfl : args = #[v0, v1] := by cases args; simp_all
  obtain ⟨rfl, rfl⟩ := trodVars_none hV
  have hk := hk0
  simp only [List.append_nil] at hk
  obtain ⟨a0, len0, cap0, rfl⟩ := okWide_slice Try.underlying22 (hval 0 22 v0 rfl rfl)
  have k0 := h0
  have lt0 : ∀ x ∈ p0, x.block < W.heap.size := by obtain ⟨m, hm⟩ := k0; exact DataW.trod_lt m _ _ _ hm
  obtain ⟨L0, w0x, w0u⟩ := open_its2 h0 (fun x hx => by simpa using List.all_eq_true.1 hsz x (DataW.weights_mem_each (j := 0) (t := 22) rfl rfl x hx))
  have w0 : InItsU W a0 len0 cap0 L0 := ⟨w0x, fun y hy => Nat.le_trans (w0u y hy) (upto_part (by simp) hk)⟩
  have k1 := h1
  have lt1 : ∀ x ∈ p1, x.block < W.heap.size := by obtain ⟨m, hm⟩ := k1; exact DataW.trod_lt m _ _ _ hm
  obtain ⟨y1, rfl, w1x, w1u⟩ := open_item2 (hval 1 26 v1 rfl rfl) h1 (fun x hx => by simpa using List.all_eq_true.1 hsz x (DataW.weights_mem_each (j := 1) (t := 26) rfl rfl x hx))
  have w1 : InItU W y1 := ⟨w1x, Nat.le_trans w1u (upto_part (by simp) hk)⟩
  clear hA0 hval0
  refine (walk a0 len0 cap0 L0 y1 W w0 w1).mono fun e W' ⟨he, bel⟩ => ?_
  subst he
  refine ⟨_, rfl, ?_⟩
  show Rows.treeWithSpec.post enc Try.prog Try.f5 false true false false _ _ _ _
  exact ⟨_, _, _, [], _, [], hW', trodAll_mk1 (shut_bool Try.underlying4 _), (trodAll_cons_mk (Below.trod laidOut (by kernel_rfl) (of_decide_eq_true (by kernel_rfl)) k0 bel lt0) (trodAll_cons_mk (Below.trod laidOut (by kernel_rfl) (of_decide_eq_true (by kernel_rfl)) k1 bel lt1) trodAll_mk0)), rfl, bel.frame _, fun h => by cases h⟩

theorem proved : Rows.TreeWithUptoSaid :=
  OpenClaim.holds_of_cond 5 Try.f5 rfl rfl rfl rfl rfl rfl rfl ⟨rfl, rfl, rfl, rfl, rfl⟩ rfl rfl rfl rfl rfl (by kernel_rfl) Try.func5 (by kernel_rfl)
    (of_decide_eq_true (by kernel_rfl)) (by unfold Func.isWrapper; first | (rw [if_pos (by decide +kernel)]; kernel_rfl) | (rw [if_neg (by decide +kernel)]; exact ⟨rfl, rfl⟩))
    (fun os started H enc _ F => lifted os started H enc F)
#print axioms proved
end Go.Proofs.Ytjifdoneejofiaa.treeWith
