/- Proved: for every list of items and every item the statement TreeChecks answers true (the document's P11.1, P11.2 and P11.13: every May, and every Check, place and error). -/
import Derived.Test.YtjifdoneejofiaaU8
import Derived.Test.YtjifdoneejofiaaY5
import Derived.Test.YtjifdoneejofiaaFy
import Derived.ShutString
import Derived.ChangeOld
namespace Go.Proofs.Ytjifdoneejofiaa.treeChecks
open Go.ChangeShapes Go.WideShapes Go.ChangeAt Go.RowKit
set_option linter.unusedVariables false

set_option linter.unusedSimpArgs false
open Go.Deep
set_option maxRecDepth 100000 in
set_option maxHeartbeats 4000000 in
theorem walk (a0 : Option Addr) (len0 cap0 : Nat) (L0 : List Tr.Iv) (y1 : Tr.Iv) (w : World) (w0 : InIts w a0 len0 cap0 L0) (w1 : BodyAt w y1) :
    Calls Try.prog 3 #[.slice a0 len0 cap0, .agg (Tr.Iv.vals y1).toArray] w fun e w' => e = .returned (.bool true) ∧ Below w.heap.size w w' := by
  change Calls Try.prog _ #[.slice a0 len0 cap0, .agg y1.arr] w _
  obtain ⟨hlen, hits, hle, hroom, hnil⟩ := w0
  have HNL : Hid (L0.length = len0) := hlen
  have HI : Hid (ItsAt w a0 L0) := hits
  have HF : Hid (Tr.Fit y1.it) := w1.fit
  have HLent : Hid (∀ u, Bw w u → Calls Try.prog 9 #[.slice a0 len0 cap0] u fun e w' => ∃ g c M, e = .returned (.slice (some ⟨g, 0, none⟩) len0 c) ∧ Tr.its M = Tr.its L0 ∧ LentAt w' g c M ∧ u.heap.size ≤ g ∧ Bw u w') := fun u hu => by
    have := lent11_any a0 cap0 L0 (by rw [HNL.out]; omega) u (HI.out.keep hu)
    rwa [HNL.out] at this
  obtain ⟨cA, cE, hC⟩ : ∃ a b, Hid (Tr.chkE (Tr.its L0) = (a, b)) := ⟨_, _, show Tr.chkE (Tr.its L0) = _ from rfl⟩
  have HTC : Hid (∀ u g c M, Tr.its M = Tr.its L0 → LentAt u g c M → Calls Try.prog 10 #[.slice (some ⟨g, 0, none⟩) len0 c] u fun e w' => e = .returned (.tuple #[.int .i64 (cA : Int), .int .i64 cE]) ∧ Bw u w') := fun u g c M he hl => by
    have hml : M.length = len0 := by have := congrArg List.length he; rwa [Tr.its_len, Tr.its_len, HNL.out] at this
    have := tcheck_any (some ⟨g, 0, none⟩) c M (by omega) (by have := hl.room; omega) u hl.its
    rwa [he, hml, hC.out] at this
  have HRC : Hid (∀ u, Bw w u → Calls Try.prog 11 #[.slice a0 len0 cap0] u fun e w' => e = .returned (.tuple #[.int .i64 (cA : Int), .int .i64 cE]) ∧ Bw u w') := fun u hu => by
    have := rcheck11_any a0 cap0 L0 (by rw [HNL.out]; omega) (by rw [HNL.out]; exact hle) u (HI.out.keep hu)
    rwa [HNL.out, hC.out] at this
  have HKept : Hid (∀ u g c M, Bw w u → Tr.its M = Tr.its L0 → LentAt u g c M → Calls Try.prog 14 #[.slice (some ⟨g, 0, none⟩) len0 c, .slice a0 len0 cap0] u fun e w' => e = .returned (.bool true) ∧ Bw u w') := fun u g c M hu he hl => by
    have := kept11_any g c cap0 a0 M L0 (by rw [HNL.out]; omega) he u hl (HI.out.keep hu)
    rwa [HNL.out] at this
  obtain ⟨em, hem⟩ : ∃ r, Hid (Tr.mayE y1.it = r) := ⟨_, rfl⟩
  have HTM : Hid (∀ u, Calls Try.prog 12 #[.agg #[.string (Nm.S y1.it.path), .int .u8 (y1.it.kind : Int), .int .i64 y1.it.mode, .int .i64 y1.it.time, .slice y1.ad y1.it.body.length y1.cp, .string (Nm.S y1.it.to)]] u fun e w' => e = .returned (.int .i64 em) ∧ Bw u w') := fun u => by
    rw [← hem.out]; exact tmay_any y1 HF.out u
  have HRM : Hid (∀ u, Calls Try.prog 13 #[.agg #[.string (Nm.S y1.it.path), .int .u8 (y1.it.kind : Int), .int .i64 y1.it.mode, .int .i64 y1.it.time, .slice y1.ad y1.it.body.length y1.cp, .string (Nm.S y1.it.to)]] u fun e w' => e = .returned (.int .i64 em) ∧ Bw u w') := fun u => by
    rw [← hem.out]; exact rmay_any y1 HF.out u
  obtain ⟨W, hW⟩ : ∃ W, W = w.alloc (.cells y1.arr 26) := ⟨_, rfl⟩
  have hbw : Bw w W := by rw [hW]; exact bw_alloc11 (Bw.refl _) _
  have hX : Hid (BoxAt W w.heap.size y1) := by rw [hW]; exact BoxAt.new _ _
  clear hlen hits hnil w1
  go_enter Try.func3, Try.ntmps3
  go_upto_region 1 with fail
  rw [← hW]
  clear hW
  go_upto_region 4 with (first
    | (go_at_call 9; refine (HLent.out _ hbw).mono ?_; rintro e w1 ⟨g1, c1, M1, rfl, he1, hl1, -, hw1⟩; have hb1 := hbw.trans hw1)
    | (go_at_call 10; refine (HTC.out _ g1 c1 M1 he1 hl1).mono ?_; rintro e w2 ⟨rfl, hw2⟩; have hb2 := hb1.trans hw2)
    | (go_at_call 11; refine (HRC.out _ hb2).mono ?_; rintro e w3 ⟨rfl, hw3⟩; have hb3 := hb2.trans hw3))
  have HL3 : Hid (LentAt w3 g1 c1 M1) := (hl1.keep hw2).keep hw3
  have HE1 : Hid (Tr.its M1 = Tr.its L0) := he1
  obtain ⟨x0, x1, x2, x3, x4, x5⟩ := (((hX.out.keep hw1).keep hw2).keep hw3).cells
  clear hl1 he1
  go_region_held3 (fun w' => w'.cell? ⟨w.heap.size, 0, none⟩ = some (.string (Nm.S y1.it.path)) ∧ w'.cell? ⟨w.heap.size, 1, none⟩ = some (.int .u8 (y1.it.kind : Int)) ∧ w'.cell? ⟨w.heap.size, 2, none⟩ = some (.int .i64 y1.it.mode) ∧ w'.cell? ⟨w.heap.size, 3, none⟩ = some (.int .i64 y1.it.time) ∧ w'.cell? ⟨w.heap.size, 4, none⟩ = some (.slice y1.ad y1.it.body.length y1.cp) ∧ w'.cell? ⟨w.heap.size, 5, none⟩ = some (.string (Nm.S y1.it.to)) ∧ Bw w3 w')
    (first | exact ⟨x0, x1, x2, x3, x4, x5, Below.drew (Bw.refl _)⟩ | assumption | exact keep_six11 (by assumption) (by assumption))
    (first
      | (go_at_call 12; refine (HTM.out _).mono ?_; rintro e w5 ⟨rfl, hw5⟩)
      | (go_at_call 13; refine (HRM.out _).mono ?_; rintro e w6 ⟨rfl, hw6⟩)
      | (go_at_call 14; refine (HKept.out _ g1 c1 M1 (hb3.trans (by first | assumption | exact six_bw11 (by assumption))) HE1.out (HL3.out.keep (by first | assumption | exact six_bw11 (by assumption)))).mono ?_; rintro e w7 ⟨rfl, hw7⟩))
  all_goals
    rename_i hSe
    have hSw := hSe.2.2.2.2.2.2
    go_wp2
    go_ret
    exact ⟨rfl, hb3.trans hSw⟩

set_option maxRecDepth 100000 in
theorem lifted (os : Os) (started : os.Started) (H : Type) (enc : TypeId × Value → H) :
    ReturnsInHanded {} Try.checked os 3 .any (Rows.treeChecksSpec.pre6 enc Try.prog Try.f3 Rows.treeChecksRow.domain false) (Rows.treeChecksSpec.post enc Try.prog Try.f3 false true false false) := by
  refine returnsInHanded_of_change_sized (C := Try.checked) own started (by kernel_rfl) Try.func3
    (ChangeSpec.witness6 (enc := enc) (C := Try.checked) false ⟨#[], #[.slice none 0 0, .agg #[.string .empty, .int .u8 0, .int .i64 0, .int .i64 0, .slice none 0 0, .string .empty]], []⟩ 8 (by kernel_rfl) (by kernel_rfl) (by kernel_rfl) (by kernel_rfl)) ?_
  intro W base args ds gs before hval0 hW hcnd hsz0 _
  have hval : ∀ (j : Nat) t v, Try.f3.params[j]? = some t → args[j]? = some v → Value.okWide Try.prog W .any base t v := hval0
  have hW' := hW
  obtain ⟨p, q, hA0, hV, rfl, hfz, hnd⟩ := hW
  have hA : DataW.TrodAll enc Try.prog W 0 (fun _ => true) true Try.f3.params.toList args.toList ds p := hA0
  have hsz : (DataW.weightsEach Try.prog (Try.f3.params.toList ++ Rows.treeChecksSpec.plain.varTypes Try.prog) (ds ++ gs)).all (· ≤ reachBytes) = true := hsz0
  rw [Try.params3] at hA hval hsz
  obtain ⟨v0, vs0, d0, ds0, p0, q0, hargs, rfl, rfl, h0, r0⟩ := trodAll_cons hA
  obtain ⟨v1, vs1, d1, ds1, p1, q1, rfl, rfl, rfl, h1, r1⟩ := trodAll_cons r0
  obtain ⟨rfl, rfl, rfl⟩ := trodAll_nil r1
  obtain rfl : args = #[v0, v1] := by cases args; simp_all
  obtain ⟨rfl, rfl⟩ := trodVars_none hV
  obtain ⟨a0, len0, cap0, rfl⟩ := okWide_slice Try.underlying22 (hval 0 22 v0 rfl rfl)
  have k0 := h0
  have lt0 : ∀ x ∈ p0, x.block < W.heap.size := by obtain ⟨m, hm⟩ := k0; exact DataW.trod_lt m _ _ _ hm
  obtain ⟨L0, w0⟩ := open_its h0 (fun x hx => by simpa using List.all_eq_true.1 hsz x (DataW.weights_mem_each (j := 0) (t := 22) rfl rfl x hx))
  have k1 := h1
  have lt1 : ∀ x ∈ p1, x.block < W.heap.size := by obtain ⟨m, hm⟩ := k1; exact DataW.trod_lt m _ _ _ hm
  obtain ⟨y1, rfl, w1⟩ := open_item (hval 1 26 v1 rfl rfl) h1 (fun x hx => by simpa using List.all_eq_true.1 hsz x (DataW.weights_mem_each (j := 1) (t := 26) rfl rfl x hx))
  clear hA0 hval0
  refine (walk a0 len0 cap0 L0 y1 W w0 w1).mono fun e W' ⟨he, bel⟩ => ?_
  subst he
  exact ⟨_, rfl, _, _, _, [], _, [], hW', trodAll_mk1 (shut_bool Try.underlying4 _), (trodAll_cons_mk (Below.trod laidOut (by kernel_rfl) (of_decide_eq_true (by kernel_rfl)) k0 bel lt0) (trodAll_cons_mk (Below.trod laidOut (by kernel_rfl) (of_decide_eq_true (by kernel_rfl)) k1 bel lt1) trodAll_mk0)), rfl, bel.frame _, fun h => by cases h⟩

theorem over : Rows.treeChecksRow.holds Try.pinned (OpenSpec.ofChange Rows.treeChecksSpec) :=
  OpenClaim.holds_of_wide 3 Try.f3 rfl rfl rfl rfl rfl rfl rfl ⟨rfl, rfl, rfl, rfl, rfl⟩ rfl rfl rfl rfl rfl (by kernel_rfl) Try.func3 (by kernel_rfl)
    (of_decide_eq_true (by kernel_rfl)) (by unfold Func.isWrapper; first | (rw [if_pos (by decide +kernel)]; kernel_rfl) | (rw [if_neg (by decide +kernel)]; exact ⟨rfl, rfl⟩))
    (fun os started H enc _ => lifted os started H enc)

theorem proved : Rows.TreeChecksSaid := over
#print axioms proved
end Go.Proofs.Ytjifdoneejofiaa.treeChecks
