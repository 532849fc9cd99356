/- Proved: for every act the statement SpaceNil answers true (the document's P16.2 to P16.4: no space answers no space's answers), with no condition but the reach. -/
import Derived.Test.YtfdfkhmaeeonpaaRq
import Derived.Test.YtfdfkhmaeeonpaaFd
import Derived.ShutString
import Derived.ChangeOld
namespace Go.Proofs.Ytfdfkhmaeeonpaa.spaceNil
open Go.ChangeShapes Go.WideShapes Go.ChangeAt Go.RowKit
set_option linter.unusedVariables false

set_option maxRecDepth 100000 in
theorem walk (x0 : Ac16) (w : World) (w0 : AcIn16 x0) :
    Calls Try.prog 4 #[.agg (Ac16.vals x0).toArray] w fun e w' => e = .returned (.bool true) ∧ Below w.heap.size w w' := by
  obtain ⟨d, x, k⟩ := x0
  have HT : Hid (∀ u, Calls Try.prog 10 #[.pointer none, .int .i64 k] u fun e w' => e = .returned (.tuple #[.int .i64 0, .int .i64 8]) ∧ Bw u w') := fun u => stake_nil k u
  have HH : Hid (∀ u, Calls Try.prog 12 #[.pointer none, .agg #[.int .i64 x, .int .i64 k]] u fun e w' => e = .returned (.int .i64 8) ∧ Bw u w') := fun u => shold_nil x k u
  have HG : Hid (∀ u, Calls Try.prog 14 #[.pointer none, .agg #[.int .i64 x, .int .i64 k]] u fun e w' => e = .returned (.int .i64 8) ∧ Bw u w') := fun u => sgive_nil x k u
  obtain ⟨z, hz⟩ : ∃ z, Hid (w.heap.size = z) := ⟨_, rfl⟩
  obtain ⟨W0, hW0⟩ : ∃ W, W = w.alloc (.cells #[.int .i64 d, .int .i64 x, .int .i64 k] 34) := ⟨_, rfl⟩
  have kW : Bw w W0 := by rw [hW0]; exact bw_alloc16 (Bw.refl _) _
  have hg0 : W0.heap[z]? = some (.cells #[.int .i64 d, .int .i64 x, .int .i64 k] 34 (0, 0)) := by rw [hW0, ← hz.out]; exact heap_alloc_new _ _
  have HZ : Hid (∀ W, Bw W0 W → W.cell? ⟨z, 1, none⟩ = some (.int .i64 x) ∧ W.cell? ⟨z, 2, none⟩ = some (.int .i64 k)) := fun W kk => by
    have hg := (kk.block z (Array.getElem?_eq_some_iff.1 hg0).1).trans hg0
    exact ⟨cell_of_row W z 1 _ _ _ hg, cell_of_row W z 2 _ _ _ hg⟩
  obtain ⟨y1, y2⟩ := HZ.out W0 (Bw.refl _)
  clear w0
  show Calls Try.prog _ #[.agg #[.int .i64 d, .int .i64 x, .int .i64 k]] _ _
  go_enter Try.func4, Try.ntmps4
  go_upto_region 1 with fail
  rw [← hW0, hz.out]
  clear hW0 hg0
  go_wp2_with (first
    | (go_at_call 10; refine (HT.out _).mono ?_; rintro e w1 ⟨rfl, hb1⟩; obtain ⟨u1, u2⟩ := HZ.out _ hb1)
    | (go_at_call 12; refine (HH.out _).mono ?_; rintro e w2 ⟨rfl, hb2⟩; obtain ⟨v1, v2⟩ := HZ.out _ (hb1.trans hb2))
    | (go_at_call 14; refine (HG.out _).mono ?_; rintro e w3 ⟨rfl, hb3⟩)
    | (go_at_call 16; refine (sfree_nil _).mono ?_; rintro e w4 ⟨rfl, hb4⟩)
    | (go_at_call 19; refine (sruns_nil _).mono ?_; rintro e w5 ⟨rfl, hb5⟩)
    | (go_at_call 7; refine (wakes16_any _).mono ?_; rintro e w6 ⟨rfl, hb6⟩))
  go_ret
  exact ⟨rfl, kW.trans (hb1.trans (hb2.trans (hb3.trans (hb4.trans (hb5.trans hb6)))))⟩

set_option maxRecDepth 100000 in
theorem lifted (os : Os) (started : os.Started) (H : Type) (enc : TypeId × Value → H) :
    ReturnsInHanded {} Try.checked os 4 .any (Rows.spaceNilSpec.pre6 enc Try.prog Try.f4 Rows.spaceNilRow.domain false) (Rows.spaceNilSpec.post enc Try.prog Try.f4 false true false false) := by
  refine returnsInHanded_of_change_sized (C := Try.checked) own started (by kernel_rfl) Try.func4
    (ChangeSpec.witness6 (enc := enc) (C := Try.checked) false ⟨#[], #[.agg #[.int .i64 0, .int .i64 0, .int .i64 0]], []⟩ 8 (by kernel_rfl) (by kernel_rfl) (by kernel_rfl) (by kernel_rfl)) ?_
  intro W base args ds gs before hval0 hW hcnd hsz0 _
  have hval : ∀ (j : Nat) t v, Try.f4.params[j]? = some t → args[j]? = some v → Value.okWide Try.prog W .any base t v := hval0
  have hW' := hW
  obtain ⟨p, q, hA0, hV, rfl, hfz, hnd⟩ := hW
  have hA : DataW.TrodAll enc Try.prog W 0 (fun _ => true) true Try.f4.params.toList args.toList ds p := hA0
  have hsz : (DataW.weightsEach Try.prog (Try.f4.params.toList ++ Rows.spaceNilSpec.plain.varTypes Try.prog) (ds ++ gs)).all (· ≤ reachBytes) = true := hsz0
  rw [Try.params4] at hA hval hsz
  obtain ⟨v0, vs0, d0, ds0, p0, q0, hargs, rfl, rfl, h0, r0⟩ := trodAll_cons hA
  obtain ⟨rfl, rfl, rfl⟩ := trodAll_nil r0
  obtain rfl : args = #[v0] := by cases args; simp_all
  obtain ⟨rfl, rfl⟩ := trodVars_none hV
  have k0 := h0
  have lt0 : ∀ x ∈ p0, x.block < W.heap.size := by obtain ⟨m, hm⟩ := k0; exact DataW.trod_lt m _ _ _ hm
  obtain ⟨x0, rfl, w0⟩ := open_act16 (hval 0 34 v0 rfl rfl) h0
  clear hA0 hval0
  refine (walk x0 W w0).mono fun e W' ⟨he, bel⟩ => ?_
  subst he
  exact ⟨_, rfl, _, _, _, [], _, [], hW', trodAll_mk1 (shut_bool Try.underlying4 _), (trodAll_cons_mk (Below.trod laidOut (by kernel_rfl) (of_decide_eq_true (by kernel_rfl)) k0 bel lt0) trodAll_mk0), rfl, bel.frame _, fun h => by cases h⟩

theorem over : Rows.spaceNilRow.holds Try.pinned (OpenSpec.ofChange Rows.spaceNilSpec) :=
  OpenClaim.holds_of_wide 4 Try.f4 rfl rfl rfl rfl rfl rfl rfl ⟨rfl, rfl, rfl, rfl, rfl⟩ rfl rfl rfl rfl rfl (by kernel_rfl) Try.func4 (by kernel_rfl)
    (of_decide_eq_true (by kernel_rfl)) (by unfold Func.isWrapper; first | (rw [if_pos (by decide +kernel)]; kernel_rfl) | (rw [if_neg (by decide +kernel)]; exact ⟨rfl, rfl⟩))
    (fun os started H enc _ => lifted os started H enc)

theorem proved : Rows.SpaceNilSaid := over
#print axioms proved
end Go.Proofs.Ytfdfkhmaeeonpaa.spaceNil
