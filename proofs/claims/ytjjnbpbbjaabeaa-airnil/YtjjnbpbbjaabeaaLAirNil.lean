/- Proved: for every act the statement AirNil answers true (the document's P19.2 to P19.5: no air answers no air's answers), with no condition but the reach. -/
import Derived.Test.YtjjnbpbbjaabeaaTo
import Derived.Test.YtjjnbpbbjaabeaaFe
import Derived.ShutString
import Derived.ChangeOld
namespace Go.Proofs.Ytjjnbpbbjaabeaa.airNil
open Go.ChangeShapes Go.WideShapes Go.ChangeAt Go.RowKit
set_option linter.unusedVariables false

set_option maxRecDepth 100000 in
set_option maxHeartbeats 8000000 in
theorem walk (x0 : Ac19) (w : World) (w0 : AcIn19 w x0) :
    Calls Try.prog 4 #[.agg (Ac19.vals x0).toArray] w fun e w' => e = .returned (.bool true) ∧ Below w.heap.size w w' := by
  have hrow := w0.rowv
  obtain ⟨dd, nn, src, dst, A, L, C, f⟩ := x0
  have hsb := w0.sb
  have htb := w0.tb
  clear w0
  dsimp only at hrow hsb htb
  show Calls Try.prog _ #[.agg #[.int .i64 dd, .int .i64 nn, .int .i64 src, .int .i64 dst, .slice A L C]] _ _
  obtain ⟨z, hz⟩ : ∃ z, Hid (w.heap.size = z) := ⟨_, rfl⟩
  obtain ⟨W0, hW0⟩ : ∃ W, Hid (w.alloc (.cells #[.int .i64 dd, .int .i64 nn, .int .i64 src, .int .i64 dst, .slice A L C] 37) = W) := ⟨_, rfl⟩
  have kW : Hid (Bw w W0) := by show Bw _ _; rw [← hW0.out]; exact bw_allocx (Bw.refl _)
  have hg0 : W0.heap[z]? = some (.cells #[.int .i64 dd, .int .i64 nn, .int .i64 src, .int .i64 dst, .slice A L C] 37 (0, 0)) := by rw [← hW0.out, ← hz.out]; exact heap_alloc_new _ _
  have HZ : Hid (∀ W, Bw W0 W → W.cell? ⟨z, 1, none⟩ = some (.int .i64 nn) ∧ W.cell? ⟨z, 2, none⟩ = some (.int .i64 src) ∧ W.cell? ⟨z, 3, none⟩ = some (.int .i64 dst) ∧ W.cell? ⟨z, 4, none⟩ = some (.slice A L C)) := fun W kk => by
    have hg := (kk.block z (Array.getElem?_eq_some_iff.1 hg0).1).trans hg0
    exact ⟨cell_of_row W z 1 _ _ _ hg, cell_of_row W z 2 _ _ _ hg, cell_of_row W z 3 _ _ _ hg, cell_of_row W z 4 _ _ _ hg⟩
  obtain ⟨y1, -, -, -⟩ := HZ.out W0 (Bw.refl _)
  clear hg0 hrow
  go_enter Try.func4, Try.ntmps4
  go_upto_region 1 with fail
  rw [hW0.out, hz.out]
  go_upto_region 3 with (first
    | (go_at_call 13; refine (at_nil _ _).mono ?_; rintro e w1 ⟨rfl, hb1⟩; obtain ⟨z4, W4, X4, hz4, hW4, hD4, hX4, -, hE4, hk4⟩ := dg_box w1 0 0 (v := .slice none 0 0) rfl)
    | (rw [hW4.out, hz4.out]; refine wpList_store_row rfl 35 _ _ rfl z4 (dcs 0 0 (.slice none 0 0)) rfl rfl 35 _ hD4.out (dg_info _ _ _) rfl (dg_all _ _ rfl).out ?_; rw [hX4.out]))
  have hT4 : Hid (Bw W0 X4) := Bw.trans hb1 hk4.out
  obtain ⟨y1, -, -, -⟩ := HZ.out X4 hT4.out
  go_upto_region 4 with (first
    | (go_at_call 14; refine (carry_nil _ _).mono ?_; rintro e w2 ⟨v2, rfl, hr2, hb2⟩; obtain ⟨z6, W6, X6, hz6, hW6, hD6, hX6, ho6, hE6, hk6⟩ := dg_box w2 0 0 (dg_oneCell hr2))
    | (rw [hW6.out, hz6.out]; refine wpList_store_row rfl 35 _ _ rfl z6 (dcs 0 0 v2) rfl rfl 35 _ hD6.out (dg_info _ _ _) rfl (dg_all _ _ ho6.out).out ?_; rw [hX6.out]))
  have hT6 : Hid (Bw W0 X6) := hT4.out.trans (Bw.trans hb2 hk6.out)
  have HF : Hid (∀ W, Bw X6 W → (W.cell? ⟨z, 1, none⟩ = some (.int .i64 nn) ∧ W.cell? ⟨z, 2, none⟩ = some (.int .i64 src) ∧ W.cell? ⟨z, 3, none⟩ = some (.int .i64 dst) ∧ W.cell? ⟨z, 4, none⟩ = some (.slice A L C)) ∧ (W.cell? ⟨z4, 0, none⟩ = some (.int .i64 0) ∧ W.cell? ⟨z4, 1, none⟩ = some (.int .i64 0) ∧ W.cell? ⟨z4, 2, none⟩ = some (.slice none 0 0)) ∧ (W.cell? ⟨z6, 0, none⟩ = some (.int .i64 0) ∧ W.cell? ⟨z6, 1, none⟩ = some (.int .i64 0) ∧ W.cell? ⟨z6, 2, none⟩ = some v2) ∧ RowV W v2 []) := fun W kk => by
    have h4 := ((Bw.trans hb2 (hk6.out.trans kk)).block z4 (Array.getElem?_eq_some_iff.1 hE4.out).1).trans hE4.out
    have h6 := (kk.block z6 (Array.getElem?_eq_some_iff.1 hE6.out).1).trans hE6.out
    exact ⟨HZ.out W (hT6.out.trans kk), ⟨cell_of_row W z4 0 _ _ _ h4, cell_of_row W z4 1 _ _ _ h4, cell_of_row W z4 2 _ _ _ h4⟩, ⟨cell_of_row W z6 0 _ _ _ h6, cell_of_row W z6 1 _ _ _ h6, cell_of_row W z6 2 _ _ _ h6⟩, hr2.keep (hk6.out.trans kk)⟩
  have HS1 : Hid (∀ W, Bw X6 W → Calls Try.prog 17 #[.agg #[.int .i64 0, .int .i64 0, .slice none 0 0], .agg #[.int .i64 0, .int .i64 0, .slice none 0 0]] W fun x w' => x = .returned (.bool true) ∧ Bw W w') := fun W kk => same19_any Ai.zero Ai.zero (RowV.nil W) (RowV.nil W)
  have HS2 : Hid (∀ W, Bw X6 W → Calls Try.prog 17 #[.agg #[.int .i64 0, .int .i64 0, v2], .agg #[.int .i64 0, .int .i64 0, .slice none 0 0]] W fun x w' => x = .returned (.bool true) ∧ Bw W w') := fun W kk => same19_any Ai.zero Ai.zero (HF.out W kk).2.2.2 (RowV.nil W)
  have hK : Hid (Bw X6 X6) := Bw.refl _
  obtain ⟨⟨y1, y2, y3, y4⟩, -, -, -⟩ := HF.out X6 hK.out
  clear hb1 hb2 hr2
  go_wp2_with (first
    | (go_at_call 15; refine (send_nil _ _ _ _).mono ?_; rintro e w3 ⟨rfl, hb3⟩; obtain ⟨⟨y1, y2, y3, y4⟩, ⟨u0, u1, u2⟩, -, -⟩ := HF.out w3 hb3)
    | (go_at_call 16; refine (count_nil _).mono ?_; rintro e w4 ⟨rfl, hw⟩; subst w4)
    | (go_at_call 17; refine (HS1.out _ hb3).mono ?_; clear HS1; rintro e w5 ⟨rfl, hb5⟩; have hb5' := hb3.trans hb5; obtain ⟨⟨y1, y2, y3, y4⟩, -, ⟨u0, u1, u2⟩, -⟩ := HF.out w5 hb5')
    | (go_at_call 17; refine (HS2.out _ hb5').mono ?_; rintro e w6 ⟨rfl, hb6⟩; have hb6' := hb5'.trans hb6; obtain ⟨⟨y1, y2, y3, y4⟩, -, -, -⟩ := HF.out w6 hb6')
    | (go_at_call 18; refine (lose_nil _ _).mono ?_; rintro e w7 ⟨rfl, hw⟩; subst w7)
    | (go_at_call 19; refine (dbl_nil _ _).mono ?_; rintro e w7 ⟨rfl, hw⟩; subst w7)
    | (go_at_call 20; refine (hold_nil _ _).mono ?_; rintro e w7 ⟨rfl, hw⟩; subst w7)
    | (go_at_call 21; refine (cut_nil _ _ _ _).mono ?_; rintro e w7 ⟨rfl, hw⟩; subst w7)
    | (go_at_call 22; refine (is_nil _ _ _).mono ?_; rintro e w7 ⟨rfl, hw⟩; subst w7)
    | (go_at_call 8; refine (wakes19_any _).mono ?_; rintro e w8 ⟨rfl, hb8⟩))
  go_ret
  exact ⟨rfl, kW.out.trans (hT6.out.trans (hb6'.trans hb8))⟩

set_option maxRecDepth 100000 in
theorem lifted (os : Os) (started : os.Started) (H : Type) (enc : TypeId × Value → H) :
    ReturnsInHanded {} Try.checked os 4 .any (Rows.airNilSpec.pre6 enc Try.prog Try.f4 Rows.airNilRow.domain false) (Rows.airNilSpec.post enc Try.prog Try.f4 false true false false) := by
  refine returnsInHanded_of_change_sized (C := Try.checked) own started (by kernel_rfl) Try.func4
    (ChangeSpec.witness6 (enc := enc) (C := Try.checked) false ⟨#[], #[.agg #[.int .i64 0, .int .i64 0, .int .i64 0, .int .i64 0, .slice none 0 0]], []⟩ 8 (by kernel_rfl) (by kernel_rfl) (by kernel_rfl) (by kernel_rfl)) ?_
  intro W base args ds gs before hval0 hW hcnd hsz0 _
  have hval : ∀ (j : Nat) t v, Try.f4.params[j]? = some t → args[j]? = some v → Value.okWide Try.prog W .any base t v := hval0
  have hW' := hW
  obtain ⟨p, q, hA0, hV, rfl, hfz, hnd⟩ := hW
  have hA : DataW.TrodAll enc Try.prog W 0 (fun _ => true) true Try.f4.params.toList args.toList ds p := hA0
  have hsz : (DataW.weightsEach Try.prog (Try.f4.params.toList ++ Rows.airNilSpec.plain.varTypes Try.prog) (ds ++ gs)).all (· ≤ reachBytes) = true := hsz0
  rw [Try.params4] at hA hval hsz
  obtain ⟨v0, vs0, d0, ds0, p0, q0, hargs, rfl, rfl, h0, r0⟩ := trodAll_cons hA
  obtain ⟨rfl, rfl, rfl⟩ := trodAll_nil r0
  obtain rfl : args = #[v0] := by cases args; simp_all
  obtain ⟨rfl, rfl⟩ := trodVars_none hV
  have k0 := h0
  have lt0 : ∀ x ∈ p0, x.block < W.heap.size := by obtain ⟨m, hm⟩ := k0; exact DataW.trod_lt m _ _ _ hm
  obtain ⟨x0, rfl, w0⟩ := open_act19 (hval 0 37 v0 rfl rfl) h0 (fun x hx => by simpa using List.all_eq_true.1 hsz x (DataW.weights_mem_each (j := 0) (t := 37) rfl rfl x hx))
  clear hA0 hval0
  refine (walk x0 W w0).mono fun e W' ⟨he, bel⟩ => ?_
  subst he
  exact ⟨_, rfl, _, _, _, [], _, [], hW', trodAll_mk1 (shut_bool Try.underlying4 _), (trodAll_cons_mk (Below.trod laidOut (by kernel_rfl) (of_decide_eq_true (by kernel_rfl)) k0 bel lt0) trodAll_mk0), rfl, bel.frame _, fun h => by cases h⟩

theorem over : Rows.airNilRow.holds Try.pinned (OpenSpec.ofChange Rows.airNilSpec) :=
  OpenClaim.holds_of_wide 4 Try.f4 rfl rfl rfl rfl rfl rfl rfl ⟨rfl, rfl, rfl, rfl, rfl⟩ rfl rfl rfl rfl rfl (by kernel_rfl) Try.func4 (by kernel_rfl)
    (of_decide_eq_true (by kernel_rfl)) (by unfold Func.isWrapper; first | (rw [if_pos (by decide +kernel)]; kernel_rfl) | (rw [if_neg (by decide +kernel)]; exact ⟨rfl, rfl⟩))
    (fun os started H enc _ => lifted os started H enc)

theorem proved : Rows.AirNilSaid := over
#print axioms proved
end Go.Proofs.Ytjjnbpbbjaabeaa.airNil
