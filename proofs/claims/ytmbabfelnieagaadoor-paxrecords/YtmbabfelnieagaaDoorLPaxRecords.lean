/- Proved: for every pair the statement PaxRecords answers true (the document's P9.1 and P9.2: every Size and Record). -/
import Derived.Test.YtmbabfelnieagaaDoorB7
import Derived.Test.YtmbabfelnieagaaDoorFx
import Derived.Test.YtmbabfelnieagaaDoorCards
import Derived.Test.YtmbabfelnieagaaDoorTie
import Derived.ShutString
import Derived.ChangeOld
import Derived.SevenTiedAt
namespace Go.Proofs.YtmbabfelnieagaaDoor.paxRecords
open Go.ChangeShapes Go.WideShapes Go.ChangeAt Go.RowKit Go.Deep
set_option linter.unusedVariables false

set_option linter.unusedSimpArgs false
open Go.Deep
set_option maxRecDepth 100000 in
set_option maxHeartbeats 4000000 in
theorem walk (s0 t0 : ByteArray) (w : World) (hk : KAt w) (w0 : s0.size ≤ 140737488351232 ∧ t0.size ≤ 140737488351232) :
    Calls Tryd.prog 3 #[.agg #[.string s0, .string t0]] w fun e w' => e = .returned (.bool true) ∧ Below w.heap.size w w' := by
  obtain ⟨ha, hb⟩ := w0
  have HK : Hid (KAt w) := hk
  clear hk
  obtain ⟨r, er, hR⟩ : ∃ r er, Hid (Px.recF (s0.toList, t0.toList) = (r, er)) := ⟨_, _, show Px.recF (s0.toList, t0.toList) = _ from rfl⟩
  have hrl : r.length ≤ 1064 := by
    have : (Px.recF (s0.toList, t0.toList)).1.length ≤ 1064 := by
      unfold Px.recF
      split
      · exact Nat.zero_le _
      · rename_i h; exact Px.rcd_bd (Classical.not_not.1 h)
    rw [hR.out] at this; exact this
  obtain ⟨z, hz⟩ : ∃ z, Hid (Px.psize (s0.toList, t0.toList) = z) := ⟨_, rfl⟩
  obtain ⟨l, hl⟩ : ∃ l, Hid (r.length = l) := ⟨_, rfl⟩
  have HB : Hid (∀ (A B : Option Addr) (ca cb : Nat) (u : World), RowAt u A r.length (Px.rowF r) → RowAt u B r.length (Px.rowF r) → Calls Tryd.prog 12 #[.slice A l ca, .slice B l cb] u fun e w' => e = .returned (.bool true) ∧ ∃ q, w' = u.drewN q) := fun A B ca cb u h1 h2 => by
    have := bytes9_any A B ca cb r r (by omega) (by omega) u h1 h2
    rw [hl.out, decide_eq_true rfl] at this
    exact this
  have hw0 : Bw w (w.alloc (.cells #[.string s0, .string t0] 23)) := Below.alloc (Below.refl _ _) (Nat.le_refl _) _
  have HP : Hid (∀ W, Bw (w.alloc (.cells #[.string s0, .string t0] 23)) W → W.cell? ⟨w.heap.size, 0, none⟩ = some (.string s0) ∧ W.cell? ⟨w.heap.size, 1, none⟩ = some (.string t0)) := fun W h => by
    have g := (h.block _ (by simp)).trans (World.alloc_heap_new w (.cells #[.string s0, .string t0] 23))
    exact ⟨cell_of_row W _ 0 _ _ _ g, cell_of_row W _ 1 _ _ _ g⟩
  go_enter Tryd.func3, Tryd.ntmps3
  go_wp2_with (first
    | (go_at_call 8; refine (precord_any s0 t0 (by omega) (by omega) _ (HK.out.keep hw0)).mono ?_; rintro e w1 ⟨⟨v, rfl, hv⟩, hw1⟩; rw [hR.out] at hv ⊢; (try dsimp only at hv); obtain ⟨A, ca, rfl, hca, hra⟩ := hv; rw [hl.out]; obtain ⟨c1, c2⟩ := HP.out w1 hw1)
    | (go_at_call 9; refine (rrecord_says s0 t0 (by omega) (by omega) _).mono ?_; rintro e w2 ⟨⟨v, rfl, hv⟩, hw2⟩; rw [hR.out] at hv ⊢; (try dsimp only at hv); obtain ⟨B, cb, rfl, hcb, hrb⟩ := hv; rw [hl.out]; clear c1 c2; obtain ⟨d1, d2⟩ := HP.out w2 (hw1.trans hw2)))
  go_region_held3 (fun w' => w'.cell? ⟨w.heap.size, 0, none⟩ = some (.string s0) ∧ w'.cell? ⟨w.heap.size, 1, none⟩ = some (.string t0) ∧ Bw w2 w')
    (first | exact ⟨d1, d2, Below.drew (Bw.refl _)⟩ | assumption | (exact keep_pr (by assumption) (by assumption)))
    (first
      | (go_at_call 10; refine (psize_any s0 t0 (by omega) (by omega) _ (HK.out.keep (hw0.trans (hw1.trans (hw2.trans (And.right (And.right (by assumption)))))))).mono ?_; rintro e w3 ⟨rfl, hw3⟩; rw [hz.out])
      | (go_at_call 11; refine (rsize_any s0 t0 (by omega) (by omega) _).mono ?_; rintro e w4 ⟨rfl, hw4⟩; rw [hz.out])
      | (go_at_call 12; refine (HB.out A B ca cb _ (hra.keep (hw2.trans (And.right (And.right (by assumption))))) (hrb.keep (And.right (And.right (by assumption))))).mono ?_; rintro e w5 ⟨rfl, q5, hq5⟩; have hw5 := bw_of_drew hq5; clear hq5))
  rename_i hSe
  go_wp2
  go_ret
  exact ⟨rfl, hw0.trans (hw1.trans (hw2.trans hSe.2.2))⟩

set_option maxRecDepth 100000 in
theorem lifted (os : Os) (started : os.Started) (H : Type) (enc : TypeId × Value → H) :
    ReturnsInHanded {} Tryd.checked os 3 .any (fun w args => (Rows.paxRecordsSpec.pre enc Tryd.prog Tryd.f3 [] false w args ∧ laidMetH Tryd.prog laidK w) ∧ sizedMet enc Tryd.prog Tryd.f3 (OpenSpec.ofChange Rows.paxRecordsSpec) false w args)
      (Rows.paxRecordsSpec.post enc Tryd.prog Tryd.f3 false true false false) := by
  refine returnsInHanded_of_change_and (C := Tryd.checked) (X := fun w _ => laidMetH Tryd.prog laidK w) (fun _ _ _ hh h => h.of_heap hh) own started (by kernel_rfl) Tryd.func3
    (ChangeSpec.witness_shaped (enc := enc) (C := Tryd.checked) (os := os) (X := fun w _ => laidMetH Tryd.prog laidK w) false (World.doorLaid Tryd.prog 400 os) #[.agg #[.string .empty, .string .empty]] 8 rfl (World.shaped_of_RefB (by kernel_rfl) (by kernel_rfl)) (by kernel_rfl) (by kernel_rfl) (by kernel_rfl) (door_met os _)) ?_
  intro W base args ds gs before hval0 hW hcnd hsz0 hL _
  have hval : ∀ (j : Nat) t v, Tryd.f3.params[j]? = some t → args[j]? = some v → Value.okWide Tryd.prog W .any base t v := hval0
  have hW' := hW
  obtain ⟨p, q, hA0, hV, rfl, hfz, hnd⟩ := hW
  have hA : DataW.TrodAll enc Tryd.prog W 0 (fun _ => true) true Tryd.f3.params.toList args.toList ds p := hA0
  have hsz : (DataW.weightsEach Tryd.prog (Tryd.f3.params.toList ++ Rows.paxRecordsSpec.plain.varTypes Tryd.prog) (ds ++ gs)).all (· ≤ reachBytes) = true := hsz0
  have hkat := kat_of_laid hL
  rw [Tryd.params3] at hA hval hsz
  obtain ⟨v0, vs0, d0, ds0, p0, q0, hargs, rfl, rfl, h0, r0⟩ := trodAll_cons hA
  obtain ⟨rfl, rfl, rfl⟩ := trodAll_nil r0
  obtain rfl : args = #[v0] := by cases args; simp_all
  obtain ⟨rfl, rfl⟩ := trodVars_none hV
  have k0 := h0
  have lt0 : ∀ x ∈ p0, x.block < W.heap.size := by obtain ⟨m, hm⟩ := k0; exact DataW.trod_lt m _ _ _ hm
  obtain ⟨s0, t0, rfl, w0⟩ := open_pair (hval 0 23 v0 rfl rfl) h0 (fun x hx => by simpa using List.all_eq_true.1 hsz x (DataW.weights_mem_each (j := 0) (t := 23) rfl rfl x hx))
  clear hA0 hval0
  refine (walk s0 t0 W hkat w0).mono fun e W' ⟨he, bel⟩ => ?_
  subst he
  exact ⟨_, rfl, _, _, _, [], _, [], hW', trodAll_mk1 (shut_bool Tryd.underlying4 _), (trodAll_cons_mk (Below.trod laidOut (by kernel_rfl) (of_decide_eq_true (by kernel_rfl)) k0 bel lt0) trodAll_mk0), rfl, bel.frame _, fun h => by cases h⟩

theorem over : Rows.paxRecordsRow.holds Tryd.pinned (OpenSpec.ofChange Rows.paxRecordsSpec) :=
  OpenClaim.holds_of_wide 3 Tryd.f3 rfl rfl rfl rfl rfl rfl rfl ⟨rfl, rfl, rfl, rfl, rfl⟩ rfl rfl rfl rfl rfl (by kernel_rfl) Tryd.func3 (by kernel_rfl)
    (of_decide_eq_true (by kernel_rfl)) (by unfold Func.isWrapper; first | (rw [if_pos (by decide +kernel)]; kernel_rfl) | (rw [if_neg (by decide +kernel)]; exact ⟨rfl, rfl⟩))
    (fun os started H enc _ => lifted os started H enc)

theorem proved : Rows.PaxRecordsCardSaid :=
  Claim7.holds_tied_plain_at .later [] [.data, .data, .data] true (true, "8d609f7f5d6121d0bdfa4a950c82c9eb40796584ba27f9101fab04311bde18cd") true
    over (fun _ h => by cases h) (by kernel_rfl) (fun _ h => by cases h) paxRecords_row_tie rfl ⟨rfl, rfl⟩ (by kernel_rfl) rfl
    (fun f fn hf hfn => by
      obtain rfl : f = 3 := Option.some.inj ((show Tryd.prog.funcNamed "tabulary/tabularylaw09.PaxRecords" = some 3 by kernel_rfl).symm.trans hf) |>.symm
      obtain rfl : fn = Tryd.f3 := (Option.some.inj (Tryd.func3.symm.trans hfn)).symm
      exact ⟨by kernel_rfl, fun j t ht => by
        rw [Tryd.params3] at ht
        have hm : t ∈ [23] := by simpa using Array.mem_of_getElem? ht
        have hall : ([23].all fun u => !Tryd.prog.wantsStandIn u) = true := by kernel_rfl
        exact (show Tryd.prog.wantsStandIn t = false by simpa using List.all_eq_true.1 hall t hm)⟩)
    (by kernel_rfl)
#print axioms proved
end Go.Proofs.YtmbabfelnieagaaDoor.paxRecords
