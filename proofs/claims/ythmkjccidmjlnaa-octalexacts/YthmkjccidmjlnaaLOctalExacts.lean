/- Proved: for every row of bytes the statement OctalExacts answers true (the document's P7.4 and P7.8: every Exact; what is handed in stays), with no condition but the reach. -/
import Derived.Test.YthmkjccidmjlnaaOT
import Derived.Test.YthmkjccidmjlnaaK0
import Derived.ShutString
import Derived.ChangeOld
namespace Go.Proofs.Ythmkjccidmjlnaa.octalExacts
open Go.ChangeShapes Go.WideShapes Go.ChangeAt Go.RowKit
set_option linter.unusedVariables false

set_option linter.unusedSimpArgs false
theorem row_congr7 {w : World} {A : Option Addr} {L : Nat} {f g : Nat → Int} (h : RowAt w A L f) (hg : ∀ i, 0 ≤ g i ∧ g i < 256) (e : ∀ i, i < L → g i = f i) : RowAt w A L g := by
  refine ⟨?_, hg⟩
  rcases h.1 with h0 | ⟨b, off, hA, hc⟩
  · exact Or.inl h0
  · exact Or.inr ⟨b, off, hA, fun i hi => by rw [hc i hi, e i hi]⟩
/-- Exact's answer is one -/
theorem exact_is {L : Nat} {f : Nat → Int} {n er : Int} : ∃ (m k : Int), ∀ e, ExactSays L f n er e → e = .returned (.tuple #[.int .i64 m, .int .i64 k]) := by
  by_cases h0 : er = 0
  · by_cases hf : IsForm L f n.toNat
    · exact ⟨n, 0, fun e h => h.yes h0 hf⟩
    · exact ⟨0, 71, fun e h => h.no h0 hf⟩
  · exact ⟨0, er, fun e h => h.bad h0⟩
theorem walk (a0 : Option Addr) (len0 cap0 : Nat) (f0 : Nat → Int) (w : World) (w0 : InRow w a0 len0 cap0 f0) :
    Calls Try.prog 5 #[.slice a0 len0 cap0] w fun e w' => e = .returned (.bool true) ∧ Below w.heap.size w w' := by
  obtain ⟨n, a, er, hs⟩ := says_ex len0 f0
  obtain ⟨m, k, hmk⟩ := exact_is (L := len0) (f := f0) (n := n) (er := er)
  have HMK : Hid (∀ e, ExactSays len0 f0 n er e → e = .returned (.tuple #[.int .i64 m, .int .i64 k])) := hmk
  clear hmk
  have hLr : len0 ≤ 140737488351232 := Nat.le_trans w0.le w0.room
  go_enter Try.func5, Try.ntmps5
  go_wp2_with (first
    | (go_at_call 14; refine (lent_any a0 len0 cap0 f0 hLr _ w0.row w0.nil).mono ?_; rintro e w1 ⟨g, cap, rfl, hown, hg, hcap, hcm, hw1⟩; have hin := hown.row (lentF_bd w0.row.2 len0); have hlo := row_congr7 (row_less7 hin (m := len0) (by omega)) w0.row.2 (fun i hi => by unfold lentF; rw [if_pos hi]))
    | (go_at_call 18; refine (oexact_any _ len0 cap f0 (by omega) _ hlo n a er hs).mono ?_; rintro e w2 ⟨hx2, hw2⟩; obtain rfl := HMK.out _ hx2; clear hx2)
    | (go_at_call 19; refine (rexact_any a0 len0 cap0 f0 w0.le _ ((w0.row.keep hw1).keep hw2) n a er hs).mono ?_; rintro e w3 ⟨hx3, hw3⟩; obtain rfl := HMK.out _ hx3; clear hx3)
    | (go_at_call 17; refine (kept_yes g len0 cap a0 cap0 f0 hLr hcap _ ((hin.keep hw2).keep hw3) (((w0.row.keep hw1).keep hw2).keep hw3)).mono ?_; rintro e w4 ⟨rfl, hw4⟩))
  go_ret
  exact ⟨rfl, hw1.trans (hw2.trans (hw3.trans hw4))⟩

set_option maxRecDepth 100000 in
theorem lifted (os : Os) (started : os.Started) (H : Type) (enc : TypeId × Value → H) :
    ReturnsInHanded {} Try.checked os 5 .any (Rows.octalExactsSpec.pre6 enc Try.prog Try.f5 Rows.octalExactsRow.domain false) (Rows.octalExactsSpec.post enc Try.prog Try.f5 false true false false) := by
  refine returnsInHanded_of_change_sized (C := Try.checked) own started (by kernel_rfl) Try.func5
    (ChangeSpec.witness6 (enc := enc) (C := Try.checked) false ⟨#[], #[.slice none 0 0], []⟩ 8 (by kernel_rfl) (by kernel_rfl) (by kernel_rfl) (by kernel_rfl)) ?_
  intro W base args ds gs before hval0 hW hcnd hsz0 _
  have hval : ∀ (j : Nat) t v, Try.f5.params[j]? = some t → args[j]? = some v → Value.okWide Try.prog W .any base t v := hval0
  have hW' := hW
  obtain ⟨p, q, hA0, hV, rfl, hfz, hnd⟩ := hW
  have hA : DataW.TrodAll enc Try.prog W 0 (fun _ => true) true Try.f5.params.toList args.toList ds p := hA0
  have hsz : (DataW.weightsEach Try.prog (Try.f5.params.toList ++ Rows.octalExactsSpec.plain.varTypes Try.prog) (ds ++ gs)).all (· ≤ reachBytes) = true := hsz0
  rw [Try.params5] at hA hval hsz
  obtain ⟨v0, vs0, d0, ds0, p0, q0, hargs, rfl, rfl, h0, r0⟩ := trodAll_cons hA
  obtain ⟨rfl, rfl, rfl⟩ := trodAll_nil r0
  obtain rfl : args = #[v0] := by cases args; simp_all
  obtain ⟨rfl, rfl⟩ := trodVars_none hV
  obtain ⟨a0, len0, cap0, rfl⟩ := okWide_slice Try.underlying22 (hval 0 22 v0 rfl rfl)
  have k0 := h0
  have lt0 : ∀ x ∈ p0, x.block < W.heap.size := by obtain ⟨m, hm⟩ := k0; exact DataW.trod_lt m _ _ _ hm
  obtain ⟨f0, w0⟩ := open_bytes h0 (fun x hx => by simpa using List.all_eq_true.1 hsz x (DataW.weights_mem_each (j := 0) (t := 22) rfl rfl x hx))
  clear hA0 hval0
  refine (walk a0 len0 cap0 f0 W w0).mono fun e W' ⟨he, bel⟩ => ?_
  subst he
  exact ⟨_, rfl, _, _, _, [], _, [], hW', trodAll_mk1 (shut_bool Try.underlying4 _), (trodAll_cons_mk (Below.trod laidOut (by kernel_rfl) (of_decide_eq_true (by kernel_rfl)) k0 bel lt0) trodAll_mk0), rfl, bel.frame _, fun h => by cases h⟩

theorem over : Rows.octalExactsRow.holds Try.pinned (OpenSpec.ofChange Rows.octalExactsSpec) :=
  OpenClaim.holds_of_wide 5 Try.f5 rfl rfl rfl rfl rfl rfl rfl ⟨rfl, rfl, rfl, rfl, rfl⟩ rfl rfl rfl rfl rfl (by kernel_rfl) Try.func5 (by kernel_rfl)
    (of_decide_eq_true (by kernel_rfl)) (by unfold Func.isWrapper; first | (rw [if_pos (by decide +kernel)]; kernel_rfl) | (rw [if_neg (by decide +kernel)]; exact ⟨rfl, rfl⟩))
    (fun os started H enc _ => lifted os started H enc)

theorem proved : Rows.OctalExactsSaid := over
#print axioms proved
end Go.Proofs.Ythmkjccidmjlnaa.octalExacts
