/- Proved: the closed statement GfTurns answers true (the document's P1.3, P1.6: the powers of 2 go through all bytes but 0 before one comes again), with no condition. -/
import Derived.Test.YtmlbodpfapbhmaaR
import Derived.Laws.Rows
import Derived.ProofKit
import Derived.OpenShut
namespace Go.Proofs.Ytmlbodpfapbhmaa.gfTurns
open Go.ChangeShapes Go.WideShapes Go.ChangeAt Go.RowKit
set_option linter.unusedVariables false      -- a walk need not use every 'w<i>' (that an integer argument fits its kind)

theorem own : ownKnob Try.prog.godebug = none := by kernel_rfl

def none256 : Array Value := Array.replicate 256 (.int .i64 0)

def seen : Nat → Array Value
  | 0 => none256
  | k + 1 => (seen k).setIfInBounds (expI (k : Int)).toNat (.int .i64 1)

theorem zero37 (w : World) : (zeroValue 37).run Try.prog w = .ok (.agg none256) w := by kernel_rfl

theorem seen_at (j : Nat) (hj : j < 256) : ∀ k : Nat, (∀ i : Nat, i < k → (expI (i : Int)).toNat ≠ j) → (seen k)[j]? = some (.int .i64 0)
  | 0, _ => by
    show (Array.replicate 256 (Value.int .i64 0))[j]? = _
    rw [Array.getElem?_replicate, if_pos hj]
  | k + 1, h => by
    unfold seen
    rw [Array.getElem?_setIfInBounds_ne (h k (by omega))]
    exact seen_at j hj k (fun i hi => h i (by omega))

theorem seen_new (k : Nat) (hk : k < 255) : (seen k)[(expI (k : Int)).toNat]? = some (.int .i64 0) := by
  have hb := expI_bd (k : Int)
  refine seen_at _ (by omega) k (fun i hi h => ?_)
  rw [expI_nat, expI_nat, Int.toNat_natCast, Int.toNat_natCast] at h
  have := Gf.exp_inj i k (by omega) hk h
  omega

theorem gw_keep {w w' : World} (h : Gw w w') {b : Nat} {o : Obj} (hb : w.heap[b]? = some o) : w'.heap[b]? = some o := by
  have hlt : b < w.heap.size := (Array.getElem?_eq_some_iff.1 hb).1
  rw [h.1.block b hlt, hb]

theorem gw_put {w w' : World} (h : Gw w w') {a : Addr} (ha : w.heap.size ≤ a.block) (v : Value) : Gw w (w'.setCell a v) := ⟨h.1.setCell ha v, h.2.setCell ha v⟩

theorem stepIn {w w' : World} {b j : Nat} {cs : Array Value} {t : TypeId} {v : Value} (hg : Gw w w') (hrow : w.heap[b]? = some (.cells cs t (0, 0))) (hc : cs[j]? = some v) :
    w'.heap[b]? = some (.cells cs t (0, 0)) ∧ w'.cell? ⟨b, j, none⟩ = some v ∧ w'.frozen? ⟨b, j, none⟩ = false :=
  ⟨gw_keep hg hrow, (cell_of_row _ _ _ _ _ _ (gw_keep hg hrow)).trans hc, frozen_of_row _ _ _ _ _ (gw_keep hg hrow)⟩

set_option maxRecDepth 100000 in
theorem turns_gen (Z : Array Value) (S : Nat → Array Value) (hz : ∀ w, (zeroValue 37).run Try.prog w = .ok (.agg Z) w) (h0 : Hid (S 0 = Z)) (hS : Hid (∀ k : Nat, S (k + 1) = (S k).setIfInBounds (expI (k : Int)).toNat (.int .i64 1)))
    (hN : Hid (∀ k : Nat, k < 255 → (S k)[(expI (k : Int)).toNat]? = some (.int .i64 0))) (w : World) :
    Calls Try.prog 7 #[] w fun e w' => e = .returned (.bool true) ∧ Gw w w' := by
  go_enter Try.func7, Try.ntmps7
  go_wp2
  go_loopw [2] (fun i wr => ∃ k : Nat, k ≤ 255 ∧ i = .int .i64 k ∧ wr.heap[w.heap.size]? = some (.cells (S k) 37 (0, 0)) ∧ Gw w wr) (fun i _ => 255 - (intOf i).toNat)
  case atStart => exact ⟨0, Nat.zero_le _, rfl, by rw [h0.out]; exact heap_alloc_new _ _, (Gw.refl w).alloc _ _⟩
  case round =>
    obtain ⟨k, hk, rfl, hrow, hgw⟩ := hrel
    by_cases hlt : k < 255
    · have hx := expI_bd (k : Int)
      have hp := expI_pos (k : Int)
      have hx0 : (expI (k : Int) == 0) = false := by simp; omega
      have hl : lgI (expI (k : Int)) = k := by rw [lg_expI]; omega
      have r1 : expI ((k : Int) - 255) = expI (k : Int) := expI_congr (by omega)
      have r2 : expI ((k : Int) + 510) = expI (k : Int) := expI_congr (by omega)
      have hc0 := hN.out k hlt
      go_wp2_with (first | (go_at_call 18; refine (exp_any _ _).mono ?_; rintro e w' ⟨rfl, hg⟩; obtain ⟨hrow', hcell, hfro⟩ := stepIn (b := w.heap.size) (cs := S k) (t := 37) hg (by assumption) hc0) | (go_at_call 16; refine (log_any _ (by omega) (by omega) _).mono ?_; rintro e w' ⟨rfl, hg⟩; obtain ⟨hrow', hcell, hfro⟩ := stepIn (b := w.heap.size) (cs := S k) (t := 37) hg (by assumption) hc0))
      go_roundw
      case rel => exact ⟨k + 1, by omega, by go_num, by rw [hS.out]; exact heap_setCell_same _ _ _ _ _ _ (by assumption), gw_put (by repeat (first | exact Gw.refl _ | assumption | (apply Gw.trans; assumption))) (Nat.le_refl _) _⟩
      case measure => simp [intOf]; omega
    · have e8 : k = 255 := by omega
      subst e8
      go_wp2_with (go_at_call 15; refine (wakes_any _).mono ?_; rintro e w' ⟨rfl, hg⟩)
      go_ret
      exact ⟨rfl, hgw.trans hg⟩

theorem turns_any (w : World) : Calls Try.prog 7 #[] w fun e w' => e = .returned (.bool true) ∧ Gw w w' :=
  turns_gen none256 seen zero37 rfl (fun _ => rfl) seen_new w

theorem walk  (w : World) :
    Calls Try.prog 7 #[] w fun e w' => e = .returned (.bool true) ∧ Grown w w' := by
  exact (turns_any w).mono fun e w' h => ⟨h.1, h.2.2⟩

/-! ### THE ROW's STEP: WRITTEN OUT: LEAVE IT -/
set_option maxRecDepth 100000 in
theorem lifted (os : Os) (started : os.Started) (H : Type) (enc : TypeId × Value → H) :
    ReturnsInHanded {} Try.checked os 7 .any (Rows.gfTurnsSpec.pre6 enc Try.prog Try.f7 Rows.gfTurnsRow.domain false) (Rows.gfTurnsSpec.post enc Try.prog Try.f7 false true false false) := by
  refine returnsInHanded_of_change (C := Try.checked) own started (by kernel_rfl) Try.func7
    (ChangeSpec.witness6 (enc := enc) (C := Try.checked) false ⟨#[], #[], []⟩ 8 (by kernel_rfl) (by kernel_rfl) (by kernel_rfl) (by kernel_rfl)) ?_
  intro W base args ds gs before hval0 hW hcnd _
  have hval : ∀ (j : Nat) t v, Try.f7.params[j]? = some t → args[j]? = some v → Value.okWide Try.prog W .any base t v := hval0
  have hW' := hW
  obtain ⟨p, q, hA0, hV, rfl, hfz, hnd⟩ := hW
  have hA : DataW.TrodAll enc Try.prog W 0 (fun _ => true) true Try.f7.params.toList args.toList ds p := hA0
  rw [Try.params7] at hA hval
  obtain ⟨rfl, rfl, rfl⟩ := trodAll_none hA
  obtain ⟨rfl, rfl⟩ := trodVars_none hV
  clear hA0 hval0
  simp only [List.append_nil] at hW'
  refine (walk  W).mono fun e W' ⟨he, hg⟩ => ?_
  subst he
  exact ⟨_, rfl, post_of_same (pa := []) (pv := []) hW' (fun _ _ _ => (trodAll_cons_mk (shut_bool Try.underlying4 _) trodAll_mk0)) (fun sp _ => rfl) (fun _ _ => rfl) rfl
    (hg.frame _) hg.2.1 (ok_one (by kernel_rfl) rfl (okWide_bool_mk Try.underlying4 _))⟩

theorem over : Rows.gfTurnsRow.holds Try.pinned (OpenSpec.ofChange Rows.gfTurnsSpec) :=
  OpenClaim.holds_of_wide 7 Try.f7 rfl rfl rfl rfl rfl rfl rfl ⟨rfl, rfl, rfl, rfl, rfl⟩ rfl rfl rfl rfl rfl (by kernel_rfl) Try.func7 (by kernel_rfl)
    (of_decide_eq_true (by kernel_rfl)) (by unfold Func.isWrapper; first | (rw [if_pos (by decide +kernel)]; kernel_rfl) | (rw [if_neg (by decide +kernel)]; exact ⟨rfl, rfl⟩))
    (fun os started H enc _ => lifted os started H enc)

/-- ████ THE STATEMENT ████ -/
theorem proved : Rows.GfTurnsSaid :=
  over
#print axioms proved
end Go.Proofs.Ytmlbodpfapbhmaa.gfTurns
