/- DigestKnown is true: the digests that are known. (A tied card: the table k reads as the program's text lays it.) -/
import Derived.Test.YtcpapaceggnaoaaDoorEE
import Derived.Test.YtcpapaceggnaoaaDoorEE
import Derived.Test.YtcpapaceggnaoaaDoorCards
import Derived.Test.YtcpapaceggnaoaaDoorTie
import Derived.ShutString
import Derived.ChangeOld
import Derived.SevenTiedAt
namespace Go.Proofs.YtcpapaceggnaoaaDoor.digestKnown
open Go.ChangeShapes Go.WideShapes Go.ChangeAt Go.RowKit Go.Deep
set_option linter.unusedVariables false

theorem cells_of {C : Array Value} {n : Nat} {f : Nat → Int} (e : C = ((List.range n).map fun i => Value.int .u8 (f i)).toArray) (w : World) (mk : Nat × Nat) (hf : ∀ i, 0 ≤ f i ∧ f i < 256) : RowAt (w.alloc (.cells C 5 mk)) (some ⟨w.heap.size, 0, none⟩) n f := by
  refine ⟨Or.inr ⟨w.heap.size, 0, rfl, fun i hi => ?_⟩, hf⟩
  rw [Nat.zero_add, cell_of_row _ _ i _ _ _ (heap_alloc_new w _), e, List.getElem?_toArray, List.getElem?_map, List.getElem?_range hi]; rfl
theorem ptext_known {T : Array Value} {f : Nat → Nat} {L : Nat} {l : List UInt8} (hs : T.size = 32) (hT : ∀ i, i < 32 → T[i]? = some (.int .u8 ((Sha.dig f L i : Nat) : Int))) (hl : (str (txtF (Sha.dig f L)) 64).toList = l) (w : World) :
    Calls Tryd.prog 12 #[.agg T] w fun e w' => ∃ X : ByteArray, e = .returned (.string X) ∧ X.toList = l ∧ Bw w w' := by
  refine (ptext_any T (Sha.dig f L) (Sha.dig_lt f L) hs hT w).mono ?_
  rintro e w' ⟨rfl, hw'⟩
  exact ⟨_, rfl, hl, hw'⟩
theorem nb0 : nbD (fun _ => 0) = fun _ => 0 := funext fun _ => rfl
theorem nb97 : nbD (fun _ => 97) = fun _ => 97 := funext fun _ => rfl
def I56 (i : Nat) : Int := ((Sha.f56 i : Nat) : Int)
theorem nbI : nbD I56 = Sha.f56 := funext fun i => Int.toNat_natCast _
theorem f56_lt (i : Nat) : Sha.f56 i < 256 := by
  have h : ∀ i, i < 56 → Sha.f56 i < 256 := by decide +kernel
  by_cases hi : i < 56
  · exact h i hi
  · have : Sha.f56 i = 0 := by unfold Sha.f56; rw [List.getD_eq_getElem?_getD, List.getElem?_eq_none (by show 56 ≤ i; omega)]; rfl
    omega
theorem I56_bd (i : Nat) : 0 ≤ I56 i ∧ I56 i < 256 := by have := f56_lt i; unfold I56; omega
set_option maxRecDepth 100000 in
set_option maxHeartbeats 4000000 in
theorem walk  (w : World) (hk : KAt w)  :
    Calls Tryd.prog 8 #[] w fun e w' => e = .returned (.bool true) ∧ Below w.heap.size w w' := by
  have kc := fun (w : World) (C : Array Value) (n c : Nat) => Lib.run_convert_bytes_const (P := Tryd.prog) w 22 5 C n c Tryd.underlying22 Tryd.underlying5
  obtain ⟨i0, hi0, hz0, hz1, hz2⟩ := info_parts info_u8
  obtain ⟨M, hM, hM0, hmk⟩ := made_bytes 1000 (by omega)
  have hmk' : ∀ w, (Instr.makeSlice 22 (.int .i64 1000) (.int .i64 1000)).run Tryd.prog w = .ok (.slice (some ⟨w.heap.size, 0, none⟩) 1000 1000) (w.alloc (.cells M 5)) := hmk
  clear hmk
  obtain ⟨w1, hw1⟩ : ∃ w1, w1 = w.alloc (.cells M 5) := ⟨_, rfl⟩
  have hb1 : Bw w w1 := by rw [hw1]; exact (Below.refl _ _).alloc (Nat.le_refl _) _
  have ho1 : Own w1 w.heap.size 1000 (fun _ => 0) := by rw [hw1]; exact ⟨M, heap_alloc_new _ _, by omega, hM0⟩
  clear hM0
  go_enter Tryd.func8, Tryd.ntmps8
  go_wp2
  rw [← hw1]
  clear hw1
  go_loopw [2] (fun i wr => ∃ k : Nat, k ≤ 1000 ∧ i = .int .i64 (k : Int) ∧ Own wr w.heap.size 1000 (fun c => if c < k then 97 else 0) ∧ Bw w wr) (fun i _ => 1000 - (intOf i).toNat)
  case atStart => exact ⟨0, Nat.zero_le _, rfl, ho1.congr (fun c _ => by rw [if_neg (by omega)]), hb1⟩
  case round =>
    clear ho1 hb1
    obtain ⟨k, hk1, rfl, ho, hb⟩ := hrel
    by_cases hlt : k < 1000
    · obtain ⟨c0, f0⟩ := ho.cell (c := k) hlt
      have k0 : (0 : Int) ≤ (k : Int) := Int.natCast_nonneg _
      have k1 : (k : Int) < 1000 := by omega
      go_wp2
      go_roundw
      case rel =>
        refine ⟨k + 1, by omega, by go_num, ho.set hlt (by rw [if_pos (by omega)]) (fun c _ hc => ?_), Bw.put hb (Nat.le_refl _) _ _⟩
        by_cases e : c < k
        · rw [if_pos e, if_pos (by omega)]
        · rw [if_neg e, if_neg (by omega)]
      case measure => simp [intOf]; omega
    · have ek : k = 1000 := by omega
      subst ek
      have hrL : RowAt wr (some ⟨w.heap.size, 0, none⟩) 1000 (fun _ => 97) := (ho.congr (f' := fun _ => 97) (fun c hc => by rw [if_pos hc])).row (fun _ => (by decide : (0 : Int) ≤ 97 ∧ (97 : Int) < 256))
      have hkr := hk.keep hb
      have hal : ∀ (X : World) (o : Obj), Bw X (X.alloc o) := fun X o => (Below.refl _ _).alloc (Nat.le_refl _) _
      clear ho
      go_wp2_with (first
        | (go_at_call_of 10 (56 : Nat); refine (pof_any _ 56 56 I56 (by omega) (by omega) (by omega) _ (cells_of (by kernel_rfl) _ _ I56_bd) (((hkr.keep hwa).keep hwb).keep (hal _ _))).mono ?_; rintro e wc ⟨Tc, rfl, hTcs, hTc, hwc⟩; rw [nbI] at hTc; have hTc' : Hid (∀ i, i < 32 → Tc[i]? = some (.int .u8 ((Sha.dig Sha.f56 56 i : Nat) : Int))) := hTc; clear hTc)
        | (go_at_call_of 10 (1000 : Nat); refine (pof_any _ 1000 1000 (fun _ => 97) (by omega) (by omega) (by omega) _ (((((hrL.keep hwa).keep hwb).keep (hal _ _)).keep hwc).keep hwd) (((((hkr.keep hwa).keep hwb).keep (hal _ _)).keep hwc).keep hwd)).mono ?_; rintro e we ⟨Te, rfl, hTes, hTe, hwe⟩; rw [nb97] at hTe; have hTe' : Hid (∀ i, i < 32 → Te[i]? = some (.int .u8 ((Sha.dig (fun _ => 97) 1000 i : Nat) : Int))) := hTe; clear hTe)
        | (go_at_call 10; refine (pof_any none 0 0 (fun _ => 0) (by omega) (by omega) (by omega) _ (row_none _) hkr).mono ?_; rintro e wa ⟨Ta, rfl, hTas, hTa, hwa⟩; rw [nb0] at hTa; have hTa' : Hid (∀ i, i < 32 → Ta[i]? = some (.int .u8 ((Sha.dig (fun _ => 0) 0 i : Nat) : Int))) := hTa; clear hTa)
        | (go_at_call_of 12 Te; refine (ptext_known hTes hTe'.out long_text _).mono ?_; rintro e wf ⟨X3, rfl, es3, hwf⟩)
        | (go_at_call_of 12 Tc; refine (ptext_known hTcs hTc'.out f56_text _).mono ?_; rintro e wd ⟨X2, rfl, es2, hwd⟩)
        | (go_at_call_of 12 Ta; refine (ptext_known hTas hTa'.out none_text _).mono ?_; rintro e wb ⟨X1, rfl, es1, hwb⟩)
        | (go_at_call 9; refine (wakes_any _ (((((((hkr.keep hwa).keep hwb).keep (hal _ _)).keep hwc).keep hwd).keep hwe).keep hwf)).mono ?_; rintro e wg ⟨rfl, hwg⟩))
      go_ret
      exact ⟨rfl, (((((((hb.trans hwa).trans hwb).trans (hal _ _)).trans hwc).trans hwd).trans hwe).trans hwf).trans hwg⟩

set_option maxRecDepth 100000 in
theorem lifted (os : Os) (started : os.Started) (H : Type) (enc : TypeId × Value → H) :
    ReturnsInHanded {} Tryd.checked os 8 .any (fun w args => (Rows.digestKnownSpec.pre enc Tryd.prog Tryd.f8 [] false w args ∧ laidMetH Tryd.prog laidK w) ∧ sizedMet enc Tryd.prog Tryd.f8 (OpenSpec.ofChange Rows.digestKnownSpec) false w args)
      (Rows.digestKnownSpec.post enc Tryd.prog Tryd.f8 false true false false) := by
  refine returnsInHanded_of_change_and (C := Tryd.checked) (X := fun w _ => laidMetH Tryd.prog laidK w) (fun _ _ _ hh h => h.of_heap hh) own started (by kernel_rfl) Tryd.func8
    (ChangeSpec.witness_shaped (enc := enc) (C := Tryd.checked) (os := os) (X := fun w _ => laidMetH Tryd.prog laidK w) false (World.doorLaid Tryd.prog 400 os) #[] 8 rfl (World.shaped_of_RefB (by kernel_rfl) (by kernel_rfl)) (by kernel_rfl) (by kernel_rfl) (by kernel_rfl) (door_met os _)) ?_
  intro W base args ds gs before hval0 hW hcnd hsz0 hL _
  have hval : ∀ (j : Nat) t v, Tryd.f8.params[j]? = some t → args[j]? = some v → Value.okWide Tryd.prog W .any base t v := hval0
  have hW' := hW
  obtain ⟨p, q, hA0, hV, rfl, hfz, hnd⟩ := hW
  have hA : DataW.TrodAll enc Tryd.prog W 0 (fun _ => true) true Tryd.f8.params.toList args.toList ds p := hA0
  have hsz : (DataW.weightsEach Tryd.prog (Tryd.f8.params.toList ++ Rows.digestKnownSpec.plain.varTypes Tryd.prog) (ds ++ gs)).all (· ≤ reachBytes) = true := hsz0
  have hkat := kat_of_laid hL
  rw [Tryd.params8] at hA hval hsz
  obtain ⟨rfl, rfl, rfl⟩ := trodAll_none hA
  obtain ⟨rfl, rfl⟩ := trodVars_none hV
  clear hA0 hval0
  refine (walk  W hkat ).mono fun e W' ⟨he, bel⟩ => ?_
  subst he
  exact ⟨_, rfl, _, _, _, [], _, [], hW', trodAll_mk1 (shut_bool Tryd.underlying4 _), trodAll_mk0, rfl, bel.frame _, fun h => by cases h⟩

theorem over : Rows.digestKnownRow.holds Tryd.pinned (OpenSpec.ofChange Rows.digestKnownSpec) :=
  OpenClaim.holds_of_wide 8 Tryd.f8 rfl rfl rfl rfl rfl rfl rfl ⟨rfl, rfl, rfl, rfl, rfl⟩ rfl rfl rfl rfl rfl (by kernel_rfl) Tryd.func8 (by kernel_rfl)
    (of_decide_eq_true (by kernel_rfl)) (by unfold Func.isWrapper; first | (rw [if_pos (by decide +kernel)]; kernel_rfl) | (rw [if_neg (by decide +kernel)]; exact ⟨rfl, rfl⟩))
    (fun os started H enc _ => lifted os started H enc)

theorem proved : Rows.DigestKnownCardSaid :=
  Claim7.holds_tied_plain_at .later [] [.data] true (true, "dfd591aa29c56175f19a07ad5d69340116d5ff8aa6883449b7bcc9a4d873338d") false
    over (fun _ h => by cases h) (by kernel_rfl) (fun _ h => by cases h) digestKnown_row_tie rfl ⟨rfl, rfl⟩ (by kernel_rfl) rfl
    (fun f fn hf hfn => by
      obtain rfl : f = 8 := Option.some.inj ((show Tryd.prog.funcNamed "tabulary/tabularylaw05.DigestKnown" = some 8 by kernel_rfl).symm.trans hf) |>.symm
      obtain rfl : fn = Tryd.f8 := (Option.some.inj (Tryd.func8.symm.trans hfn)).symm
      exact ⟨by kernel_rfl, fun j t ht => by
        rw [Tryd.params8] at ht
        simp at ht⟩)
    (by kernel_rfl)
#print axioms proved
end Go.Proofs.YtcpapaceggnaoaaDoor.digestKnown
