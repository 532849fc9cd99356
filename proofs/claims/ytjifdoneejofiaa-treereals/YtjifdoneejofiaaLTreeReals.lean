/- Proved: for every list of items and every text the statement TreeReals answers true (the document's P11.9 and P11.13: every Real). -/
import Derived.Test.YtjifdoneejofiaaU8
import Derived.Test.YtjifdoneejofiaaUC
import Derived.Test.YtjifdoneejofiaaFy
import Derived.ShutString
import Derived.ChangeOld
namespace Go.Proofs.Ytjifdoneejofiaa.treeReals
open Go.ChangeShapes Go.WideShapes Go.ChangeAt Go.RowKit
set_option linter.unusedVariables false

set_option linter.unusedSimpArgs false
open Go.Deep
set_option maxRecDepth 100000 in
set_option maxHeartbeats 4000000 in
theorem walk (a0 : Option Addr) (len0 cap0 : Nat) (L0 : List Tr.Iv) (s1 : ByteArray) (w : World) (w0 : InIts w a0 len0 cap0 L0) (w1 : s1.size ≤ 140737488351232) :
    Calls Try.prog 7 #[.slice a0 len0 cap0, .string s1] w fun e w' => e = .returned (.bool true) ∧ Below w.heap.size w w' := by
  obtain ⟨hlen, hits, hle, hroom, hnil⟩ := w0
  obtain ⟨p, hp⟩ : ∃ p : Tr.B, p = s1.toList := ⟨_, rfl⟩
  have hS : s1 = Nm.S p := by rw [hp, Nm.S_toList]
  have hpl : p.length ≤ 140737488351232 := by rw [hp, Nm.size_toList]; exact w1
  clear w1 hp
  subst hS
  have HNL : Hid (L0.length = len0) := hlen
  have HI : Hid (ItsAt w a0 L0) := hits
  have HLent : Hid (∀ u, Bw w u → Calls Try.prog 9 #[.slice a0 len0 cap0] u fun e w' => ∃ g c M, e = .returned (.slice (some ⟨g, 0, none⟩) len0 c) ∧ Tr.its M = Tr.its L0 ∧ LentAt w' g c M ∧ u.heap.size ≤ g ∧ Bw u w') := fun u hu => by
    have := lent11_any a0 cap0 L0 (by rw [HNL.out]; omega) u (HI.out.keep hu)
    rwa [HNL.out] at this
  obtain ⟨E1, E2, hE⟩ : ∃ a b, Hid (Tr.realE (Tr.its L0) p = (a, b)) := ⟨_, _, show Tr.realE (Tr.its L0) p = _ from rfl⟩
  have HTR : Hid (∀ u g c M, Tr.its M = Tr.its L0 → LentAt u g c M → Calls Try.prog 27 #[.slice (some ⟨g, 0, none⟩) len0 c, .string (Nm.S p)] u fun e w' => e = .returned (.tuple #[.string (Nm.S E1), .int .i64 E2]) ∧ Bw u w') := fun u g c M he hl => by
    have hml : M.length = len0 := by have := congrArg List.length he; rwa [Tr.its_len, Tr.its_len, HNL.out] at this
    have := treal_any (some ⟨g, 0, none⟩) c M p (by omega) (by have := hl.room; omega) (by omega) u hl.its
    rwa [he, hml, hE.out] at this
  have HRR : Hid (∀ u, Bw w u → Calls Try.prog 28 #[.slice a0 len0 cap0, .string (Nm.S p)] u fun e w' => e = .returned (.tuple #[.string (Nm.S E1), .int .i64 E2]) ∧ Bw u w') := fun u hu => by
    have := rreal_any a0 cap0 L0 p (by rw [HNL.out]; omega) (by rw [HNL.out]; exact hle) (by omega) u (HI.out.keep hu)
    rwa [HNL.out, hE.out] at this
  have HKept : Hid (∀ u g c M, Bw w u → Tr.its M = Tr.its L0 → LentAt u g c M → Calls Try.prog 14 #[.slice (some ⟨g, 0, none⟩) len0 c, .slice a0 len0 cap0] u fun e w' => e = .returned (.bool true) ∧ Bw u w') := fun u g c M hu he hl => by
    have := kept11_any g c cap0 a0 M L0 (by rw [HNL.out]; omega) he u hl (HI.out.keep hu)
    rwa [HNL.out] at this
  have es : ((Nm.S E1).toList == (Nm.S E1).toList) = true := by simp
  clear hlen hits hnil
  go_enter Try.func7, Try.ntmps7
  go_wp2_with (first
    | (go_at_call 9; refine (HLent.out _ (Bw.refl _)).mono ?_; rintro e w1 ⟨g1, c1, M1, rfl, he1, hl1, -, hw1⟩)
    | (go_at_call 27; refine (HTR.out _ g1 c1 M1 he1 hl1).mono ?_; rintro e w2 ⟨rfl, hw2⟩; have hb2 := hw1.trans hw2)
    | (go_at_call 28; refine (HRR.out _ hb2).mono ?_; rintro e w3 ⟨rfl, hw3⟩; have hb3 := hb2.trans hw3; have hl3 := (hl1.keep hw2).keep hw3)
    | (go_at_call 14; refine (HKept.out _ g1 c1 M1 hb3 he1 hl3).mono ?_; rintro e w5 ⟨rfl, hw5⟩))
  go_ret
  exact ⟨rfl, hb3.trans hw5⟩

set_option maxRecDepth 100000 in
theorem lifted (os : Os) (started : os.Started) (H : Type) (enc : TypeId × Value → H) :
    ReturnsInHanded {} Try.checked os 7 .any (Rows.treeRealsSpec.pre6 enc Try.prog Try.f7 Rows.treeRealsRow.domain false) (Rows.treeRealsSpec.post enc Try.prog Try.f7 false true false false) := by
  refine returnsInHanded_of_change_sized (C := Try.checked) own started (by kernel_rfl) Try.func7
    (ChangeSpec.witness6 (enc := enc) (C := Try.checked) false ⟨#[], #[.slice none 0 0, .string .empty], []⟩ 8 (by kernel_rfl) (by kernel_rfl) (by kernel_rfl) (by kernel_rfl)) ?_
  intro W base args ds gs before hval0 hW hcnd hsz0 _
  have hval : ∀ (j : Nat) t v, Try.f7.params[j]? = some t → args[j]? = some v → Value.okWide Try.prog W .any base t v := hval0
  have hW' := hW
  obtain ⟨p, q, hA0, hV, rfl, hfz, hnd⟩ := hW
  have hA : DataW.TrodAll enc Try.prog W 0 (fun _ => true) true Try.f7.params.toList args.toList ds p := hA0
  have hsz : (DataW.weightsEach Try.prog (Try.f7.params.toList ++ Rows.treeRealsSpec.plain.varTypes Try.prog) (ds ++ gs)).all (· ≤ reachBytes) = true := hsz0
  rw [Try.params7] at hA hval hsz
  obtain ⟨v0, vs0, d0, ds0, p0, q0, hargs, rfl, rfl, h0, r0⟩ := trodAll_cons hA
  obtain ⟨v1, vs1, d1, ds1, p1, q1, rfl, rfl, rfl, h1, r1⟩ := trodAll_cons r0
  obtain ⟨rfl, rfl, rfl⟩ := trodAll_nil r1
  obtain rfl : args = #[v0, v1] := by cases args; simp_all
  obtain ⟨rfl, rfl⟩ := trodVars_none hV
  obtain ⟨a0, len0, cap0, rfl⟩ := okWide_slice Try.underlying22 (hval 0 22 v0 rfl rfl)
  have k0 := h0
  have lt0 : ∀ x ∈ p0, x.block < W.heap.size := by obtain ⟨m, hm⟩ := k0; exact DataW.trod_lt m _ _ _ hm
  obtain ⟨L0, w0⟩ := open_its h0 (fun x hx => by simpa using List.all_eq_true.1 hsz x (DataW.weights_mem_each (j := 0) (t := 22) rfl rfl x hx))
  have k1 := h1
  have lt1 : ∀ x ∈ p1, x.block < W.heap.size := by obtain ⟨m, hm⟩ := k1; exact DataW.trod_lt m _ _ _ hm
  obtain ⟨s1, rfl, rfl, w1⟩ := open_str (hval 1 9 v1 rfl rfl) h1 (fun x hx => by simpa using List.all_eq_true.1 hsz x (DataW.weights_mem_each (j := 1) (t := 9) rfl rfl x hx))
  clear hA0 hval0
  refine (walk a0 len0 cap0 L0 s1 W w0 w1).mono fun e W' ⟨he, bel⟩ => ?_
  subst he
  exact ⟨_, rfl, _, _, _, [], _, [], hW', trodAll_mk1 (shut_bool Try.underlying4 _), (trodAll_cons_mk (Below.trod laidOut (by kernel_rfl) (of_decide_eq_true (by kernel_rfl)) k0 bel lt0) (trodAll_cons_mk (Below.trod laidOut (by kernel_rfl) (of_decide_eq_true (by kernel_rfl)) k1 bel lt1) trodAll_mk0)), rfl, bel.frame _, fun h => by cases h⟩

theorem over : Rows.treeRealsRow.holds Try.pinned (OpenSpec.ofChange Rows.treeRealsSpec) :=
  OpenClaim.holds_of_wide 7 Try.f7 rfl rfl rfl rfl rfl rfl rfl ⟨rfl, rfl, rfl, rfl, rfl⟩ rfl rfl rfl rfl rfl (by kernel_rfl) Try.func7 (by kernel_rfl)
    (of_decide_eq_true (by kernel_rfl)) (by unfold Func.isWrapper; first | (rw [if_pos (by decide +kernel)]; kernel_rfl) | (rw [if_neg (by decide +kernel)]; exact ⟨rfl, rfl⟩))
    (fun os started H enc _ => lifted os started H enc)

theorem proved : Rows.TreeRealsSaid := over
#print axioms proved
end Go.Proofs.Ytjifdoneejofiaa.treeReals
