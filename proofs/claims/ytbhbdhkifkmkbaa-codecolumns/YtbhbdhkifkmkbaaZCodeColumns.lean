/- Proved: for every two matrices of bytes and every two whole numbers the statement CodeColumns answers true (the document's P3.6: a word cut behind some column is the words of the data cut there; the word of a sum is the sum of the words), with no condition but the reach; arguments may share memory. -/
import Derived.Test.YtbhbdhkifkmkbaaB11
import Derived.ShutString
import Derived.ChangeOld
namespace Go.Proofs.Ytbhbdhkifkmkbaa.codeColumns
open Go.ChangeShapes Go.WideShapes Go.ChangeAt Go.RowKit
set_option linter.unusedVariables false

theorem walk (a0 : Option Addr) (len0 cap0 : Nat) (R0 : Nat → Option Addr) (L0 C0 : Nat → Nat) (Z0 : Nat → Nat → Int) (a1 : Option Addr) (len1 cap1 : Nat) (R1 : Nat → Option Addr) (L1 C1 : Nat → Nat) (Z1 : Nat → Nat → Int) (a2 : Int) (a3 : Int) (w : World) (w0 : InMat w a0 len0 cap0 R0 L0 C0 Z0) (w1 : InMat w a1 len1 cap1 R1 L1 C1 Z1) (w2 : (Lit.int .i64 a2).wf = true) (w3 : (Lit.int .i64 a3).wf = true) :
    Calls Try.prog 8 #[.slice a0 len0 cap0, .slice a1 len1 cap1, .int .i64 a2, .int .i64 a3] w fun e w' => e = .returned (.bool true) ∧ Below w.heap.size w w' := by
  cases g1 : great3 len0 L0 with
  | true => exact cols_great wakes3_any _ _ _ _ _ _ _ _ _ _ _ _ _ _ _ _ w w0 w1 (Or.inl g1)
  | false =>
    cases g2 : great3 len1 L1 with
    | true => exact cols_great wakes3_any _ _ _ _ _ _ _ _ _ _ _ _ _ _ _ _ w w0 w1 (Or.inr ⟨g1, g2⟩)
    | false =>
      obtain ⟨x, k1, hx⟩ := enc_some len0 L0 a2
      obtain ⟨y, k2, hy⟩ := enc_some len1 L1 a2
      by_cases hx0 : x = 0
      · by_cases hy0 : y = 0
        · by_cases hnm : len0 = len1
          · subst hx0; subst hy0; subst hnm
            have ex := (encsays_ok hx).2.2
            have ey := (encsays_ok hy).2.2
            obtain rfl : k2 = k1 := by omega
            subst ex
            by_cases hl : L0 0 = L1 0
            · exact cols_main _ _ _ _ _ _ _ _ _ _ _ _ _ _ _ w w0 w1 g1 g2 hx hy hl
            · exact cols_len _ _ _ _ _ _ _ _ _ _ _ _ _ _ _ w w0 w1 g1 g2 hx hy (by simp; omega)
          · exact cols_err enc_spec wakes3_any _ _ _ _ _ _ _ _ _ _ _ _ _ _ _ _ w w0 w1 g1 g2 x y k1 k2 hx hy (Or.inr (Or.inr ⟨by simp [hx0], by simp [hy0], by simp; omega⟩))
        · exact cols_err enc_spec wakes3_any _ _ _ _ _ _ _ _ _ _ _ _ _ _ _ _ w w0 w1 g1 g2 x y k1 k2 hx hy (Or.inr (Or.inl ⟨by simp [hx0], by simpa using hy0⟩))
      · exact cols_err enc_spec wakes3_any _ _ _ _ _ _ _ _ _ _ _ _ _ _ _ _ w w0 w1 g1 g2 x y k1 k2 hx hy (Or.inl (by simpa using hx0))

set_option maxRecDepth 100000 in
theorem lifted (os : Os) (started : os.Started) (H : Type) (enc : TypeId × Value → H) :
    ReturnsInHanded {} Try.checked os 8 .any (Rows.codeColumnsSpec.pre6 enc Try.prog Try.f8 Rows.codeColumnsRow.domain false) (Rows.codeColumnsSpec.post enc Try.prog Try.f8 false true false false) := by
  refine returnsInHanded_of_change_sized (C := Try.checked) own started (by kernel_rfl) Try.func8
    (ChangeSpec.witness6 (enc := enc) (C := Try.checked) false ⟨#[], #[.slice none 0 0, .slice none 0 0, .int .i64 0, .int .i64 0], []⟩ 8 (by kernel_rfl) (by kernel_rfl) (by kernel_rfl) (by kernel_rfl)) ?_
  intro W base args ds gs before hval0 hW hcnd hsz0 _
  have hval : ∀ (j : Nat) t v, Try.f8.params[j]? = some t → args[j]? = some v → Value.okWide Try.prog W .any base t v := hval0
  have hW' := hW
  obtain ⟨p, q, hA0, hV, rfl, hfz, hnd⟩ := hW
  have hA : DataW.TrodAll enc Try.prog W 0 (fun _ => true) true Try.f8.params.toList args.toList ds p := hA0
  have hsz : (DataW.weightsEach Try.prog (Try.f8.params.toList ++ Rows.codeColumnsSpec.plain.varTypes Try.prog) (ds ++ gs)).all (· ≤ reachBytes) = true := hsz0
  rw [Try.params8] at hA hval hsz
  obtain ⟨v0, vs0, d0, ds0, p0, q0, hargs, rfl, rfl, h0, r0⟩ := trodAll_cons hA
  obtain ⟨v1, vs1, d1, ds1, p1, q1, rfl, rfl, rfl, h1, r1⟩ := trodAll_cons r0
  obtain ⟨v2, vs2, d2, ds2, p2, q2, rfl, rfl, rfl, h2, r2⟩ := trodAll_cons r1
  obtain ⟨v3, vs3, d3, ds3, p3, q3, rfl, rfl, rfl, h3, r3⟩ := trodAll_cons r2
  obtain ⟨rfl, rfl, rfl⟩ := trodAll_nil r3
  obtain rfl : args = #[v0, v1, v2, v3] := by cases args; simp_all
  obtain ⟨rfl, rfl⟩ := trodVars_none hV
  obtain ⟨a0, len0, cap0, rfl⟩ := okWide_slice Try.underlying22 (hval 0 22 v0 rfl rfl)
  have k0 := h0
  have lt0 : ∀ x ∈ p0, x.block < W.heap.size := by obtain ⟨m, hm⟩ := k0; exact DataW.trod_lt m _ _ _ hm
  obtain ⟨R0, L0, C0, Z0, w0⟩ := open_rows h0 (fun x hx => by simpa using List.all_eq_true.1 hsz x (DataW.weights_mem_each (j := 0) (t := 22) rfl rfl x hx))
  obtain ⟨a1, len1, cap1, rfl⟩ := okWide_slice Try.underlying22 (hval 1 22 v1 rfl rfl)
  have k1 := h1
  have lt1 : ∀ x ∈ p1, x.block < W.heap.size := by obtain ⟨m, hm⟩ := k1; exact DataW.trod_lt m _ _ _ hm
  obtain ⟨R1, L1, C1, Z1, w1⟩ := open_rows h1 (fun x hx => by simpa using List.all_eq_true.1 hsz x (DataW.weights_mem_each (j := 1) (t := 22) rfl rfl x hx))
  obtain ⟨a2, rfl, rfl, rfl, w2⟩ := open_int Try.underlying3 (hval 2 3 v2 rfl rfl) h2
  obtain ⟨a3, rfl, rfl, rfl, w3⟩ := open_int Try.underlying3 (hval 3 3 v3 rfl rfl) h3
  clear hA0 hval0
  refine (walk a0 len0 cap0 R0 L0 C0 Z0 a1 len1 cap1 R1 L1 C1 Z1 a2 a3 W w0 w1 w2 w3).mono fun e W' ⟨he, bel⟩ => ?_
  subst he
  exact ⟨_, rfl, _, _, _, [], _, [], hW', trodAll_mk1 (shut_bool Try.underlying4 _), (trodAll_cons_mk (Below.trod laidOut (by kernel_rfl) (of_decide_eq_true (by kernel_rfl)) k0 bel lt0) (trodAll_cons_mk (Below.trod laidOut (by kernel_rfl) (of_decide_eq_true (by kernel_rfl)) k1 bel lt1) (trodAll_cons_mk (shut_int Try.underlying3 w2) (trodAll_cons_mk (shut_int Try.underlying3 w3) trodAll_mk0)))), rfl, bel.frame _, fun h => by cases h⟩

theorem over : Rows.codeColumnsRow.holds Try.pinned (OpenSpec.ofChange Rows.codeColumnsSpec) :=
  OpenClaim.holds_of_wide 8 Try.f8 rfl rfl rfl rfl rfl rfl rfl ⟨rfl, rfl, rfl, rfl, rfl⟩ rfl rfl rfl rfl rfl (by kernel_rfl) Try.func8 (by kernel_rfl)
    (of_decide_eq_true (by kernel_rfl)) (by unfold Func.isWrapper; first | (rw [if_pos (by decide +kernel)]; kernel_rfl) | (rw [if_neg (by decide +kernel)]; exact ⟨rfl, rfl⟩))
    (fun os started H enc _ => lifted os started H enc)

theorem proved : Rows.CodeColumnsSaid := over
#print axioms proved
end Go.Proofs.Ytbhbdhkifkmkbaa.codeColumns
