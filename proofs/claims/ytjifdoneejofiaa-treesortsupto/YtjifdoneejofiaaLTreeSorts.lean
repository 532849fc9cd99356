/- Proved: for all lists of items and every text, all of them together of at most 1048576 values and letters, the statement TreeSorts answers true (the document's P11.3 to P11.6 and P11.13: every Same, Sort, Find and Beneath). -/
import Derived.Test.YtjifdoneejofiaaU8
import Derived.Test.YtjifdoneejofiaaYM
import Derived.Test.YtjifdoneejofiaaYO
import Derived.Test.YtjifdoneejofiaaYQ
import Derived.Test.YtjifdoneejofiaaY7
import Derived.Test.YtjifdoneejofiaaFu
import Derived.ShutString
import Derived.ChangeOld
import Derived.JoinedCond
import Derived.Deep.CondSized
namespace Go.Proofs.Ytjifdoneejofiaa.treeSorts
open Go.ChangeShapes Go.WideShapes Go.ChangeAt Go.RowKit
set_option linter.unusedVariables false

set_option linter.unusedSimpArgs false
open Go.Deep
set_option maxRecDepth 100000 in
set_option maxHeartbeats 8000000 in
theorem walk (a0 : Option Addr) (len0 cap0 : Nat) (L0 : List Tr.Iv) (a1 : Option Addr) (len1 cap1 : Nat) (L1 : List Tr.Iv) (s2 : ByteArray) (w : World) (w0 : InItsU w a0 len0 cap0 L0) (w1 : InItsU w a1 len1 cap1 L1) (w2 : s2.size ≤ 1048576) :
    Calls Try.prog 4 #[.slice a0 len0 cap0, .slice a1 len1 cap1, .string s2] w fun e w' => e = .returned (.bool true) ∧ Below w.heap.size w w' := by
  obtain ⟨⟨hlen, hits, hle, hroom, hnil⟩, hsm⟩ := w0
  obtain ⟨⟨hlen1, hits1, hle1, hroom1, hnil1⟩, -⟩ := w1
  obtain ⟨p, hp⟩ : ∃ p : Tr.B, p = s2.toList := ⟨_, rfl⟩
  have hS : s2 = Nm.S p := by rw [hp, Nm.S_toList]
  have hpl : p.length ≤ 1048576 := by rw [hp, Nm.size_toList]; exact w2
  clear w2 hp
  subst hS
  have HNL : Hid (L0.length = len0) := hlen
  have HNL1 : Hid (L1.length = len1) := hlen1
  have HI : Hid (ItsAt w a0 L0) := hits
  have HI1 : Hid (ItsAt w a1 L1) := hits1
  have HLent : Hid (∀ u, Bw w u → Calls Try.prog 9 #[.slice a0 len0 cap0] u fun e w' => ∃ g c M, e = .returned (.slice (some ⟨g, 0, none⟩) len0 c) ∧ Tr.its M = Tr.its L0 ∧ LentAt w' g c M ∧ u.heap.size ≤ g ∧ Bw u w') := fun u hu => by
    have := lent11_any a0 cap0 L0 (by rw [HNL.out]; omega) u (HI.out.keep hu)
    rwa [HNL.out] at this
  obtain ⟨T, hT⟩ : ∃ T, Hid (Tr.its L0 = T) := ⟨_, rfl⟩
  have HTl : Hid (T.length = len0) := by show _ = _; rw [← hT.out, Tr.its_len, HNL.out]
  obtain ⟨fA, fE, hF⟩ : ∃ a b, Hid (Tr.findE T p = (a, b)) := ⟨_, _, show Tr.findE T p = _ from rfl⟩
  obtain ⟨F, hFl⟩ : ∃ F, Hid (T.filter (fun x => Tr.bnB p x.path) = F) := ⟨_, rfl⟩
  obtain ⟨D, hD⟩ : ∃ D : Bool, Hid (D = true ↔ Tr.its L0 = Tr.its L1) := by
    by_cases h : Tr.its L0 = Tr.its L1
    · exact ⟨true, ⟨fun _ => h, fun _ => rfl⟩⟩
    · exact ⟨false, ⟨(fun e => by cases e), fun e => absurd e h⟩⟩
  have hmlen : ∀ M : List Tr.Iv, Tr.its M = Tr.its L0 → M.length = len0 := fun M he => by have := congrArg List.length he; rwa [Tr.its_len, Tr.its_len, HNL.out] at this
  have HML : Hid (∀ M : List Tr.Iv, Tr.its M = Tr.its L0 → M.length = len0) := hmlen
  clear hmlen
  have HSo : Hid (∀ u g c M, Tr.its M = Tr.its L0 → LentAt u g c M → Calls Try.prog 15 #[.slice (some ⟨g, 0, none⟩) len0 c] u fun e w' => (∃ A' c' M', e = .returned (.slice A' len0 c') ∧ Ss.Stable Tr.cmpT T (Tr.its M') ∧ M'.length = len0 ∧ ItsAt w' A' M') ∧ Bw u w') := fun u g c M he hl => by
    have hml := HML.out M he
    have := tsort_any (some ⟨g, 0, none⟩) c M (by omega) (fun e => by cases e) u hl.its
    rw [hml, he, hT.out] at this
    refine this.mono fun e w' h => ⟨?_, h.2⟩
    obtain ⟨v, M', rfl, hst, ho⟩ := h.1
    obtain ⟨A, c, hv, -, hI, -, -⟩ := ho.its
    have hl : M'.length = len0 := by
      have := hst.perm.length_eq
      rw [Tr.its_len] at this
      rw [this, HTl.out]
    rw [hl] at hv
    subst hv
    exact ⟨A, c, M', rfl, hst, hl, hI⟩
  have HFi : Hid (∀ u g c M, Tr.its M = Tr.its L0 → LentAt u g c M → Calls Try.prog 16 #[.slice (some ⟨g, 0, none⟩) len0 c, .string (Nm.S p)] u fun e w' => e = .returned (.tuple #[.int .i64 (fA : Int), .int .i64 fE]) ∧ Bw u w') := fun u g c M he hl => by
    have hml := HML.out M he
    have := tfind_any (some ⟨g, 0, none⟩) c M p (by omega) u hl.its
    rwa [hml, he, hT.out, hF.out] at this
  have HBe : Hid (∀ u g c M, Tr.its M = Tr.its L0 → LentAt u g c M → Calls Try.prog 17 #[.slice (some ⟨g, 0, none⟩) len0 c, .string (Nm.S p)] u fun e w' => (∃ A' c' M', e = .returned (.slice A' M'.length c') ∧ Tr.its M' = F ∧ ItsAt w' A' M') ∧ Bw u w') := fun u g c M he hl => by
    have hml := HML.out M he
    have := tbeneath_any (some ⟨g, 0, none⟩) c M p (by omega) (by omega) u hl.its
    rw [hml, he, hT.out, hFl.out] at this
    refine this.mono fun e w' h => ⟨?_, h.2⟩
    obtain ⟨v, M', rfl, hm, ho⟩ := h.1
    obtain ⟨A, c, hv, -, hI, -, -⟩ := ho.its
    subst hv
    exact ⟨A, c, M', rfl, hm, hI⟩
  have HRF : Hid (∀ u, Bw w u → Calls Try.prog 18 #[.slice a0 len0 cap0, .string (Nm.S p)] u fun e w' => e = .returned (.tuple #[.int .i64 (fA : Int), .int .i64 fE]) ∧ w' = u) := fun u hu => by
    have := rfind11_any a0 cap0 L0 p (by rw [HNL.out]; omega) u (HI.out.keep hu)
    rwa [HNL.out, hT.out, hF.out] at this
  have HRS : Hid (∀ u, Bw w u → Calls Try.prog 20 #[.slice a0 len0 cap0] u fun e w' => (∃ A' c' M', e = .returned (.slice A' len0 c') ∧ Ss.Stable Tr.cmpT T (Tr.its M') ∧ M'.length = len0 ∧ ItsAt w' A' M') ∧ Bw u w') := fun u hu => by
    have := rsort_any a0 cap0 L0 (by rw [HNL.out]; omega) (fun y hy => by have := hsm y hy; omega) u (HI.out.keep hu)
    rw [HNL.out, hT.out] at this
    refine this.mono fun e w' h => ⟨?_, h.2⟩
    obtain ⟨A', c', M', rfl, hst, -, hI, -⟩ := h.1
    have hl : M'.length = len0 := by
      have := hst.perm.length_eq
      rw [Tr.its_len] at this
      rw [this, HTl.out]
    exact ⟨A', c', M', by rw [hl], hst, hl, hI⟩
  have HRB : Hid (∀ u, Bw w u → Calls Try.prog 21 #[.slice a0 len0 cap0, .string (Nm.S p)] u fun e w' => (∃ A' c' M', e = .returned (.slice A' M'.length c') ∧ Tr.its M' = F ∧ ItsAt w' A' M') ∧ Bw u w') := fun u hu => by
    have := rbeneath11_any a0 cap0 L0 p (by rw [HNL.out]; omega) (by omega) u (HI.out.keep hu)
    rw [HNL.out, hT.out, hFl.out] at this
    exact this.mono fun e w' ⟨A', c', M', h1, h2, h3, h4⟩ => ⟨⟨A', c', M', h1, h2, h3⟩, h4⟩
  have HFlen : Hid (F.length ≤ 4611686018427387904) := by
    show _ ≤ _
    rw [← hFl.out]
    have := List.length_filter_le (fun x : Tr.It => Tr.bnB p x.path) T
    rw [HTl.out] at this
    omega
  have HS1 : Hid (∀ u A c M A' c' M', Ss.Stable Tr.cmpT T (Tr.its M) → Ss.Stable Tr.cmpT T (Tr.its M') → M.length = len0 → M'.length = len0 → ItsAt u A M → ItsAt u A' M' → Calls Try.prog 19 #[.slice A len0 c, .slice A' len0 c'] u fun e w' => e = .returned (.bool true) ∧ Bw u w') := fun u A c M A' c' M' h1 h2 l1 l2 h3 h4 => by
    have := rsame11_any A A' c c' M M' (by omega) (by omega) u h3 h4
    rw [l1, l2] at this
    refine this.mono fun e w' h => ?_
    obtain ⟨⟨x, rfl, hx⟩, hw⟩ := h
    rw [hx.2 (Ss.stable_one Tr.cmpT_ok h1 h2)]; exact ⟨rfl, hw⟩
  have HS2 : Hid (∀ u A c M A' c' M', Tr.its M = F → Tr.its M' = F → ItsAt u A M → ItsAt u A' M' → Calls Try.prog 19 #[.slice A M.length c, .slice A' M'.length c'] u fun e w' => e = .returned (.bool true) ∧ Bw u w') := fun u A c M A' c' M' h1 h2 h3 h4 => by
    have l1 : M.length = F.length := by rw [← h1, Tr.its_len]
    have l2 : M'.length = F.length := by rw [← h2, Tr.its_len]
    have hFL := HFlen.out
    refine (rsame11_any A A' c c' M M' (by omega) (by omega) u h3 h4).mono fun e w' h => ?_
    obtain ⟨⟨x, rfl, hx⟩, hw⟩ := h
    rw [hx.2 (h1.trans h2.symm)]; exact ⟨rfl, hw⟩
  have dd : ∀ x : Bool, (x = true ↔ Tr.its L0 = Tr.its L1) → x = D := fun x hx => by
    cases x <;> cases hDD : D
    · rfl
    · exact absurd (hx.2 (hD.out.1 hDD)) (by simp)
    · have := hD.out.2 (hx.1 rfl); rw [hDD] at this; cases this
    · rfl
  have HS3 : Hid (∀ u, Bw w u → Calls Try.prog 19 #[.slice a0 len0 cap0, .slice a1 len1 cap1] u fun e w' => e = .returned (.bool D) ∧ Bw u w') := fun u hu => by
    have := rsame11_any a0 a1 cap0 cap1 L0 L1 (by rw [HNL.out]; omega) (by rw [HNL1.out]; omega) u (HI.out.keep hu) (HI1.out.keep hu)
    rw [HNL.out, HNL1.out] at this
    refine this.mono fun e w' h => ?_
    obtain ⟨⟨x, rfl, hx⟩, hw⟩ := h
    rw [dd x hx]; exact ⟨rfl, hw⟩
  have HT1 : Hid (∀ u, Bw w u → Calls Try.prog 22 #[.slice a0 len0 cap0, .slice a1 len1 cap1] u fun e w' => e = .returned (.bool D) ∧ Bw u w') := fun u hu => by
    have := tsame_any a0 a1 cap0 cap1 L0 L1 (by rw [HNL.out]; omega) (by rw [HNL1.out]; omega) u (HI.out.keep hu) (HI1.out.keep hu)
    rw [HNL.out, HNL1.out] at this
    refine this.mono fun e w' h => ?_
    obtain ⟨⟨x, rfl, hx⟩, hw⟩ := h
    rw [dd x hx]; exact ⟨rfl, hw⟩
  have HT2 : Hid (∀ u g c M, Bw w u → Tr.its M = Tr.its L0 → LentAt u g c M → Calls Try.prog 22 #[.slice (some ⟨g, 0, none⟩) len0 c, .slice a0 len0 cap0] u fun e w' => e = .returned (.bool true) ∧ Bw u w') := fun u g c M hu he hl => by
    have hml := HML.out M he
    have := tsame_any (some ⟨g, 0, none⟩) a0 c cap0 M L0 (by omega) (by rw [HNL.out]; omega) u hl.its (HI.out.keep hu)
    rw [hml, HNL.out] at this
    refine this.mono fun e w' h => ?_
    obtain ⟨⟨x, rfl, hx⟩, hw⟩ := h
    rw [hx.2 he]; exact ⟨rfl, hw⟩
  have HKept : Hid (∀ u g c M, Bw w u → Tr.its M = Tr.its L0 → LentAt u g c M → Calls Try.prog 14 #[.slice (some ⟨g, 0, none⟩) len0 c, .slice a0 len0 cap0] u fun e w' => e = .returned (.bool true) ∧ Bw u w') := fun u g c M hu he hl => by
    have := kept11_any g c cap0 a0 M L0 (by rw [HNL.out]; omega) he u hl (HI.out.keep hu)
    rwa [HNL.out] at this
  have bD : (D == D) = true := by simp
  have tok1 : Hid (w = w) := rfl
  have tok2 : Hid (w = w) := rfl
  have tok3 : Hid (w = w) := rfl
  have tok4 : Hid (w = w) := rfl
  clear hlen hits hnil hlen1 hits1 hnil1 hsm dd
  go_enter Try.func4, Try.ntmps4
  go_wp2_with (first
    | (go_at_call 9; refine (HLent.out _ (Bw.refl _)).mono ?_; rintro e w1 ⟨g1, c1, M1, rfl, he1, hl1, -, hw1⟩)
    | (go_at_call 15; refine (HSo.out _ g1 c1 M1 he1 hl1).mono ?_; rintro e w2 ⟨⟨A2, c2, M2, rfl, hst2, hll2, hI2⟩, hw2⟩; have hb2 := hw1.trans hw2; have hl2 := hl1.keep hw2)
    | (go_at_call 16; refine (HFi.out _ g1 c1 M1 he1 hl2).mono ?_; rintro e w3 ⟨rfl, hw3⟩; have hb3 := hb2.trans hw3; have hl3 := hl2.keep hw3; have hI3 := hI2.keep hw3)
    | (go_at_call 17; refine (HBe.out _ g1 c1 M1 he1 hl3).mono ?_; rintro e w4 ⟨⟨A4, c4, M4, rfl, hm4, hI4⟩, hw4⟩; have hb4 := hb3.trans hw4; have hl4 := hl3.keep hw4; have hI24 := hI3.keep hw4)
    | (go_at_call 18; refine (HRF.out _ hb4).mono ?_; rintro e w5 ⟨rfl, rfl⟩)
    | (go_at_call 20; refine (HRS.out _ hb4).mono ?_; rintro e w6 ⟨⟨A6, c6, M6, rfl, hst6, hll6, hI6⟩, hw6⟩; have hb6 := hb4.trans hw6; have hl6 := hl4.keep hw6; have hI26 := hI24.keep hw6; have hI46 := hI4.keep hw6)
    | (go_at_call 19; clear tok1; refine (HS1.out _ A2 c2 M2 A6 c6 M6 hst2 hst6 hll2 hll6 hI26 hI6).mono ?_; rintro e w7 ⟨rfl, hw7⟩; have hb7 := hb6.trans hw7; have hl7 := hl6.keep hw7; have hI47 := hI46.keep hw7)
    | (go_at_call 21; refine (HRB.out _ hb7).mono ?_; rintro e w8 ⟨⟨A8, c8, M8, rfl, hm8, hI8⟩, hw8⟩; have hb8 := hb7.trans hw8; have hl8 := hl7.keep hw8; have hI48 := hI47.keep hw8)
    | (go_at_call 19; clear tok2; refine (HS2.out _ A4 c4 M4 A8 c8 M8 hm4 hm8 hI48 hI8).mono ?_; rintro e w9 ⟨rfl, hw9⟩; have hb9 := hb8.trans hw9; have hl9 := hl8.keep hw9)
    | (go_at_call 22; clear tok3; refine (HT1.out _ hb9).mono ?_; rintro e wa ⟨rfl, hwa⟩; have hba := hb9.trans hwa; have hla := hl9.keep hwa)
    | (go_at_call 19; refine (HS3.out _ hba).mono ?_; rintro e wb ⟨rfl, hwb⟩; have hbb := hba.trans hwb; have hlb := hla.keep hwb)
    | (go_at_call 22; clear tok4; refine (HT2.out _ g1 c1 M1 hbb he1 hlb).mono ?_; rintro e wc ⟨rfl, hwc⟩; have hbc := hbb.trans hwc; have hlc := hlb.keep hwc)
    | (go_at_call 14; refine (HKept.out _ g1 c1 M1 hbc he1 hlc).mono ?_; rintro e wd ⟨rfl, hwd⟩))
  go_ret
  exact ⟨rfl, hbc.trans hwd⟩

set_option maxRecDepth 100000 in
theorem lifted (os : Os) (started : os.Started) (H : Type) (enc : TypeId × Value → H) (F : Stop.Interp) :
    ReturnsInHanded {} Try.checked os 4 .any ((Rows.OpenSpec.upto Rows.treeSortsSpec).pre6 enc Try.prog Try.f4 Rows.treeSortsUptoRow.domain false) (((Rows.OpenSpec.upto Rows.treeSortsSpec).at F).post enc Try.prog Try.f4 false true false false) := by
  refine returnsInHanded_of_cond_sized (C := Try.checked) (s := Rows.OpenSpec.upto Rows.treeSortsSpec) (k := Rows.uptoSmall) rfl own started (by kernel_rfl) Try.func4
    (OpenSpec.witness (enc := enc) (C := Try.checked) (s := Rows.OpenSpec.upto Rows.treeSortsSpec) (k := Rows.uptoSmall) rfl false ⟨#[], #[.slice none 0 0, .slice none 0 0, .string .empty], []⟩ 8 (by kernel_rfl) (by kernel_rfl) (by kernel_rfl) (x := ([.nil, .nil, .lit (.string [])], [], [])) (by kernel_rfl) rfl (by kernel_rfl)) ?_
  intro W base args ds gs before hval0 hW hcnd hk0 hsz0 _
  have hval : ∀ (j : Nat) t v, Try.f4.params[j]? = some t → args[j]? = some v → Value.okWide Try.prog W .any base t v := hval0
  have hW1 : DataW.Whole enc Try.prog Try.f4.params.toList Rows.treeSortsSpec.vars false W args.toList ds gs before := hW
  have hW' := hW1
  obtain ⟨p, q, hA0, hV, rfl, hfz, hnd⟩ := hW1
  have hA : DataW.TrodAll enc Try.prog W 0 (fun _ => true) true Try.f4.params.toList args.toList ds p := hA0
  have hsz : (DataW.weightsEach Try.prog (Try.f4.params.toList ++ Rows.treeSortsSpec.plain.varTypes Try.prog) (ds ++ gs)).all (· ≤ reachBytes) = true := hsz0
  rw [Try.params4] at hA hval hsz
  obtain ⟨v0, vs0, d0, ds0, p0, q0, hargs, rfl, rfl, h0, r0⟩ := trodAll_cons hA
  obtain ⟨v1, vs1, d1, ds1, p1, q1, rfl, rfl, rfl, h1, r1⟩ := trodAll_cons r0
  obtain ⟨v2, vs2, d2, ds2, p2, q2, rfl, rfl, rfl, h2, r2⟩ := trodAll_cons r1
  obtain ⟨rfl, rfl, rfl⟩ := trodAll_nil r2
  obtain rfl : args = #[v0, v1, v2] := by cases args; simp_all
  obtain ⟨rfl, rfl⟩ := trodVars_none hV
  have hk := hk0
  simp only [List.append_nil] at hk
  obtain ⟨a0, len0, cap0, rfl⟩ := okWide_slice Try.underlying22 (hval 0 22 v0 rfl rfl)
  have k0 := h0
  have lt0 : ∀ x ∈ p0, x.block < W.heap.size := by obtain ⟨m, hm⟩ := k0; exact DataW.trod_lt m _ _ _ hm
  obtain ⟨L0, w0x, w0u⟩ := open_its2 h0 (fun x hx => by simpa using List.all_eq_true.1 hsz x (DataW.weights_mem_each (j := 0) (t := 22) rfl rfl x hx))
  have w0 : InItsU W a0 len0 cap0 L0 := ⟨w0x, fun y hy => Nat.le_trans (w0u y hy) (upto_part (by simp) hk)⟩
  obtain ⟨a1, len1, cap1, rfl⟩ := okWide_slice Try.underlying22 (hval 1 22 v1 rfl rfl)
  have k1 := h1
  have lt1 : ∀ x ∈ p1, x.block < W.heap.size := by obtain ⟨m, hm⟩ := k1; exact DataW.trod_lt m _ _ _ hm
  obtain ⟨L1, w1x, w1u⟩ := open_its2 h1 (fun x hx => by simpa using List.all_eq_true.1 hsz x (DataW.weights_mem_each (j := 1) (t := 22) rfl rfl x hx))
  have w1 : InItsU W a1 len1 cap1 L1 := ⟨w1x, fun y hy => Nat.le_trans (w1u y hy) (upto_part (by simp) hk)⟩
  have k2 := h2
  have lt2 : ∀ x ∈ p2, x.block < W.heap.size := by obtain ⟨m, hm⟩ := k2; exact DataW.trod_lt m _ _ _ hm
  obtain ⟨s2, rfl, rfl, w2x⟩ := open_str (hval 2 9 v2 rfl rfl) h2 (fun x hx => by simpa using List.all_eq_true.1 hsz x (DataW.weights_mem_each (j := 2) (t := 9) rfl rfl x hx))
  have w2 := upto_str (s := s2) (by simp) hk
  clear hA0 hval0
  refine (walk a0 len0 cap0 L0 a1 len1 cap1 L1 s2 W w0 w1 w2).mono fun e W' ⟨he, bel⟩ => ?_
  subst he
  refine ⟨_, rfl, ?_⟩
  show Rows.treeSortsSpec.post enc Try.prog Try.f4 false true false false _ _ _ _
  exact ⟨_, _, _, [], _, [], hW', trodAll_mk1 (shut_bool Try.underlying4 _), (trodAll_cons_mk (Below.trod laidOut (by kernel_rfl) (of_decide_eq_true (by kernel_rfl)) k0 bel lt0) (trodAll_cons_mk (Below.trod laidOut (by kernel_rfl) (of_decide_eq_true (by kernel_rfl)) k1 bel lt1) (trodAll_cons_mk (Below.trod laidOut (by kernel_rfl) (of_decide_eq_true (by kernel_rfl)) k2 bel lt2) trodAll_mk0))), rfl, bel.frame _, fun h => by cases h⟩

theorem proved : Rows.TreeSortsUptoSaid :=
  OpenClaim.holds_of_cond 4 Try.f4 rfl rfl rfl rfl rfl rfl rfl ⟨rfl, rfl, rfl, rfl, rfl⟩ rfl rfl rfl rfl rfl (by kernel_rfl) Try.func4 (by kernel_rfl)
    (of_decide_eq_true (by kernel_rfl)) (by unfold Func.isWrapper; first | (rw [if_pos (by decide +kernel)]; kernel_rfl) | (rw [if_neg (by decide +kernel)]; exact ⟨rfl, rfl⟩))
    (fun os started H enc _ F => lifted os started H enc F)
#print axioms proved
end Go.Proofs.Ytjifdoneejofiaa.treeSorts
