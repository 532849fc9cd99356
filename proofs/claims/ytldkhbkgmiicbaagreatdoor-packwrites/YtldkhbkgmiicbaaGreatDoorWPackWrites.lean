/- Proved: for every list of items the statement PackWrites answers true (the document's P12.2, P12.3 and P12.8: every Write, the volume byte by byte, the place and the error; every Size). -/
import Derived.Test.YtldkhbkgmiicbaaGreatDoorBu42
import Derived.Test.YtldkhbkgmiicbaaGreatDoorBu43
import Derived.Test.YtldkhbkgmiicbaaGreatDoorCards
import Derived.Test.YtldkhbkgmiicbaaGreatDoorTie
import Derived.ShutString
import Derived.ChangeOld
import Derived.SevenTiedAt
namespace Go.Proofs.YtldkhbkgmiicbaaGreatDoor.packWrites
open Go.ChangeShapes Go.WideShapes Go.ChangeAt Go.RowKit Go.Deep
set_option linter.unusedVariables false

set_option linter.unusedSimpArgs false
open Go.Deep
set_option maxRecDepth 100000 in
set_option maxHeartbeats 4000000 in
theorem walk (a0 : Option Addr) (len0 cap0 : Nat) (L0 : List Tr.Iv) (w : World) (hk : KTAt w) (w0 : InIts w a0 len0 cap0 L0) :
    Calls Tryz.prog 3 #[.slice a0 len0 cap0] w fun e w' => e = .returned (.bool true) ∧ Below w.heap.size w w' := by
  obtain ⟨hlen, hits, hle, hroom, hnil⟩ := w0
  have HK : Hid (KTAt w) := hk
  clear hk
  have HNL : Hid (L0.length = len0) := hlen
  have HI : Hid (ItsAt w a0 L0) := hits
  have HLent : Hid (∀ u, Bw w u → Calls Tryz.prog 8 #[.slice a0 len0 cap0] u fun e w' => ∃ g c M, e = .returned (.slice (some ⟨g, 0, none⟩) len0 c) ∧ Tr.its M = Tr.its L0 ∧ LentAt w' g c M ∧ u.heap.size ≤ g ∧ Bw u w') := fun u hu => by
    have := lent12_any a0 cap0 L0 (by rw [HNL.out]; omega) u (HI.out.keep hu)
    rwa [HNL.out] at this
  obtain ⟨B, i, er, hR⟩ : ∃ r i er, Hid (Pk.wr (Tr.its L0) = (r, i, er)) := ⟨_, _, _, show Pk.wr (Tr.its L0) = _ from rfl⟩
  have hBl : B.length ≤ 131072 := by have := Pk.wr_len (Tr.its L0); rw [hR.out] at this; exact this
  obtain ⟨l, hl⟩ : ∃ l, Hid (B.length = l) := ⟨_, rfl⟩
  rw [hl.out] at hBl
  have HW : Hid (∀ u g c M, Bw w u → Tr.its M = Tr.its L0 → LentAt u g c M → Calls Tryz.prog 9 #[.slice (some ⟨g, 0, none⟩) len0 c] u fun e w' => (∃ A c', e = .returned (.tuple #[.slice A l c', .int .i64 (i : Int), .int .i64 er]) ∧ RowAt w' A l (Hd.rowF B)) ∧ Bw u w') := fun u g c M hu he hl' => by
    have hml : M.length = len0 := by have := congrArg List.length he; rwa [Tr.its_len, Tr.its_len, HNL.out] at this
    have := pkwrite_any (some ⟨g, 0, none⟩) c M (by omega) (by have := hl'.room; omega) u hl'.its (HK.out.keep hu)
    rw [hml] at this
    refine this.mono fun e w' ⟨⟨v, h1, h2⟩, h3⟩ => ⟨?_, h3⟩
    rw [he, hR.out] at h1 h2
    obtain ⟨A, c', rfl, hr, -⟩ := own_rowat12 h2
    dsimp only at h1 hr
    rw [hl.out] at h1 hr
    exact ⟨A, c', h1, hr⟩
  have HSz : Hid (∀ u g c M, Bw w u → Tr.its M = Tr.its L0 → LentAt u g c M → Calls Tryz.prog 10 #[.slice (some ⟨g, 0, none⟩) len0 c] u fun e w' => e = .returned (.tuple #[.int .i64 (l : Int), .int .i64 er]) ∧ Bw u w') := fun u g c M hu he hl' => by
    have hml : M.length = len0 := by have := congrArg List.length he; rwa [Tr.its_len, Tr.its_len, HNL.out] at this
    have := pksize_any (some ⟨g, 0, none⟩) c M (by omega) (by have := hl'.room; omega) u hl'.its (HK.out.keep hu)
    rw [hml, he, hR.out] at this
    dsimp only at this
    rwa [hl.out] at this
  have HRf : Hid (∀ u, Bw w u → Calls Tryz.prog 11 #[.slice a0 len0 cap0] u fun e w' => (∃ A c', e = .returned (.tuple #[.slice A l c', .int .i64 (i : Int), .int .i64 er]) ∧ RowAt w' A l (Hd.rowF B)) ∧ Bw u w') := fun u hu => by
    have := rwrite_any a0 cap0 L0 (by rw [HNL.out]; omega) (by rw [HNL.out]; exact hle) u (HI.out.keep hu)
    rw [HNL.out] at this
    refine this.mono fun e w' ⟨⟨v, h1, h2⟩, h3⟩ => ⟨?_, h3⟩
    rw [hR.out] at h1 h2
    obtain ⟨A, c', rfl, hr, -⟩ := own_rowat12 h2
    dsimp only at h1 hr
    rw [hl.out] at h1 hr
    exact ⟨A, c', h1, hr⟩
  have HSa : Hid (∀ (A C : Option Addr) (ca cb : Nat) (u : World), RowAt u A l (Hd.rowF B) → RowAt u C l (Hd.rowF B) → Calls Tryz.prog 12 #[.slice A l ca, .slice C l cb] u fun e w' => e = .returned (.bool true) ∧ Bw u w') := fun A C ca cb u h1 h2 => by
    refine (same12_any A C l l ca cb _ _ (by omega) (by omega) u h1 h2).mono fun e w' ⟨ht, q, hq⟩ => ⟨?_, bw_of_drew hq⟩
    obtain ⟨x, rfl, hx⟩ := ht
    rw [hx.2 ⟨rfl, fun _ _ => rfl⟩]
  have HKept : Hid (∀ u g c M, Bw w u → Tr.its M = Tr.its L0 → LentAt u g c M → Calls Tryz.prog 13 #[.slice (some ⟨g, 0, none⟩) len0 c, .slice a0 len0 cap0] u fun e w' => e = .returned (.bool true) ∧ Bw u w') := fun u g c M hu he hl => by
    have := kept12_any g c cap0 a0 M L0 (by rw [HNL.out]; omega) he u hl (HI.out.keep hu)
    rwa [HNL.out] at this
  clear hlen hits hnil
  go_enter Tryz.func3, Tryz.ntmps3
  go_wp2_with (first
    | (go_at_call 8; refine (HLent.out _ (Bw.refl _)).mono ?_; rintro e w1 ⟨g1, c1, M1, rfl, he1, hl1, -, hw1⟩)
    | (go_at_call 9; refine (HW.out _ g1 c1 M1 hw1 he1 hl1).mono ?_; rintro e w2 ⟨⟨A2, c2, rfl, hr2⟩, hw2⟩; have hb2 := hw1.trans hw2)
    | (go_at_call 10; refine (HSz.out _ g1 c1 M1 hb2 he1 (hl1.keep hw2)).mono ?_; rintro e w3 ⟨rfl, hw3⟩; have hb3 := hb2.trans hw3)
    | (go_at_call 11; refine (HRf.out _ hb3).mono ?_; rintro e w4 ⟨⟨A4, c4, rfl, hr4⟩, hw4⟩; have hb4 := hb3.trans hw4)
    | (go_at_call 12; refine (HSa.out A2 A4 c2 c4 _ (hr2.keep (hw3.trans hw4)) hr4).mono ?_; rintro e w5 ⟨rfl, hw5⟩; have hb5 := hb4.trans hw5)
    | (go_at_call 13; refine (HKept.out _ g1 c1 M1 hb5 he1 ((((hl1.keep hw2).keep hw3).keep hw4).keep hw5)).mono ?_; rintro e w6 ⟨rfl, hw6⟩))
  go_ret
  exact ⟨rfl, hb5.trans hw6⟩

set_option maxRecDepth 100000 in
theorem lifted (os : Os) (started : os.Started) (H : Type) (enc : TypeId × Value → H) :
    ReturnsInHanded {} Tryz.checked os 3 .any (fun w args => (Rows.packWritesSpec.pre enc Tryz.prog Tryz.f3 [] false w args ∧ laidMetH Tryz.prog laidKT w) ∧ sizedMet enc Tryz.prog Tryz.f3 (OpenSpec.ofChange Rows.packWritesSpec) false w args)
      (Rows.packWritesSpec.post enc Tryz.prog Tryz.f3 false true false false) := by
  refine returnsInHanded_of_change_and (C := Tryz.checked) (X := fun w _ => laidMetH Tryz.prog laidKT w) (fun _ _ _ hh h => h.of_heap hh) own started (by kernel_rfl) Tryz.func3
    (ChangeSpec.witness_shaped (enc := enc) (C := Tryz.checked) (os := os) (X := fun w _ => laidMetH Tryz.prog laidKT w) false (World.doorLaid Tryz.prog 400 os) #[.slice none 0 0] 8 rfl (World.shaped_of_RefB (by kernel_rfl) (by kernel_rfl)) (by kernel_rfl) (by kernel_rfl) (by kernel_rfl) (door_metKT os _)) ?_
  intro W base args ds gs before hval0 hW hcnd hsz0 hL _
  have hval : ∀ (j : Nat) t v, Tryz.f3.params[j]? = some t → args[j]? = some v → Value.okWide Tryz.prog W .any base t v := hval0
  have hW' := hW
  obtain ⟨p, q, hA0, hV, rfl, hfz, hnd⟩ := hW
  have hA : DataW.TrodAll enc Tryz.prog W 0 (fun _ => true) true Tryz.f3.params.toList args.toList ds p := hA0
  have hsz : (DataW.weightsEach Tryz.prog (Tryz.f3.params.toList ++ Rows.packWritesSpec.plain.varTypes Tryz.prog) (ds ++ gs)).all (· ≤ reachBytes) = true := hsz0
  have hkat := ktat_of_laid hL
  rw [Tryz.params3] at hA hval hsz
  obtain ⟨v0, vs0, d0, ds0, p0, q0, hargs, rfl, rfl, h0, r0⟩ := trodAll_cons hA
  obtain ⟨rfl, rfl, rfl⟩ := trodAll_nil r0
  obtain rfl : args = #[v0] := by cases args; simp_all
  obtain ⟨rfl, rfl⟩ := trodVars_none hV
  obtain ⟨a0, len0, cap0, rfl⟩ := okWide_slice Tryz.underlying22 (hval 0 22 v0 rfl rfl)
  have k0 := h0
  have lt0 : ∀ x ∈ p0, x.block < W.heap.size := by obtain ⟨m, hm⟩ := k0; exact DataW.trod_lt m _ _ _ hm
  obtain ⟨L0, w0⟩ := open_its h0 (fun x hx => by simpa using List.all_eq_true.1 hsz x (DataW.weights_mem_each (j := 0) (t := 22) rfl rfl x hx))
  clear hA0 hval0
  refine (walk a0 len0 cap0 L0 W hkat w0).mono fun e W' ⟨he, bel⟩ => ?_
  subst he
  exact ⟨_, rfl, _, _, _, [], _, [], hW', trodAll_mk1 (shut_bool Tryz.underlying4 _), (trodAll_cons_mk (Below.trod laidOut (by kernel_rfl) (of_decide_eq_true (by kernel_rfl)) k0 bel lt0) trodAll_mk0), rfl, bel.frame _, fun h => by cases h⟩

theorem over : Rows.packWritesRow.holds Tryz.pinned (OpenSpec.ofChange Rows.packWritesSpec) :=
  OpenClaim.holds_of_wide 3 Tryz.f3 rfl rfl rfl rfl rfl rfl rfl ⟨rfl, rfl, rfl, rfl, rfl⟩ rfl rfl rfl rfl rfl (by kernel_rfl) Tryz.func3 (by kernel_rfl)
    (of_decide_eq_true (by kernel_rfl)) (by unfold Func.isWrapper; first | (rw [if_pos (by decide +kernel)]; kernel_rfl) | (rw [if_neg (by decide +kernel)]; exact ⟨rfl, rfl⟩))
    (fun os started H enc _ => lifted os started H enc)

theorem proved : Rows.PackWritesCardSaid :=
  Claim7.holds_tied_plain_at .later [] [.data, .data, .data, .data] true (true, "5492f5e41247cc02cc49d51610b3a1000faf02ce834e575e36ea9376324993ab") true
    over (fun _ h => by cases h) (by kernel_rfl) (fun _ h => by cases h) packWrites_row_tie rfl ⟨rfl, rfl⟩ (by kernel_rfl) rfl
    (fun f fn hf hfn => by
      obtain rfl : f = 3 := Option.some.inj ((show Tryz.prog.funcNamed "tabulary/tabularylaw12.PackWrites" = some 3 by kernel_rfl).symm.trans hf) |>.symm
      obtain rfl : fn = Tryz.f3 := (Option.some.inj (Tryz.func3.symm.trans hfn)).symm
      exact ⟨by kernel_rfl, fun j t ht => by
        rw [Tryz.params3] at ht
        have hm : t ∈ [22] := by simpa using Array.mem_of_getElem? ht
        have hall : ([22].all fun u => !Tryz.prog.wantsStandIn u) = true := by kernel_rfl
        exact (show Tryz.prog.wantsStandIn t = false by simpa using List.all_eq_true.1 hall t hm)⟩)
    (by kernel_rfl)
#print axioms proved
end Go.Proofs.YtldkhbkgmiicbaaGreatDoor.packWrites
