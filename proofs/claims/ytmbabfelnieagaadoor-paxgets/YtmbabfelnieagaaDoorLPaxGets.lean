/- Proved: for any bytes the statement PaxGets answers true (the document's P9.4 and P9.10: every Get, the place and the error). -/
import Derived.Test.YtmbabfelnieagaaDoorBV
import Derived.Test.YtmbabfelnieagaaDoorFx
import Derived.Test.YtmbabfelnieagaaDoorCards
import Derived.Test.YtmbabfelnieagaaDoorTie
import Derived.ShutString
import Derived.ChangeOld
import Derived.SevenTiedAt
namespace Go.Proofs.YtmbabfelnieagaaDoor.paxGets
open Go.ChangeShapes Go.WideShapes Go.ChangeAt Go.RowKit Go.Deep
set_option linter.unusedVariables false

set_option linter.unusedSimpArgs false
open Go.Deep
set_option maxRecDepth 100000 in
set_option maxHeartbeats 4000000 in
theorem walk (a0 : Option Addr) (len0 cap0 : Nat) (f0 : Nat → Int) (w : World) (hk : KAt w) (w0 : InRow w a0 len0 cap0 f0) :
    Calls Tryd.prog 5 #[.slice a0 len0 cap0] w fun e w' => e = .returned (.bool true) ∧ Below w.heap.size w w' := by
  have HK : Hid (KAt w) := hk
  clear hk
  obtain ⟨b, hb, hrow⟩ := rowat_list w0.row
  have hle := w0.le
  have hroom := w0.room
  have HR0 : Hid (RowAt w a0 b.length (Px.rowF b)) := hrow
  have HBL : Hid (b.length = len0) := hb
  have HNil : Hid (a0 = none → cap0 = 0) := w0.nil
  clear hb hrow
  obtain ⟨i0, hi0, hz0, hz1, hz2⟩ := info_parts info_u8
  obtain ⟨r, i, er, hR⟩ : ∃ r i er, Hid (Px.getF b 0 [] = (r, i, er)) := ⟨_, _, _, show Px.getF b 0 [] = _ from rfl⟩
  have heb : er ≤ 100 := by have := Px.get_er _ b 0 [] (Nat.le_refl _); rw [hR.out] at this; exact this
  have hib : i ≤ len0 := by have := Px.get_place b; rw [hR.out, HBL.out] at this; exact this
  have hrl : r.length ≤ 64 := by have := Px.get_len b; rw [hR.out] at this; exact this
  obtain ⟨l, hl⟩ : ∃ l, Hid (r.length = l) := ⟨_, rfl⟩
  have HB : Hid (∀ (A B : Option Addr) (ca cb : Nat) (u : World), PrsAt u A r → PrsAt u B r → Calls Tryd.prog 19 #[.slice A l ca, .slice B l cb] u fun e w' => e = .returned (.bool true) ∧ ∃ q, w' = u.drewN q) := fun A B ca cb u h1 h2 => by
    have := pairs9_any A B ca cb r r (by omega) (by omega) u h1 h2
    rw [hl.out, decide_eq_true rfl] at this
    exact this
  have HBy : Hid (∀ (A B : Option Addr) (ca cb : Nat) (u : World), RowAt u A b.length (Px.rowF b) → RowAt u B b.length (Px.rowF b) → Calls Tryd.prog 12 #[.slice A len0 ca, .slice B len0 cb] u fun e w' => e = .returned (.bool true) ∧ ∃ q, w' = u.drewN q) := fun A B ca cb u h1 h2 => by
    have := bytes9_any A B ca cb b b (by rw [HBL.out]; omega) (by rw [HBL.out]; omega) u h1 h2
    rw [HBL.out, decide_eq_true rfl] at this
    exact this
  have HP : Hid (∀ u A c, KAt u → RowAt u A b.length (Px.rowF b) → len0 ≤ c → Calls Tryd.prog 17 #[.slice A len0 c] u fun e w' => GetSays b e w' ∧ Bw u w') := fun u A c hku h hc => by
    have := pget_any A c b (by rw [HBL.out]; omega) (by rw [HBL.out]; exact hc) u hku h
    rw [HBL.out] at this
    exact this
  have HRf : Hid (∀ u, RowAt u a0 b.length (Px.rowF b) → Calls Tryd.prog 18 #[.slice a0 len0 cap0] u fun e w' => GetSays b e w' ∧ Bw u w') := fun u h => by
    have := rget_says a0 cap0 b (by rw [HBL.out]; omega) (by rw [HBL.out]; exact hle) u h
    rw [HBL.out] at this
    exact this
  have l0 : (0 : Int) ≤ (len0 : Int) := Int.natCast_nonneg _
  go_enter Tryd.func5, Tryd.ntmps5
  go_wp2_with (first
    | (at_builtin; refine wpList_append_rowat _ (by rfl) (.tmp 10) (.tmp 11) _ (by rfl) w.heap.size 5 i0 _ 1 Tryd.underlying24 hi0 hz0 hz1 hz2 rfl _ _ _ (by rfl) (World.ownsRow_nil w _ _ _) a0 len0 cap0 (Px.rowF b) (by rfl) (by rw [← HBL.out]; exact HR0.out) HNil.out (by unfold maxLen; omega) (by omega) (Nat.le_refl _) ?_; intro v1 w1 hown1 hgrow1; simp only [Nat.zero_add, List.nil_append] at hown1; have hb1 : Bw w w1 := bw_grow hgrow1 (Bw.refl w) (Nat.le_refl _) (World.ownsRow_nil w w.heap.size 5 1))
    | (at_builtin; refine wpList_append_lies _ (by rfl) (.tmp 13) (.tmp 14) _ (by rfl) w.heap.size 5 i0 _ 1 1 Tryd.underlying24 hi0 hz0 hz1 hz2 rfl (by omega) _ _ _ (by rfl) (hown1.alloc _) ⟨w1.heap.size, 0, none⟩ 1 1 [_] (by rfl) (by rfl) (World.news_of_block (cs := #[_]) (t := 5) (fr := (0, 0)) (heap_alloc_new w1 _)) (by simp [Value.oneCell']) (by omega) (by unfold maxLen; omega) (by omega) (by have := hb1.size; simp; omega) (w1.heap.size + 1) (by simp) ?_; intro g c w4 hown4 hgrow4 hat4 hlt4; have hw1 : Bw w w4 := bw_grow hgrow4 (hb1.alloc hb1.size _) (by have := hb1.size; rw [size_alloc]; omega) (hown1.alloc _); obtain ⟨hcap4, hg4⟩ := own_room9 hown4))
  have hown5 : w4.ownsRow w.heap.size 5 1 (.slice (some ⟨g, 0, none⟩) (len0 + 1) c) (b ++ [201]).length (Px.cellsB (b ++ [201])) := by
    rw [List.length_append, HBL.out, Px.cellsB_append, ← Px.cellsU_rowF b, HBL.out]
    exact hown4
  obtain ⟨A5, c5, hv5, _, hrow5⟩ := rowis_own hown5
  obtain rfl : A5 = some ⟨g, 0, none⟩ := by injection hv5 with h1 h2 h3; exact h1.symm
  clear hv5
  have HIN : Hid (RowAt w4 (some ⟨g, 0, none⟩) b.length (Px.rowF b)) := hrow5.front
  have hmk : Hid (∀ W, Bw w4 W → W.cell? ⟨g, len0, none⟩ = some (.int .u8 201)) := fun W h => by
    obtain ⟨b', o', e', hc'⟩ := (hrow5.keep h).at (k := len0) (by rw [List.length_append, HBL.out]; simp)
    cases e'
    have := hc' len0 (by rw [List.length_append, HBL.out]; simp)
    rw [Nat.zero_add, Px.rowF_at (c := 201) (by rw [List.getElem?_append_right (by rw [HBL.out]; exact Nat.le_refl _), HBL.out, Nat.sub_self]; rfl)] at this
    exact this
  clear hown4 hown5 hrow5 hown1 hgrow1 hgrow4 hat4
  go_wp2_with (first
    | (go_at_call 17; refine (HP.out _ _ c (HK.out.keep (by repeat (first | assumption | (apply Bw.trans; assumption)))) HIN.out (by omega)).mono ?_; rintro e w2 ⟨⟨v, rfl, hv⟩, hw2⟩; rw [hR.out] at hv ⊢; (try dsimp only at hv); obtain ⟨A, ca, rfl, hca, hra⟩ := hv; rw [hl.out])
    | (go_at_call 18; refine (HRf.out _ (HR0.out.keep (hw1.trans hw2))).mono ?_; rintro e w3 ⟨⟨v, rfl, hv⟩, hw3⟩; rw [hR.out] at hv ⊢; (try dsimp only at hv); obtain ⟨B, cb, rfl, hcb, hrb⟩ := hv; rw [hl.out])
    | (go_at_call 19; refine (HB.out A B ca cb _ (hra.keep hw3) hrb).mono ?_; rintro e w5 ⟨rfl, q5, hq5⟩; have hw5 := bw_of_drew hq5; clear hq5)
    | (go_at_call 12; refine (HBy.out _ _ _ _ _ (HIN.out.keep (hw2.trans (hw3.trans hw5))) (HR0.out.keep (hw1.trans (hw2.trans (hw3.trans hw5))))).mono ?_; rintro e w6 ⟨rfl, q6, hq6⟩; have hw6 := bw_of_drew hq6; clear hq6; have hm6 := hmk.out w6 (hw2.trans (hw3.trans (hw5.trans hw6)))))
  go_ret
  exact ⟨rfl, hw1.trans (hw2.trans (hw3.trans (hw5.trans hw6)))⟩

set_option maxRecDepth 100000 in
theorem lifted (os : Os) (started : os.Started) (H : Type) (enc : TypeId × Value → H) :
    ReturnsInHanded {} Tryd.checked os 5 .any (fun w args => (Rows.paxGetsSpec.pre enc Tryd.prog Tryd.f5 [] false w args ∧ laidMetH Tryd.prog laidK w) ∧ sizedMet enc Tryd.prog Tryd.f5 (OpenSpec.ofChange Rows.paxGetsSpec) false w args)
      (Rows.paxGetsSpec.post enc Tryd.prog Tryd.f5 false true false false) := by
  refine returnsInHanded_of_change_and (C := Tryd.checked) (X := fun w _ => laidMetH Tryd.prog laidK w) (fun _ _ _ hh h => h.of_heap hh) own started (by kernel_rfl) Tryd.func5
    (ChangeSpec.witness_shaped (enc := enc) (C := Tryd.checked) (os := os) (X := fun w _ => laidMetH Tryd.prog laidK w) false (World.doorLaid Tryd.prog 400 os) #[.slice none 0 0] 8 rfl (World.shaped_of_RefB (by kernel_rfl) (by kernel_rfl)) (by kernel_rfl) (by kernel_rfl) (by kernel_rfl) (door_met os _)) ?_
  intro W base args ds gs before hval0 hW hcnd hsz0 hL _
  have hval : ∀ (j : Nat) t v, Tryd.f5.params[j]? = some t → args[j]? = some v → Value.okWide Tryd.prog W .any base t v := hval0
  have hW' := hW
  obtain ⟨p, q, hA0, hV, rfl, hfz, hnd⟩ := hW
  have hA : DataW.TrodAll enc Tryd.prog W 0 (fun _ => true) true Tryd.f5.params.toList args.toList ds p := hA0
  have hsz : (DataW.weightsEach Tryd.prog (Tryd.f5.params.toList ++ Rows.paxGetsSpec.plain.varTypes Tryd.prog) (ds ++ gs)).all (· ≤ reachBytes) = true := hsz0
  have hkat := kat_of_laid hL
  rw [Tryd.params5] at hA hval hsz
  obtain ⟨v0, vs0, d0, ds0, p0, q0, hargs, rfl, rfl, h0, r0⟩ := trodAll_cons hA
  obtain ⟨rfl, rfl, rfl⟩ := trodAll_nil r0
  obtain rfl : args = #[v0] := by cases args; simp_all
  obtain ⟨rfl, rfl⟩ := trodVars_none hV
  obtain ⟨a0, len0, cap0, rfl⟩ := okWide_slice Tryd.underlying24 (hval 0 24 v0 rfl rfl)
  have k0 := h0
  have lt0 : ∀ x ∈ p0, x.block < W.heap.size := by obtain ⟨m, hm⟩ := k0; exact DataW.trod_lt m _ _ _ hm
  obtain ⟨f0, w0⟩ := open_bytes h0 (fun x hx => by simpa using List.all_eq_true.1 hsz x (DataW.weights_mem_each (j := 0) (t := 24) rfl rfl x hx))
  clear hA0 hval0
  refine (walk a0 len0 cap0 f0 W hkat w0).mono fun e W' ⟨he, bel⟩ => ?_
  subst he
  exact ⟨_, rfl, _, _, _, [], _, [], hW', trodAll_mk1 (shut_bool Tryd.underlying4 _), (trodAll_cons_mk (Below.trod laidOut (by kernel_rfl) (of_decide_eq_true (by kernel_rfl)) k0 bel lt0) trodAll_mk0), rfl, bel.frame _, fun h => by cases h⟩

theorem over : Rows.paxGetsRow.holds Tryd.pinned (OpenSpec.ofChange Rows.paxGetsSpec) :=
  OpenClaim.holds_of_wide 5 Tryd.f5 rfl rfl rfl rfl rfl rfl rfl ⟨rfl, rfl, rfl, rfl, rfl⟩ rfl rfl rfl rfl rfl (by kernel_rfl) Tryd.func5 (by kernel_rfl)
    (of_decide_eq_true (by kernel_rfl)) (by unfold Func.isWrapper; first | (rw [if_pos (by decide +kernel)]; kernel_rfl) | (rw [if_neg (by decide +kernel)]; exact ⟨rfl, rfl⟩))
    (fun os started H enc _ => lifted os started H enc)

theorem proved : Rows.PaxGetsCardSaid :=
  Claim7.holds_tied_plain_at .later [] [.data, .data, .data] true (true, "8d609f7f5d6121d0bdfa4a950c82c9eb40796584ba27f9101fab04311bde18cd") true
    over (fun _ h => by cases h) (by kernel_rfl) (fun _ h => by cases h) paxGets_row_tie rfl ⟨rfl, rfl⟩ (by kernel_rfl) rfl
    (fun f fn hf hfn => by
      obtain rfl : f = 5 := Option.some.inj ((show Tryd.prog.funcNamed "tabulary/tabularylaw09.PaxGets" = some 5 by kernel_rfl).symm.trans hf) |>.symm
      obtain rfl : fn = Tryd.f5 := (Option.some.inj (Tryd.func5.symm.trans hfn)).symm
      exact ⟨by kernel_rfl, fun j t ht => by
        rw [Tryd.params5] at ht
        have hm : t ∈ [24] := by simpa using Array.mem_of_getElem? ht
        have hall : ([24].all fun u => !Tryd.prog.wantsStandIn u) = true := by kernel_rfl
        exact (show Tryd.prog.wantsStandIn t = false by simpa using List.all_eq_true.1 hall t hm)⟩)
    (by kernel_rfl)
#print axioms proved
end Go.Proofs.YtmbabfelnieagaaDoor.paxGets
