/- Layer 15: the statements' own step. -/
import Derived.Test.YtppknadflmjefaaWT
namespace Go.Proofs.Ytppknadflmjefaa
open Go.RowKit Go.Deep Go.Maps
set_option linter.unusedVariables false
set_option linter.unusedSimpArgs false

def Ac15.recs (x : Ac15) : List (List Nat) := recs15 x.n x.Lm x.Z
def Ac15.vls (x : Ac15) : List Value := vals15 x.n x.R x.Lm x.Cm
def stepP (x : Ac15) (J : Jl.Jn) (S : Dsk) : Int × Dsk × Jl.Jn := if x.do_ = 1 then Jl.rew J S x.recs else Jl.add J S x.recs
def stepL (x : Ac15) (J : Jl.Jn) : List (List Nat) := if x.do_ = 1 then x.recs else J.L ++ x.recs
/-- how step ends -/
def StepV (base gj g lb gm : Nat) (R : Nat → Prop) (v : Value) (x : Ac15) (J : Jl.Jn) (S : Dsk) (w : World) (e : Ending) (w' : World) : Prop :=
  ∃ A n c us v', e = .returned (.tuple #[.slice A n c, .int .i64 (stepP x J S).1]) ∧ MatV w' A n us (stepL x J) ∧ n ≤ 5000000 ∧ (∀ b, ArgIn A n us b → b < base ∨ w.heap.size ≤ b) ∧ DiskAt w' g lb gm (stepP x J S).2.1 ∧ JrAt w' base gj g (fun b => R b ∨ w.heap.size ≤ b) v' (stepP x J S).2.2 ∧ Bx (fun b => dIn g lb gm b ∨ jIn gj v b) w w'
set_option maxRecDepth 100000 in
set_option maxHeartbeats 4000000 in
theorem step_any {w : World} {base gj g lb gm : Nat} {R : Nat → Prop} {v : Value} {J : Jl.Jn} {S : Dsk} (h : JrAt w base gj g R v J) (hd : DiskAt w g lb gm S) (hR : ∀ b, R b → ¬ dIn g lb gm b) (hin : J.r0 + J.rc ≤ S.n) (hfw : J.Few) (x : Ac15) (hx : AcIn15 w x) (ht : x.tot ≤ 32768) (hArg : ∀ b, ArgIn x.A x.n x.vls b → b < base) (hge : ∀ b, dIn g lb gm b → base ≤ b) :
    Calls Try.prog 26 #[.pointer (some ⟨gj, 0, none⟩), .agg x.vals.toArray] w fun e w' => StepV base gj g lb gm R v x J S w e w' := by
  have hM := hx.mat.matV
  have hn : x.n ≤ 32768 := by unfold Ac15.tot at ht; omega
  have hpk : (Jl.packed x.recs).length ≤ 1000000 := by unfold Ac15.recs; rw [packed_recs]; unfold Ac15.tot at ht; omega
  have hAr : ∀ b, ArgIn x.A x.n x.vls b → ¬ (dIn g lb gm b ∨ jIn gj v b) := fun b hb hi => by
    have h1 := hArg b hb
    rcases hi with hi | hi
    · have := hge b hi; omega
    · have := h.jge b hi; omega
  have HRc := jrecords_any h
  obtain ⟨z, hz⟩ : ∃ z, Hid (w.heap.size = z) := ⟨_, rfl⟩
  obtain ⟨W1, hW1⟩ : ∃ W, Hid (w.alloc (.cells x.vals.toArray 44) = W) := ⟨_, rfl⟩
  have hb1 : Bw w W1 := by rw [← hW1.out]; exact Below.alloc (Bw.refl _) (Nat.le_refl _) _
  have hg1 : W1.heap[z]? = some (.cells x.vals.toArray 44 (0, 0)) := by rw [← hW1.out, ← hz.out]; exact heap_alloc_new _ _
  have hzj : ¬ (dIn g lb gm z ∨ jIn gj v z) := fun hi => by
    rcases hi with hi | hi
    · have := hd.low z hi; have := hz.out; omega
    · have := h.jlow z hi; have := hz.out; omega
  have HX : Hid (∀ W, Bx (fun b => dIn g lb gm b ∨ jIn gj v b) W1 W → W.cell? ⟨z, 0, none⟩ = some (.int .i64 x.do_) ∧ W.cell? ⟨z, 3, none⟩ = some (.slice x.A x.n x.ca) ∧ MatV W x.A x.n x.vls x.recs) := fun W k => by
    have hb := (k.block z (Array.getElem?_eq_some_iff.1 hg1).1 hzj).trans hg1
    exact ⟨cell_of_row W z 0 _ _ _ hb, cell_of_row W z 3 _ _ _ hb, (hM.keep hb1).keepx k (fun b o e h0 => hAr b (.inl ⟨o, e, h0⟩)) (fun u hu b o m c e h0 => hAr b (.inr ⟨u, hu, o, m, c, e, h0⟩))⟩
  have hnil := hx.mat.nil
  obtain ⟨c0, c3, hM1⟩ := HX.out W1 (Bx.refl _ _)
  have HRc1 := jrecords_any (h.keep hb1)
  obtain ⟨ln, hln⟩ : ∃ n, Hid (J.L.length = n) := ⟨_, rfl⟩
  rw [hln.out] at HRc1
  by_cases hdo : x.do_ = 1
  · have HRw : Hid (∀ W, Bw W1 W → Calls Try.prog 22 #[.pointer (some ⟨gj, 0, none⟩), .slice x.A x.n x.ca] W fun e w' => AddV base gj g lb gm R v (Jl.rew J S x.recs) W e w') := fun W k => jrew_any (h.keep (hb1.trans k)) (hd.keep (hb1.trans k)) hR hin x.ca (hM.keep (hb1.trans k)) (by omega) hpk hAr
    obtain ⟨P, hP⟩ : ∃ P, Hid (Jl.rew J S x.recs = P) := ⟨_, rfl⟩
    rw [hP.out] at HRw
    have hend : Hid (∀ W w', Bw W1 W → AddV base gj g lb gm R v P W (.returned (.int .i64 P.1)) w' → w'.cell? ⟨z, 3, none⟩ = some (.slice x.A x.n x.ca) ∧ Hid (StepV base gj g lb gm R v x J S w (.returned (.tuple #[.slice x.A x.n x.ca, .int .i64 P.1])) w')) := fun W w' k ha => by
      obtain ⟨v', _, a2, a3, a4, a5⟩ := ha
      obtain ⟨_, y3, yM⟩ := HX.out w' ((Bx.of_bw k).trans a4)
      have e1 : stepP x J S = P := by unfold stepP; rw [if_pos hdo, hP.out]
      have e2 : stepL x J = x.recs := by unfold stepL; rw [if_pos hdo]
      refine ⟨y3, x.A, x.n, x.ca, x.vls, v', by rw [e1], by rw [e2]; exact yM, by omega, fun b hb => .inl (hArg b hb), by rw [e1]; exact a2, ?_, (Bx.of_bw (hb1.trans k)).trans a4⟩
      rw [e1]
      exact a3.more (fun b hb => hb.elim .inl (fun hb => .inr (Nat.le_trans (hb1.trans k).size hb)))
    rw [hdo] at c0
    clear h hd hM hx hg1 HX
    go_enter Try.func26, Try.ntmps26
    go_wp2_with (first
      | rw [hW1.out, hz.out]
      | (go_at_call 20; refine HRc1.mono ?_; rintro e w2 ⟨g2, us2, rfl, ho2, hr2, hi2, hb2⟩; have d0 := (hb2.cell (p := ⟨z, 0, none⟩) (block_lt_of_cell c0)).trans c0; have d3 := (hb2.cell (p := ⟨z, 3, none⟩) (block_lt_of_cell c3)).trans c3)
      | (go_at_call 22; refine (HRw.out w2 hb2).mono ?_; intro e w3 ha; have ha' := ha; obtain ⟨v3, e3, -⟩ := ha'; subst e3; obtain ⟨y3, hf3⟩ := hend.out w2 w3 hb2 ha; clear ha))
    go_ret2
    exact hf3.out
  · have q1 : (x.do_ == 1) = false := by simp [hdo]
    have HAd : Hid (∀ W, Bw W1 W → Calls Try.prog 21 #[.pointer (some ⟨gj, 0, none⟩), .slice x.A x.n x.ca] W fun e w' => AddV base gj g lb gm (fun b => R b ∧ b < w.heap.size) v (Jl.add J S x.recs) W e w') := fun W k => jadd_any (h.low.keep (hb1.trans k)) (hd.keep (hb1.trans k)) (fun b hb => hR b hb.1) hin hfw x.ca (hM.keep (hb1.trans k)) (by omega) hpk hAr
    obtain ⟨P, hP⟩ : ∃ P, Hid (Jl.add J S x.recs = P) := ⟨_, rfl⟩
    rw [hP.out] at HAd
    have hfew : ln ≤ 4000000 := by rw [← hln.out]; exact h.ok.few
    have hend : Hid (∀ w2 w3 g2 us2, w2.ownsRow W1.heap.size 37 1 (.slice (some ⟨g2, 0, none⟩) ln ln) ln us2 → RowsV w2 us2 J.L → RIn (fun b => W1.heap.size ≤ b) us2 → Bw W1 w2 → AddV base gj g lb gm (fun b => R b ∧ b < w.heap.size) v P w2 (.returned (.int .i64 P.1)) w3 →
        w3.cell? ⟨z, 3, none⟩ = some (.slice x.A x.n x.ca) ∧ w3.ownsRow W1.heap.size 37 1 (.slice (some ⟨g2, 0, none⟩) ln ln) ln us2 ∧ MatV w3 x.A x.n x.vls x.recs ∧ W1.heap.size ≤ w3.heap.size ∧
        Hid (∀ v4 w4, w4.ownsRow W1.heap.size 37 1 v4 (ln + x.n) (us2 ++ x.vls) → w3.grownBy w4 (Value.slice (some ⟨g2, 0, none⟩) ln ln).ownBlock → ∃ A4 c4, v4 = .slice A4 (ln + x.n) c4 ∧ Hid (StepV base gj g lb gm R v x J S w (.returned (.tuple #[.slice A4 (ln + x.n) c4, .int .i64 P.1])) w4))) := fun w2 w3 g2 us2 ho hr hi k ha => by
      obtain ⟨v', _, a2, a3, a4, a5⟩ := ha
      have kx := (Bx.of_bw k).trans a4
      obtain ⟨_, y3, yM⟩ := HX.out w3 kx
      have hsep : ∀ b, W1.heap.size ≤ b → ¬ (dIn g lb gm b ∨ jIn gj v b) := fun b hb hc => by
        have := hb1.size
        rcases hc with hc | hc
        · have := hd.low b hc; omega
        · have := h.jlow b hc; omega
      have ho3 := own_keepx15 ho a4 (fun b hb => hsep b (own_ge ho b hb))
      have hr3 := hr.keepx a4 (hi.mono hsep)
      refine ⟨y3, ho3, yM, kx.size, fun v4 w4 ho4 hg4 => ?_⟩
      have kx4 : Bx (fun b => b = g2) w3 w4 := (bx_grown hg4).more (fun b e => by simp only [Value.ownBlock, Option.some.injEq] at e; exact e.symm)
      have hg2 : W1.heap.size ≤ g2 := own_ge ho g2 rfl
      have hg2lt : g2 < w2.heap.size := by
        rcases ho.2 with ⟨e6, _⟩ | ⟨g6, cap6, cur6, e6, _, hg6, _⟩
        · cases e6
        · cases e6; exact (Array.getElem?_eq_some_iff.1 hg6).1
      have hg2m : ∀ u ∈ us2, VIn (fun b => b ≠ g2) u := fun u hu b o m c e h0 e' => by
        obtain ⟨i, hi5, rfl⟩ := List.getElem_of_mem hu
        have hi' : i < J.L.length := hr.1 ▸ hi5
        obtain ⟨A2, c2, e2, _, _, _, hr2⟩ := hr.2 i us2[i] (J.L[i]'hi') (List.getElem?_eq_getElem hi5) (List.getElem?_eq_getElem hi')
        rw [e2] at e
        cases e
        obtain ⟨b3, o3, e3, hc3⟩ := hr2.at h0
        cases e3
        have h5 := hc3 0 h0
        subst e'
        rcases ho.2 with ⟨e6, _⟩ | ⟨g6, cap6, cur6, e6, _, hg6, _, _, hs6, ht6⟩
        · cases e6
        · cases e6
          rw [cell_of_row w2 b _ cur6 _ _ hg6] at h5
          have hz5 : o + 0 < cur6.size := (Array.getElem?_eq_some_iff.1 h5).1
          have h6 : us2[o + 0]? = some (.int .u8 (Jl.rowL (J.L[i]'hi') 0)) := by
            rw [← ht6, List.getElem?_take, if_pos (by omega), Array.getElem?_toList]; exact h5
          have hol : o + 0 < J.L.length := by rw [← hr.1]; exact (List.getElem?_eq_some_iff.1 h6).1
          obtain ⟨A7, c7, e7, _⟩ := hr.2 (o + 0) _ (J.L[o + 0]'hol) h6 (List.getElem?_eq_getElem hol)
          cases e7
      have hxg : ∀ b, ArgIn x.A x.n x.vls b → b ≠ g2 := fun b hb e => by
        have h1 := hArg b hb
        have h2 := h.ge
        have h3 := h.lt
        have h4 := hb1.size
        omega
      have hrows : RowsV w4 (us2 ++ x.vls) (J.L ++ x.recs) := (hr3.keepx kx4 (fun u hu b o m c e h0 => hg2m u hu b o m c e h0)).append (yM.rows.keepx kx4 (fun u hu b o m c e h0 => hxg b (.inr ⟨u, hu, o, m, c, e, h0⟩)))
      obtain ⟨A4, c4, e4, _, _, hM4, hA4⟩ := mat_of_own ho4 hrows
      have e1 : stepP x J S = P := by unfold stepP; rw [if_neg hdo, hP.out]
      have e2 : stepL x J = J.L ++ x.recs := by unfold stepL; rw [if_neg hdo]
      have hgd2 : ¬ (dIn g lb gm g2 ∨ jIn gj v g2) := hsep g2 hg2
      have hlow2 : ∀ b, jIn gj v' b → b ≠ g2 := fun b hb e => by
        rcases hb with hb | hb
        · exact hgd2 (.inr (.inl (by omega)))
        · rcases a5 b hb with h5 | h5
          · exact hgd2 (.inr (.inr (by rw [← e]; exact h5)))
          · omega
      refine ⟨A4, c4, e4, A4, ln + x.n, c4, us2 ++ x.vls, v', by rw [e1], by rw [e2]; exact hM4, by omega, fun b hb => ?_, ?_, ?_, ?_⟩
      · rcases hb with ⟨o, e, h0⟩ | ⟨u, hu, o, m, c, e, h0⟩
        · exact .inr (Nat.le_trans hb1.size (hA4 _ e).1)
        · rcases List.mem_append.1 hu with hu | hu
          · exact .inr (Nat.le_trans hb1.size (hi u hu b o m c e h0))
          · exact .inl (hArg b (.inr ⟨u, hu, o, m, c, e, h0⟩))
      · rw [e1]
        exact a2.keepx kx4 (fun e => hgd2 (.inl (.inl e.symm))) (fun e => hgd2 (.inl (.inr (.inl e.symm)))) (fun e => hgd2 (.inl (.inr (.inr e.symm))))
      · rw [e1]
        refine (a3.keepx kx4 (fun e => hlow2 _ (.inl rfl) e) (fun b hb e => hlow2 b (.inr hb) e) (fun b hb e => ?_)).more (fun b hb => hb.elim (fun hb => .inl hb.1) (fun hb => .inr (Nat.le_trans (hb1.trans k).size hb)))
        have e' : b = g2 := e
        have := hb1.size
        rcases hb with hb | hb
        · have := hb.2; omega
        · have hb' : w2.heap.size ≤ b := hb; omega
      · exact ((Bx.of_bw (hb1.trans k)).trans a4).new kx4 (fun y hy e => by have := hb1.size; have e' : y = g2 := e; omega)
    clear hM hx hg1 h hd HX
    go_enter Try.func26, Try.ntmps26
    go_wp2_with (first
      | rw [hW1.out, hz.out]
      | (go_at_call 20; refine HRc1.mono ?_; rintro e w2 ⟨g2, us2, rfl, ho2, hr2, hi2, hb2⟩; have d0 := (hb2.cell (p := ⟨z, 0, none⟩) (block_lt_of_cell c0)).trans c0; have d3 := (hb2.cell (p := ⟨z, 3, none⟩) (block_lt_of_cell c3)).trans c3)
      | (go_at_call 21; refine (HAd.out w2 hb2).mono ?_; intro e w3 ha; have ha' := ha; obtain ⟨v3, e3, -⟩ := ha'; subst e3; obtain ⟨y3, yo, yM, ys, hf3⟩ := hend.out w2 w3 g2 us2 ho2 hr2 hi2 hb2 ha; clear ha)
      | (at_builtin; refine wpList_append_mat (by rfl) _ _ (by rfl) W1.heap.size _ ln us2 (by rfl) yo x.A x.n x.ca x.vls x.recs (by rfl) yM hnil (by omega) ys ?_; intro v4 w4 ho4 hg4; obtain ⟨A4, c4, e4, hf4⟩ := hf3.out v4 w4 ho4 hg4; subst e4))
    go_ret2
    exact hf4.out
end Go.Proofs.Ytppknadflmjefaa
