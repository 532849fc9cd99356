/- Layer 15: the document's Add. -/
import Derived.Test.YtppknadflmjefaaQh
namespace Go.Proofs.Ytppknadflmjefaa
open Go.RowKit Go.Deep Go.Maps
set_option linter.unusedVariables false
set_option linter.unusedSimpArgs false

/-- how Add and Rewrite end -/
def RAddV (base gj g cb cap : Nat) (R : Nat → Prop) (v : Value) (P : Int × Dsk × Jl.Jn) (w : World) (e : Ending) (w' : World) : Prop := ∃ v', e = .returned (.int .i64 P.1) ∧ (∃ LV WV, RefAt w' g cb cap LV WV P.2.1) ∧ RjAt w' base gj g (fun b => R b ∨ w.heap.size ≤ b) v' P.2.2 ∧ Bx (fun b => rIn g cb b ∨ jIn gj v b) w w' ∧ (∀ b, v'.ownBlock = some b → v.ownBlock = some b ∨ w.heap.size ≤ b)
theorem raddV_same {w w' : World} {base gj g cb cap : Nat} {R : Nat → Prop} {v : Value} {J : Jl.Jn} {S : Dsk} (h : RjAt w base gj g R v J) (hd : ∃ LV WV, RefAt w g cb cap LV WV S) (E : Int) (k : Bw w w') : RAddV base gj g cb cap R v (E, S, J) w (.returned (.int .i64 E)) w' := by
  obtain ⟨LV, WV, hd⟩ := hd
  exact ⟨v, rfl, ⟨LV, WV, hd.keep k⟩, (h.keep k).more (fun b hb => .inl hb), Bx.of_bw k, fun b hb => .inl hb⟩
theorem raddV_put {w w' : World} {base gj g cb cap : Nat} {R : Nat → Prop} {v : Value} {J : Jl.Jn} {P : Int × Dsk × Jl.Jn} {L : List (List Nat)} {W : World} {e : Ending} (hb : Bw w W) (h : RPutV base gj g cb cap R v P W e w') (hE : P.1 ≠ 0) : RAddV base gj g cb cap R v (Jl.withL J P L) w e w' := by
  obtain ⟨h1, h2, h3, h4⟩ := h
  refine ⟨v, h1, h2, ?_, (Bx.of_bw hb).trans (h4.more (fun b hb => hb.imp id (fun e => .inl e))), fun b hb => .inl hb⟩
  unfold Jl.withL
  rw [if_neg hE]
  exact h3.more (fun b hb => .inl hb)
/-- how far the records have come -/
structure AddLoop (w0 : World) (base gj g cb cap : Nat) (R : Nat → Prop) (v0 v : Value) (J : Jl.Jn) (S : Dsk) (A : Option Addr) (n : Nat) (vs : List Value) (L : List (List Nat)) (k : Nat) (w : World) : Prop where
  d : ∃ LV WV, RefAt w g cb cap LV WV S
  j : RjAt w base gj g (fun b => R b ∨ w0.heap.size ≤ b) v { J with L := J.L ++ L.take k }
  m : MatV w A n vs L
  bx : Bx (fun b => rIn g cb b ∨ jIn gj v0 b) w0 w
  ow : ∀ b, v.ownBlock = some b → v0.ownBlock = some b ∨ w0.heap.size ≤ b
theorem bw_allocx {w W : World} (h : Bw w W) {o : Obj} : Bw w (W.alloc o) := h.trans (Below.alloc (Bw.refl _) (Nat.le_refl _) _)
set_option maxRecDepth 100000 in
set_option maxHeartbeats 16000000 in
theorem rjadd15_any {w : World} {base gj g cb cap : Nat} {R : Nat → Prop} {v0 : Value} {J0 : Jl.Jn} {S0 : Dsk} (h : RjAt w base gj g R v0 J0) (hd : ∃ LV WV, RefAt w g cb cap LV WV S0) (hR : ∀ b, R b → ¬ rIn g cb b) (hin : J0.r0 + J0.rc ≤ S0.n) (hfw : J0.Few) {A : Option Addr} {n : Nat} (ca : Nat) {vs : List Value} {L : List (List Nat)} (hM : MatV w A n vs L) (hn : n ≤ 1000000) (hs : (Jl.packed L).length ≤ 1000000) (hAr0 : ∀ b, ArgIn A n vs b → ¬ (rIn g cb b ∨ jIn gj v0 b)) (hbase : base ≤ w.heap.size) :
    Calls Try.prog 32 #[.pointer (some ⟨gj, 0, none⟩), .slice A n ca] w fun e w' => RAddV base gj g cb cap R v0 (Jl.add J0 S0 L) w e w' := by
  obtain ⟨i0, hi0, hz0, hz1, hz2⟩ := info_parts info_row15
  have c7 := h.c7
  have hLn : Hid (L.length = n) := hM.lenL
  have HSame : Hid (∀ E u, Bw w u → RAddV base gj g cb cap R v0 (E, S0, J0) w (.returned (.int .i64 E)) u) := fun E u hu => raddV_same h hd E hu
  have HPk : Hid (Calls Try.prog 61 #[.slice A n ca] w fun e w' => PackedV w L e w') := rpacked15_any ca hM hn hs
  obtain ⟨P, hP⟩ : ∃ P, Hid (Jl.add J0 S0 L = P) := ⟨_, rfl⟩
  have hadd : Hid (P = if Jl.may J0 L (Jl.room J0.rc - J0.h.len) ≠ 0 then (Jl.may J0 L (Jl.room J0.rc - J0.h.len), S0, J0) else if L.length = 0 then (0, S0, J0) else Jl.withL J0 (Jl.put J0 S0 (Jl.packed L) J0.h.area J0.h.len) (J0.L ++ L)) := hP.out.symm
  rw [hP.out]
  clear hP
  by_cases hdd : J0.dead = true
  · have hp : P = (140, S0, J0) := by
      have e : Jl.may J0 L (Jl.room J0.rc - J0.h.len) = 140 := by unfold Jl.may; rw [hdd]; rfl
      rw [hadd.out, e]; rfl
    have hE := HSame.out 140 w (Bw.refl _)
    rw [← hp] at hE
    replace hE := (show Hid (RAddV base gj g cb cap R v0 P w (.returned (.int .i64 140)) w) from hE)
    rw [hdd] at c7
    clear h hd hM hdd hp hadd
    go_enter Try.func32, Try.ntmps32
    go_wp2
    go_ret
    exact hE.out
  · have hdf : J0.dead = false := by cases h1 : J0.dead; rfl; exact absurd h1 hdd
    rw [hdf] at c7
    have hmay : Hid (Jl.may J0 L (Jl.room J0.rc - J0.h.len) = if Jl.long L then 2 else if Jl.room J0.rc - J0.h.len < (Jl.packed L).length then 3 else 0) := by show _ = _; unfold Jl.may; rw [hdf]; rfl
    have HRm : Hid (∀ u, Bw w u → Calls Try.prog 59 #[.pointer (some ⟨gj, 0, none⟩)] u fun e w' => e = .returned (.int .i64 ((Jl.room J0.rc - J0.h.len : Nat) : Int)) ∧ Bw u w') := fun u ku => rroom15_any (h.keep ku)
    obtain ⟨N, hN⟩ : ∃ N, Hid ((Jl.packed L).length = N) := ⟨_, rfl⟩
    obtain ⟨rm, hrm⟩ : ∃ N, Hid (Jl.room J0.rc - J0.h.len = N) := ⟨_, rfl⟩
    rw [hrm.out] at HRm hmay hadd
    rw [hN.out] at hmay hs
    have hrmb : rm ≤ 2097152 := by have := hrm.out; have := Jl.room_le h.ok.rc; omega
    have HC : Hid (∀ u, Bw w u → u.cell? ⟨gj, 3 + 1, none⟩ = some (.int .i64 (J0.h.area : Int)) ∧ u.cell? ⟨gj, 5, none⟩ = some (.int .i64 (J0.h.len : Int))) := fun u ku => ⟨(h.keep ku).c4, (h.keep ku).c5⟩
    have HW : Hid (∀ u B c, Bw w u → RowAt u B (Jl.packed L).length (Jl.rowL (Jl.packed L)) → (∀ b o, B = some ⟨b, o, none⟩ → 0 < (Jl.packed L).length → w.heap.size ≤ b) → (B = none → c = 0) → N ≤ rm → Calls Try.prog 62 #[.pointer (some ⟨gj, 0, none⟩), .int .i64 (J0.h.area : Int), .int .i64 (J0.h.len : Int), .slice B N c] u fun e w' => RPutV base gj g cb cap R v0 (Jl.put J0 S0 (Jl.packed L) J0.h.area J0.h.len) u e w') := fun u B c ku hrow hBn hBc hle => by
      obtain ⟨LV, WV, hd2⟩ := hd
      have h1 := rjwrite15_any (h.keep ku) ⟨LV, WV, hd2.keep ku⟩ hR hin (Jl.packed L) B c hrow (fun b o e h0 hb => by
        have h2 := hBn b o e h0
        rcases hb with hb | hb
        · have := hd2.low b hb; omega
        · have := h.lt; omega) hBc J0.h.area J0.h.len h.ok.fit.2.1 (by have := hN.out; have := hrm.out; have := h.ok.fit.2.2; omega) hdf (by have := hN.out; omega)
      rw [hN.out] at h1
      exact h1
    have HX : Hid (RjAt w base gj g R v0 J0 ∧ (∃ LV WV, RefAt w g cb cap LV WV S0) ∧ MatV w A n vs L) := ⟨h, hd, hM⟩
    have hlow : Hid (∀ b, ArgIn A n vs b → b < w.heap.size) := fun b hb => by
      rcases hb with ⟨o, e, h0⟩ | ⟨u, hu, o, m, c, e, h0⟩
      · exact hM.low e h0
      · exact hM.rows.low u hu b o m c e h0
    have hJb : Hid (J0.L.length ≤ 2097152) := by have h1 := hfw; unfold Jl.Jn.Few at h1; have := h.ok.fit.2.2; have := Jl.room_le h.ok.rc; exact (by omega : J0.L.length ≤ 2097152)
    clear h hd hM hdd
    go_enter Try.func32, Try.ntmps32
    by_cases hlong : Jl.long L = true
    · have hE : Hid (∀ u, Bw w u → RAddV base gj g cb cap R v0 P w (.returned (.int .i64 2)) u) := fun u hu => by
        have hp : P = (2, S0, J0) := by rw [hadd.out, hmay.out, hlong]; rfl
        rw [hp]; exact HSame.out 2 u hu
      go_wp2_with (go_at_call 61; refine HPk.out.mono ?_; rintro e w2 ⟨hb2, hpk⟩; replace hpk : Hid _ := hpk; obtain rfl : e = .returned (.tuple #[.slice none 0 0, .bool false]) := (by rcases hpk.out with ⟨_, h2⟩ | ⟨h1, _⟩; exact h2; rw [hlong] at h1; cases h1))
      go_ret
      exact hE.out _ hb2
    · have hlf : Jl.long L = false := by cases h1 : Jl.long L; rfl; exact absurd h1 hlong
      have HPk2 : Hid (Calls Try.prog 61 #[.slice A n ca] w fun e w' => ∃ B c, e = .returned (.tuple #[.slice B N c, .bool true]) ∧ Hid (RowAt w' B (Jl.packed L).length (Jl.rowL (Jl.packed L)) ∧ (∀ b o, B = some ⟨b, o, none⟩ → 0 < (Jl.packed L).length → w.heap.size ≤ b) ∧ (B = none → c = 0)) ∧ Hid (Bw w w')) := by
        refine HPk.out.mono ?_
        rintro e w' ⟨hb, hpk⟩
        rcases hpk with ⟨h1, _⟩ | ⟨_, v, rfl, hown⟩
        · rw [hlf] at h1; cases h1
        · have hbyt : Jl.Byt (Jl.packed L) := Jl.packed_byt L HX.out.2.2.rows.byt (fun r hr => by
            by_cases h2 : r.length ≤ 65535
            · exact h2
            · have := (long_iff L).2 ⟨r, hr, by omega⟩; rw [hlf] at this; cases this)
          rw [← cellsL_of] at hown
          obtain ⟨B, c, e1, _, _, hrow, hB⟩ := row_of_own (Jl.rowL_bd hbyt) hown
          have hBc : B = none → c = 0 := fun e => by
            rcases hown.2 with ⟨e2, _⟩ | ⟨g', cap', cur, e2, _⟩
            · rw [e1] at e2; simp only [Value.slice.injEq] at e2; exact e2.2.2
            · rw [e1] at e2; simp only [Value.slice.injEq] at e2; rw [e] at e2; cases e2.1
          refine ⟨B, c, by rw [e1, hN.out], ⟨hrow, fun b o e h0 => (hB _ e).1, hBc⟩, hb⟩
      by_cases hfull : rm < N
      · have hE : Hid (∀ u, Bw w u → RAddV base gj g cb cap R v0 P w (.returned (.int .i64 3)) u) := fun u hu => by
          have hm3 : Jl.may J0 L rm = 3 := by have h1 := hmay.out; rw [hlf, if_neg (by decide), if_pos hfull] at h1; exact h1
          have hp : P = (3, S0, J0) := by rw [hadd.out, hm3]; rfl
          rw [hp]; exact HSame.out 3 u hu
        have d1 : (rm : Int) < (N : Int) := by omega
        clear hfull
        go_wp2_with (first
          | (go_at_call 61; refine HPk2.out.mono ?_; rintro e w2 ⟨B, c, rfl, hrow, hb2⟩)
          | (go_at_call 59; refine (HRm.out _ hb2.out).mono ?_; rintro e w3 ⟨rfl, hb3⟩))
        go_ret
        exact hE.out _ (hb2.out.trans hb3)
      · have d1 : ¬ (rm : Int) < (N : Int) := by omega
        have hm0 : Hid (Jl.may J0 L rm = 0) := by have h1 := hmay.out; rw [hlf, if_neg (by decide), if_neg hfull] at h1; exact h1
        have hNr : Hid (N ≤ rm) := by show _ ≤ _; omega
        by_cases hn0 : n = 0
        · have hE : Hid (∀ u, Bw w u → RAddV base gj g cb cap R v0 P w (.returned (.int .i64 0)) u) := fun u hu => by
            have hp : P = (0, S0, J0) := by rw [hadd.out, hm0.out, if_neg (by decide), hLn.out, if_pos hn0]
            rw [hp]; exact HSame.out 0 u hu
          subst hn0
          clear hfull
          go_wp2_with (first
            | (go_at_call 61; refine HPk2.out.mono ?_; rintro e w2 ⟨B, c, rfl, hrow, hb2⟩)
            | (go_at_call 59; refine (HRm.out _ hb2.out).mono ?_; rintro e w3 ⟨rfl, hb3⟩))
          go_ret
          exact hE.out _ (hb2.out.trans hb3)
        · have hn1 : ((n : Int) == 0) = false := by rw [beq_eq_false_iff_ne]; omega
          have hp : Hid (P = Jl.withL J0 (Jl.put J0 S0 (Jl.packed L) J0.h.area J0.h.len) (J0.L ++ L)) := by
            refine (?_ : _ = _)
            rw [hadd.out, hm0.out, if_neg (by decide), hLn.out, if_neg hn0]
          clear hfull hadd hmay hm0 HSame HPk
          go_upto_region 12 with (first
            | (go_at_call 61; refine HPk2.out.mono ?_; rintro e w2 ⟨B, c, rfl, hrow, hb2⟩)
            | (go_at_call 59; refine (HRm.out _ hb2.out).mono ?_; rintro e w3 ⟨rfl, hb3⟩))
          have hb23 : Hid (Bw w w3) := hb2.out.trans hb3
          obtain ⟨l4, l5⟩ := HC.out _ ((hb23.out).trans ((Bw.refl w3).drew))
          have HWu := HW.out w3.drew B c (hb23.out.trans ((Bw.refl w3).drew)) ((hrow.out.1.keep hb3).keep ((Bw.refl w3).drew)) hrow.out.2.1 hrow.out.2.2 hNr.out
          replace HWu := (show Hid (Calls Try.prog 62 #[.pointer (some ⟨gj, 0, none⟩), .int .i64 (J0.h.area : Int), .int .i64 (J0.h.len : Int), .slice B N c] w3.drew fun e w' => RPutV base gj g cb cap R v0 (Jl.put J0 S0 (Jl.packed L) J0.h.area J0.h.len) w3.drew e w') from HWu)
          obtain ⟨PP, hPP⟩ : ∃ PP, Hid (Jl.put J0 S0 (Jl.packed L) J0.h.area J0.h.len = PP) := ⟨_, rfl⟩
          rw [hPP.out] at HWu hp
          clear HPk2 HRm HW hn1 d1
          go_cut [7] from 9 to 41 (fun v7 wx => v7 = .int .i64 PP.1 ∧ Hid (∃ u, Bw w u ∧ RPutV base gj g cb cap R v0 PP u (.returned (.int .i64 PP.1)) wx))
          case first =>
            refine wp_region_any (by kernel_rfl) ?_
            change wpAny _ _ _ _ _ _ _ (World.drew _)
            refine wpAny_take (i := 0) (v := ?_) rfl (by kernel_rfl) (by kernel_rfl) (by kernel_rfl) (fun _ _ _ h => h) (Or.inl ⟨by rfl, ?_⟩) ?_
            rotate_left
            · intro w; go_simp; all_goals (with_reducible rfl)
            try simp only [Act.put, List.setIfInBounds_toArray, List.set_cons_zero, List.set_cons_succ, List.getElem_toArray, List.getElem_cons_succ, List.getElem_cons_zero]
            refine wpAny_take (i := 1) (v := ?_) rfl (by kernel_rfl) (by kernel_rfl) (by kernel_rfl) (fun _ _ _ h => h) (Or.inl ⟨by rfl, ?_⟩) ?_
            rotate_left
            · intro w; go_simp; all_goals (with_reducible rfl)
            try simp only [Act.put, List.setIfInBounds_toArray, List.set_cons_zero, List.set_cons_succ, List.getElem_toArray, List.getElem_cons_succ, List.getElem_cons_zero]
            refine wpAny_take (i := 2) (v := ?_) rfl (by kernel_rfl) (by kernel_rfl) (by kernel_rfl) (fun _ _ _ h => h) (Or.inl ⟨by rfl, ?_⟩) ?_
            rotate_left
            · intro w; go_simp; all_goals (with_reducible rfl)
            try simp only [Act.put, List.setIfInBounds_toArray, List.set_cons_zero, List.set_cons_succ, List.getElem_toArray, List.getElem_cons_succ, List.getElem_cons_zero]
            refine wpAny_take (i := 3) (v := ?_) rfl (by kernel_rfl) (by kernel_rfl) (by kernel_rfl) (fun _ _ _ h => h) (Or.inl ⟨by rfl, ?_⟩) ?_
            rotate_left
            · intro w; go_simp; all_goals (with_reducible rfl)
            try simp only [Act.put, List.setIfInBounds_toArray, List.set_cons_zero, List.set_cons_succ, List.getElem_toArray, List.getElem_cons_succ, List.getElem_cons_zero]
            refine wpAny_take (i := 5) (v := ?_) rfl (by kernel_rfl) (by kernel_rfl) (by kernel_rfl) (fun _ _ _ h => h) (Or.inl ⟨by rfl, ?_⟩) ?_
            rotate_left
            · intro w; go_simp; all_goals (with_reducible rfl)
            try simp only [Act.put, List.setIfInBounds_toArray, List.set_cons_zero, List.set_cons_succ, List.getElem_toArray, List.getElem_cons_succ, List.getElem_cons_zero]
            refine wpAny_take (i := 6) (v := ?_) rfl (by kernel_rfl) (by kernel_rfl) (by kernel_rfl) (fun _ _ _ h => h) (Or.inl ⟨by rfl, ?_⟩) ?_
            rotate_left
            · intro w; go_simp; all_goals (with_reducible rfl)
            try simp only [Act.put, List.setIfInBounds_toArray, List.set_cons_zero, List.set_cons_succ, List.getElem_toArray, List.getElem_cons_succ, List.getElem_cons_zero]
            refine wpAny_take (i := 7) (v := ?_) rfl (by kernel_rfl) (by kernel_rfl) (by kernel_rfl) (fun _ _ _ h => h) (Or.inl ⟨by rfl, ?_⟩) ?_
            rotate_left
            · intro w; go_simp; all_goals (with_reducible rfl)
            try simp only [Act.put, List.setIfInBounds_toArray, List.set_cons_zero, List.set_cons_succ, List.getElem_toArray, List.getElem_cons_succ, List.getElem_cons_zero]
            refine wpAny_take (i := 9) (v := ?_) rfl (by kernel_rfl) (by kernel_rfl) (by kernel_rfl) (fun _ _ _ h => h) (Or.inl ⟨by rfl, ?_⟩) ?_
            rotate_left
            · intro w; go_simp; all_goals (with_reducible rfl)
            try simp only [Act.put, List.setIfInBounds_toArray, List.set_cons_zero, List.set_cons_succ, List.getElem_toArray, List.getElem_cons_succ, List.getElem_cons_zero]
            refine wpAny_ready (rs := [4, 8]) (by kernel_rfl) (by simp) ?_
            refine AllReady.cons rfl (fun K hK => ?_) (AllReady.cons rfl (fun K hK => ?_) AllReady.nil)
            · skip
              go_simp
              refine hK _ _ ?_
              clear hK K
              try simp only [Act.put, List.setIfInBounds_toArray, List.set_cons_zero, List.set_cons_succ, List.getElem_toArray, List.getElem_cons_succ, List.getElem_cons_zero]
              refine wpAny_ready (rs := [8]) (by kernel_rfl) (by simp) ?_
              refine AllReady.cons rfl (fun K hK => ?_) AllReady.nil
              go_simp
              refine hK _ _ ?_
              clear hK K
              try simp only [Act.put, List.setIfInBounds_toArray, List.set_cons_zero, List.set_cons_succ, List.getElem_toArray, List.getElem_cons_succ, List.getElem_cons_zero]
              refine wpAny_ready (rs := [10]) (by kernel_rfl) (by simp) ?_
              refine AllReady.cons rfl (fun K hK => ?_) AllReady.nil
              go_simp
              refine HWu.out.mono ?_
              rintro e w4 hpv
              obtain rfl := hpv.1
              replace hpv := (show Hid (RPutV base gj g cb cap R v0 PP w3.drew _ w4) from hpv)
              refine hK _ _ ?_
              clear hK K
              try simp only [Act.put, List.setIfInBounds_toArray, List.set_cons_zero, List.set_cons_succ, List.getElem_toArray, List.getElem_cons_succ, List.getElem_cons_zero]
              refine wpAny_take (i := 11) (v := ?_) rfl (by kernel_rfl) (by kernel_rfl) (by kernel_rfl) (fun _ _ _ h => h) (Or.inl ⟨by rfl, ?_⟩) ?_
              rotate_left
              · intro w; go_simp; all_goals (with_reducible rfl)
              try simp only [Act.put, List.setIfInBounds_toArray, List.set_cons_zero, List.set_cons_succ, List.getElem_toArray, List.getElem_cons_succ, List.getElem_cons_zero]
              refine wpAny_done (by kernel_rfl) ?_ _
              go_wp2
              go_meet
              case rel => exact ⟨rfl, _, hb23.out.trans ((Bw.refl w3).drew), hpv.out⟩
            · skip
              go_simp
              refine hK _ _ ?_
              clear hK K
              try simp only [Act.put, List.setIfInBounds_toArray, List.set_cons_zero, List.set_cons_succ, List.getElem_toArray, List.getElem_cons_succ, List.getElem_cons_zero]
              refine wpAny_ready (rs := [4]) (by kernel_rfl) (by simp) ?_
              refine AllReady.cons rfl (fun K hK => ?_) AllReady.nil
              go_simp
              refine hK _ _ ?_
              clear hK K
              try simp only [Act.put, List.setIfInBounds_toArray, List.set_cons_zero, List.set_cons_succ, List.getElem_toArray, List.getElem_cons_succ, List.getElem_cons_zero]
              refine wpAny_ready (rs := [10]) (by kernel_rfl) (by simp) ?_
              refine AllReady.cons rfl (fun K hK => ?_) AllReady.nil
              go_simp
              refine HWu.out.mono ?_
              rintro e w4 hpv
              obtain rfl := hpv.1
              replace hpv := (show Hid (RPutV base gj g cb cap R v0 PP w3.drew _ w4) from hpv)
              refine hK _ _ ?_
              clear hK K
              try simp only [Act.put, List.setIfInBounds_toArray, List.set_cons_zero, List.set_cons_succ, List.getElem_toArray, List.getElem_cons_succ, List.getElem_cons_zero]
              refine wpAny_take (i := 11) (v := ?_) rfl (by kernel_rfl) (by kernel_rfl) (by kernel_rfl) (fun _ _ _ h => h) (Or.inl ⟨by rfl, ?_⟩) ?_
              rotate_left
              · intro w; go_simp; all_goals (with_reducible rfl)
              try simp only [Act.put, List.setIfInBounds_toArray, List.set_cons_zero, List.set_cons_succ, List.getElem_toArray, List.getElem_cons_succ, List.getElem_cons_zero]
              refine wpAny_done (by kernel_rfl) ?_ _
              go_wp2
              go_meet
              case rel => exact ⟨rfl, _, hb23.out.trans ((Bw.refl w3).drew), hpv.out⟩
          case rest =>
            obtain ⟨rfl, hput⟩ := hcut
            by_cases hE0 : PP.1 = 0
            · rw [hE0]
              obtain ⟨J, hJ⟩ : ∃ J, Hid (PP.2.2 = J) := ⟨_, rfl⟩
              obtain ⟨S, hS⟩ : ∃ S, Hid (PP.2.1 = S) := ⟨_, rfl⟩
              have hJL : Hid (J.L.length ≤ 2097152) := by
                have h1 := Jl.put_L J0 S0 (Jl.packed L) J0.h.area J0.h.len
                rw [hPP.out, hJ.out] at h1
                rw [h1]
                exact hJb.out
              have hPJ : Hid (P = (0, S, { J with L := J.L ++ L })) := by
                refine (?_ : _ = _)
                have h1 := Jl.put_L J0 S0 (Jl.packed L) J0.h.area J0.h.len
                rw [hPP.out, hJ.out] at h1
                rw [hp.out]
                unfold Jl.withL
                rw [hE0, if_pos rfl, hJ.out, hS.out, h1]
              have hAl : Hid (∀ b, ArgIn A n vs b → b < w.heap.size) := hlow
              have hAr : Hid (∀ b, ArgIn A n vs b → ¬ (rIn g cb b ∨ jIn gj v0 b)) := hAr0
              have hI0 : Hid (AddLoop w base gj g cb cap R v0 v0 J S A n vs L 0 wc) := by
                refine (?_ : AddLoop _ _ _ _ _ _ _ _ _ _ _ _ _ _ _ _ _)
                obtain ⟨u, ku, -, q2, q3, q4⟩ := hput.out
                rw [hS.out] at q2
                rw [hJ.out] at q3
                have hx : Bx (fun b => rIn g cb b ∨ jIn gj v0 b) w wc := (Bx.of_bw ku).trans (q4.more (fun b hb => hb.imp id (fun e => .inl e)))
                refine ⟨q2, ?_, HX.out.2.2.keepx hx (fun b o e h0 hb => hAr.out b (.inl ⟨o, e, h0⟩) hb) (fun u hu b o n' c' e h0 hb => hAr.out b (.inr ⟨u, hu, o, n', c', e, h0⟩) hb), hx, fun b hb => .inl hb⟩
                have q5 := q3.more (R' := fun b => R b ∨ w.heap.size ≤ b) (fun b hb => .inl hb)
                rw [List.take_zero, List.append_nil]
                exact q5
              have HEnd : Hid (∀ v u, AddLoop w base gj g cb cap R v0 v J S A n vs L n u → RAddV base gj g cb cap R v0 P w (.returned (.int .i64 0)) u) := fun v u hI => by
                rw [hPJ.out]
                refine ⟨v, rfl, hI.d, ?_, hI.bx, hI.ow⟩
                have q5 := hI.j
                rw [List.take_of_length_le (by rw [hLn.out]; exact Nat.le_refl _)] at q5
                exact q5
              clear hput hp
              go_wp2
              go_loopw [8] (fun s8 wr => ∃ (k : Nat) (v : Value), s8 = .int .i64 (k : Int) ∧ k ≤ n ∧ Hid (AddLoop w base gj g cb cap R v0 v J S A n vs L k wr)) (fun s8 _ => n - (intOf s8).toNat)
              case atStart => exact ⟨0, v0, rfl, Nat.zero_le _, hI0⟩
              case round =>
                obtain ⟨k, v, rfl, hk, hI⟩ := hrel
                have k0 : (0 : Int) ≤ (k : Int) := Int.natCast_nonneg _
                by_cases hlt : k < n
                · have k1 : (k : Int) < (n : Int) := by omega
                  obtain ⟨r, b, off, A', c', hr, rfl, hcell, hc1, hc2, hc3, hc4⟩ := hI.out.m.row hlt
                  have HRow : Hid (RowAt wr A' r.length (Jl.rowL r)) := hc4
                  obtain ⟨us, o1, o2, o3, o4⟩ := hI.out.j.recs
                  obtain ⟨q, hq⟩ : ∃ q, Hid ((J.L ++ L.take k).length = q) := ⟨_, rfl⟩
                  have hql : Hid (q + 1 ≤ 4000000) := by have h1 := hq.out; have h2 := hLn.out; rw [List.length_append, List.length_take] at h1; have := hJL.out; exact (by omega : q + 1 ≤ 4000000)
                  have o1' : Hid (wr.ownsRow base 37 1 v q us) := by have h1 := o1; dsimp only at h1; rw [hq.out] at h1; exact h1
                  have hbs : base ≤ wr.heap.size := Nat.le_trans hbase hI.out.bx.size
                  have hnb : Hid (∀ x, ArgIn (some ⟨b, off, none⟩) n vs x → ¬ (rIn g cb x ∨ jIn gj v x)) := fun x hx hb => by
                    have h0 := hAr.out x hx
                    rcases hb with hb | hb | hb
                    · exact h0 (.inl hb)
                    · exact h0 (.inr (.inl hb))
                    · rcases hI.out.ow x hb with h1 | h1
                      · exact h0 (.inr (.inr h1))
                      · have := hAl.out x hx; omega
                  obtain ⟨m, hm⟩ : ∃ m, Hid (r.length = m) := ⟨_, rfl⟩
                  rw [hm.out] at hcell hc3 HRow
                  have hcb : b ≠ gj := fun e => hnb.out b (.inl ⟨off, rfl, by omega⟩) (.inr (.inl e))
                  have hcv : v.ownBlock ≠ some b := fun e => hnb.out b (.inl ⟨off, rfl, by omega⟩) (.inr (.inr e))
                  have c6 : wr.cell? ⟨gj, 6, none⟩ = some v := hI.out.j.c6
                  have hrb : Hid (∀ i, 0 ≤ Jl.rowL r i ∧ Jl.rowL r i < 256) := HRow.out.2
                  have HRV : Hid (∀ W u x, Bw wr W → u.ownsRow W.heap.size 5 1 x m (cellsU (Jl.rowL r) m) → RowV u x r ∧ VIn (fun b => wr.heap.size ≤ b) x) := fun W u x kW hu => by
                    obtain ⟨h1, h2⟩ := rowv_of_own hrb.out (by omega) hu
                    rw [← hm.out, Jl.data_rowL] at h1
                    exact ⟨h1, fun b o n c e h0 => Nat.le_trans kW.size (h2 b o n c e h0)⟩
                  have HPush : Hid (∀ (W1 : World) (rv : Value) (g2 c2 : Nat) (w2 : World), Bw wr W1 → RowV W1 rv r → VIn (fun b => wr.heap.size ≤ b) rv → w2.ownsRow base 37 1 (.slice (some ⟨g2, 0, none⟩) (q + 1) c2) (q + 1) (us ++ [rv]) → (W1.alloc (.cells #[rv] 37)).grownBy w2 v.ownBlock → (v.ownBlock = some g2 ∨ g2 = W1.heap.size + 1) → (w2.cell? ⟨gj, 6, none⟩ = some v ∧ w2.frozen? ⟨gj, 6, none⟩ = false) ∧ AddLoop w base gj g cb cap R v0 (.slice (some ⟨g2, 0, none⟩) (q + 1) c2) J S (some ⟨b, off, none⟩) n vs L (k + 1) (w2.setCell ⟨gj, 6, none⟩ (.slice (some ⟨g2, 0, none⟩) (q + 1) c2))) := fun W1 rv g2 c2 w2 kW hv hvin own2 gr at2 => by
                    have hq2 : (J.L ++ L.take k).length = q := hq.out
                    subst hq2
                    obtain ⟨p1, p2, p3, p4⟩ := RjAt.push (J := { J with L := J.L ++ L.take k }) hI.out.j hbs o1 o2 o3 o4 kW hv hvin own2 gr at2 hql.out
                    obtain ⟨LV2, WV2, hd2⟩ := hI.out.d
                    refine ⟨p1, ⟨⟨LV2, WV2, hd2.keepj hI.out.j (fun x e => e) p3⟩, ?_, hI.out.m.keepx p3 (fun b' o' e h0 hb => ?_) (fun u hu b' o' n' c' e h0 hb => ?_), hI.out.bx.new p3 (fun x hx hb => ?_), fun x hx => ?_⟩⟩
                    · have e2 : (J.L ++ L.take k) ++ [r] = J.L ++ L.take (k + 1) := by rw [List.take_add_one, hr, List.append_assoc]; rfl
                      have p2' := p2.more (R' := fun b => R b ∨ w.heap.size ≤ b) (fun x hx => by
                        rcases hx with (hx | hx) | hx
                        · exact .inl hx
                        · exact .inr hx
                        · exact .inr (Nat.le_trans hI.out.bx.size hx))
                      rw [e2] at p2'
                      exact p2'
                    · cases e; exact hnb.out b (.inl ⟨off, rfl, by omega⟩) (.inr hb)
                    · exact hnb.out b' (.inr ⟨u, hu, o', n', c', e, h0⟩) (.inr hb)
                    · rcases hb with hb | hb
                      · exact .inr (.inl hb)
                      · rcases hI.out.ow x hb with h1 | h1
                        · exact .inr (.inr h1)
                        · omega
                    · have e2 : g2 = x := by simpa [Value.ownBlock] using hx
                      rcases p4 with h1 | h1
                      · rw [e2] at h1; exact hI.out.ow x h1
                      · exact .inr (by have := hI.out.bx.size; omega)
                  have few1 : Hid (q + 1 ≤ maxLen) := by have := hql.out; show _ ≤ _; unfold maxLen; omega
                  have few2 : Hid ((q + 1) * 24 ≤ 140737488355328) := by have := hql.out; show _ ≤ _; omega
                  have HArg : Hid (∀ u, Bw wr u → u.cell? ⟨b, off + k, none⟩ = some (.slice A' m c')) := fun u ku => (ku.cell (p := ⟨b, off + k, none⟩) (block_lt_of_cell hcell)).trans hcell
                  have HC6 : Hid (∀ u, Bw wr u → u.cell? ⟨gj, 6, none⟩ = some v) := fun u ku => (ku.cell (p := ⟨gj, 6, none⟩) (block_lt_of_cell c6)).trans c6
                  have hgrow6 : Hid (∀ W w2, Bw wr W → W.grownBy w2 v.ownBlock → w2.cell? ⟨b, off + k, none⟩ = some (.slice A' m c')) := fun W w2 kW gr => by
                    have hx := bx_grown gr
                    have h1 := HArg.out W kW
                    rw [World.cell?_of_block (w := W) (a := ⟨b, off + k, none⟩) (hx.block b (block_lt_of_cell h1) (fun e => hcv e))]
                    exact h1
                  clear hc4 hc1 o1 o2 o3 o4 hr c6 hcell
                  go_upto_region 17 with fail
                  have kwd : Bw wr wr.drew := (Bw.refl wr).drew
                  refine wp_region_held_drew (S := fun w' => w'.cell? ⟨b, off + k, none⟩ = some (.slice A' m c')) (by kernel_rfl) (HArg.out _ ((Bw.refl wr).drew)) (fun hHeld => ?_)
                  generalize wr.drew = wd at kwd hHeld ⊢
                  refine wpAnyH_take (i := 0) (v := ?_) rfl (by kernel_rfl) (by kernel_rfl) (by kernel_rfl) (fun _ _ _ h => h) (Or.inl ⟨by rfl, ?_⟩) (by assumption) ?_
                  rotate_left
                  · intro w hSw; (try dsimp only at hSw); go_simp; all_goals (with_reducible rfl)
                  try simp only [Act.put, List.setIfInBounds_toArray, List.set_cons_zero, List.set_cons_succ, List.getElem_toArray, List.getElem_cons_succ, List.getElem_cons_zero]
                  refine wpAnyH_take (i := 1) (v := ?_) rfl (by kernel_rfl) (by kernel_rfl) (by kernel_rfl) (fun _ _ _ h => h) (Or.inl ⟨by rfl, ?_⟩) (by assumption) ?_
                  rotate_left
                  · intro w hSw; (try dsimp only at hSw); go_simp; all_goals (with_reducible rfl)
                  try simp only [Act.put, List.setIfInBounds_toArray, List.set_cons_zero, List.set_cons_succ, List.getElem_toArray, List.getElem_cons_succ, List.getElem_cons_zero]
                  refine wpAnyH_take (i := 2) (v := ?_) rfl (by kernel_rfl) (by kernel_rfl) (by kernel_rfl) (fun _ _ _ h => h) (Or.inl ⟨by rfl, ?_⟩) (by assumption) ?_
                  rotate_left
                  · intro w hSw; (try dsimp only at hSw); go_simp; all_goals (with_reducible rfl)
                  try simp only [Act.put, List.setIfInBounds_toArray, List.set_cons_zero, List.set_cons_succ, List.getElem_toArray, List.getElem_cons_succ, List.getElem_cons_zero]
                  refine wpAnyH_take (i := 3) (v := ?_) rfl (by kernel_rfl) (by kernel_rfl) (by kernel_rfl) (fun _ _ _ h => h) (Or.inl ⟨by rfl, ?_⟩) (by assumption) ?_
                  rotate_left
                  · intro w hSw; (try dsimp only at hSw); go_simp; all_goals (with_reducible rfl)
                  try simp only [Act.put, List.setIfInBounds_toArray, List.set_cons_zero, List.set_cons_succ, List.getElem_toArray, List.getElem_cons_succ, List.getElem_cons_zero]
                  refine wpAnyH_take (i := 6) (v := ?_) rfl (by kernel_rfl) (by kernel_rfl) (by kernel_rfl) (fun _ _ _ h => h) (Or.inl ⟨by rfl, ?_⟩) (by assumption) ?_
                  rotate_left
                  · intro w hSw; (try dsimp only at hSw); go_simp; all_goals (with_reducible rfl)
                  try simp only [Act.put, List.setIfInBounds_toArray, List.set_cons_zero, List.set_cons_succ, List.getElem_toArray, List.getElem_cons_succ, List.getElem_cons_zero]
                  refine wpAnyH_take (i := 7) (v := ?_) rfl (by kernel_rfl) (by kernel_rfl) (by kernel_rfl) (fun _ _ _ h => h) (Or.inl ⟨by rfl, ?_⟩) (by assumption) ?_
                  rotate_left
                  · intro w hSw; (try dsimp only at hSw); go_simp; all_goals (with_reducible rfl)
                  try simp only [Act.put, List.setIfInBounds_toArray, List.set_cons_zero, List.set_cons_succ, List.getElem_toArray, List.getElem_cons_succ, List.getElem_cons_zero]
                  refine wpAnyH_take (i := 8) (v := ?_) rfl (by kernel_rfl) (by kernel_rfl) (by kernel_rfl) (fun _ _ _ h => h) (Or.inl ⟨by rfl, ?_⟩) (by assumption) ?_
                  rotate_left
                  · intro w hSw; (try dsimp only at hSw); go_simp; all_goals (with_reducible rfl)
                  try simp only [Act.put, List.setIfInBounds_toArray, List.set_cons_zero, List.set_cons_succ, List.getElem_toArray, List.getElem_cons_succ, List.getElem_cons_zero]
                  refine wpAnyH_take (i := 9) (v := ?_) rfl (by kernel_rfl) (by kernel_rfl) (by kernel_rfl) (fun _ _ _ h => h) (Or.inl ⟨by rfl, ?_⟩) (by assumption) ?_
                  rotate_left
                  · intro w hSw; (try dsimp only at hSw); go_simp; all_goals (with_reducible rfl)
                  try simp only [Act.put, List.setIfInBounds_toArray, List.set_cons_zero, List.set_cons_succ, List.getElem_toArray, List.getElem_cons_succ, List.getElem_cons_zero]
                  refine wpAnyH_ready (rs := [4, 5]) (by kernel_rfl) (by simp) ?_
                  refine (AllReadyH.cons rfl (fun K hK => ?_) (AllReadyH.cons rfl (fun K hK => ?_) AllReadyH.nil))
                  · skip
                    have c6 := HC6.out wd kwd
                    go_simp
                    refine hK.out _ _ (HArg.out _ kwd) (fun hHeld => ?_)
                    clear hK K
                    try simp only [Act.put, List.setIfInBounds_toArray, List.set_cons_zero, List.set_cons_succ, List.getElem_toArray, List.getElem_cons_succ, List.getElem_cons_zero]
                    refine wpAnyH_ready (rs := [5]) (by kernel_rfl) (by simp) ?_
                    refine (AllReadyH.cons rfl (fun K hK => ?_) AllReadyH.nil)
                    go_simp
                    refine hK.out _ _ (HArg.out _ (bw_allocx kwd)) (fun hHeld => ?_)
                    clear hK K
                    try simp only [Act.put, List.setIfInBounds_toArray, List.set_cons_zero, List.set_cons_succ, List.getElem_toArray, List.getElem_cons_succ, List.getElem_cons_zero]
                    refine wpAnyH_ready (rs := [10]) (by kernel_rfl) (by simp) ?_
                    refine (AllReadyH.cons rfl (fun K hK => ?_) AllReadyH.nil)
                    refine step_append_byt (by rfl) (.tmp 54) (.tmp 58) (by rfl) wd.heap.size _ 0 [] (by rfl) (own_empty wd wd.heap.size _ (Nat.le_refl _)) A' m c' (Jl.rowL r) (by rfl) (HRow.out.keep (bw_allocx kwd)) hc2 (by omega) (by rw [size_alloc]; omega) ?_
                    intro rv W1 hown1 hgrow1
                    have bw1 : Bw wr W1 := kwd.trans (bw_fresh hgrow1)
                    rw [Nat.zero_add, List.nil_append] at hown1
                    obtain ⟨hrv, hrvin⟩ := HRV.out wd W1 rv kwd hown1
                    obtain ⟨Ar, cr, er, -⟩ := id hrv
                    subst er
                    have hrvH := (show Hid (RowV W1 _ r) from hrv)
                    have kown := (show Hid (W1.ownsRow base 37 1 v q us) from own_keep o1'.out bw1)
                    clear hown1 hgrow1 hrv
                    refine hK.out _ _ (HArg.out _ bw1) (fun hHeld => ?_)
                    clear hK K
                    try simp only [Act.put, List.setIfInBounds_toArray, List.set_cons_zero, List.set_cons_succ, List.getElem_toArray, List.getElem_cons_succ, List.getElem_cons_zero]
                    refine wpAnyH_ready (rs := [11]) (by kernel_rfl) (by simp) ?_
                    refine (AllReadyH.cons rfl (fun K hK => ?_) AllReadyH.nil)
                    go_simp
                    refine hK.out _ _ (HArg.out _ (bw_allocx bw1)) (fun hHeld => ?_)
                    clear hK K
                    try simp only [Act.put, List.setIfInBounds_toArray, List.set_cons_zero, List.set_cons_succ, List.getElem_toArray, List.getElem_cons_succ, List.getElem_cons_zero]
                    refine wpAnyH_ready (rs := [12]) (by kernel_rfl) (by simp) ?_
                    refine (AllReadyH.cons rfl (fun K hK => ?_) AllReadyH.nil)
                    refine step_append_lies _ (by rfl) (.tmp 53) (.tmp 60) _ (by rfl) base 37 i0 _ 1 24 Try.underlying42 hi0 hz0 hz1 hz2 rfl (by omega) _ _ _ (by rfl) (kown.out.alloc _) ⟨W1.heap.size, 0, none⟩ 1 1 [_] (by rfl) (by rfl) (World.news_of_block (cs := #[_]) (t := 37) (fr := (0, 0)) (heap_alloc_new W1 _)) (by simp [Value.oneCell']) (by omega) few1.out few2.out (by have := bw1.size; rw [size_alloc]; omega) (W1.heap.size + 1) (by simp) ?_
                    intro g2 c2 w2 hown2 hgrow2 hat2 hlt2
                    obtain ⟨⟨d6, f6⟩, hfin⟩ := HPush.out W1 _ g2 c2 w2 bw1 hrvH.out hrvin hown2 hgrow2 hat2
                    have hfinH := (show Hid (AddLoop w base gj g cb cap R v0 _ J S (some ⟨b, off, none⟩) n vs L (k + 1) _) from hfin)
                    have harg2 := hgrow6.out _ w2 (bw_allocx bw1) hgrow2
                    have hbne : gj ≠ b := fun e => hcb e.symm
                    clear hown2 hgrow2 hat2 hfin
                    refine hK.out _ _ harg2 (fun hHeld => ?_)
                    clear hK K
                    try simp only [Act.put, List.setIfInBounds_toArray, List.set_cons_zero, List.set_cons_succ, List.getElem_toArray, List.getElem_cons_succ, List.getElem_cons_zero]
                    refine wpAnyH_take (i := 13) (v := ?_) rfl (by kernel_rfl) (by kernel_rfl) (by kernel_rfl) (fun _ _ _ h => h) (Or.inl ⟨by rfl, ?_⟩) (by assumption) ?_
                    rotate_left
                    · intro w hSw; (try dsimp only at hSw); go_simp; all_goals (with_reducible rfl)
                    try simp only [Act.put, List.setIfInBounds_toArray, List.set_cons_zero, List.set_cons_succ, List.getElem_toArray, List.getElem_cons_succ, List.getElem_cons_zero]
                    refine wpAnyH_take (i := 14) (v := ?_) rfl (by kernel_rfl) (by kernel_rfl) (by kernel_rfl) (fun _ _ _ h => h) (Or.inl ⟨by rfl, ?_⟩) (by assumption) ?_
                    rotate_left
                    · intro w hSw; (try dsimp only at hSw); go_simp; all_goals (with_reducible rfl)
                    try simp only [Act.put, List.setIfInBounds_toArray, List.set_cons_zero, List.set_cons_succ, List.getElem_toArray, List.getElem_cons_succ, List.getElem_cons_zero]
                    refine wpAnyH_ready (rs := [15]) (by kernel_rfl) (by simp) ?_
                    refine (AllReadyH.cons rfl (fun K hK => ?_) AllReadyH.nil)
                    go_simp
                    refine hK.out _ _ (by rw [World.cell?_setCell_far _ _ _ _ hbne]; exact harg2) (fun hHeld => ?_)
                    clear hK K
                    try simp only [Act.put, List.setIfInBounds_toArray, List.set_cons_zero, List.set_cons_succ, List.getElem_toArray, List.getElem_cons_succ, List.getElem_cons_zero]
                    refine wpAnyH_done (by kernel_rfl) ?_ _
                    go_wp2
                    go_roundw
                    case rel => exact ⟨k + 1, _, by go_num, by omega, hfinH⟩
                    case measure => simp [intOf]; omega
                  · skip
                    go_simp
                    refine hK.out _ _ (HArg.out _ (bw_allocx kwd)) (fun hHeld => ?_)
                    clear hK K
                    try simp only [Act.put, List.setIfInBounds_toArray, List.set_cons_zero, List.set_cons_succ, List.getElem_toArray, List.getElem_cons_succ, List.getElem_cons_zero]
                    refine wpAnyH_ready (rs := [4, 10]) (by kernel_rfl) (by simp) ?_
                    refine (AllReadyH.cons rfl (fun K hK => ?_) (AllReadyH.cons rfl (fun K hK => ?_) AllReadyH.nil))
                    · skip
                      have c6 := HC6.out (wd.alloc (.cells #[] 5)) (bw_allocx kwd)
                      go_simp
                      refine hK.out _ _ (HArg.out _ (bw_allocx kwd)) (fun hHeld => ?_)
                      clear hK K
                      try simp only [Act.put, List.setIfInBounds_toArray, List.set_cons_zero, List.set_cons_succ, List.getElem_toArray, List.getElem_cons_succ, List.getElem_cons_zero]
                      refine wpAnyH_ready (rs := [10]) (by kernel_rfl) (by simp) ?_
                      refine (AllReadyH.cons rfl (fun K hK => ?_) AllReadyH.nil)
                      refine step_append_byt (by rfl) (.tmp 54) (.tmp 58) (by rfl) wd.heap.size _ 0 [] (by rfl) (own_empty wd wd.heap.size _ (Nat.le_refl _)) A' m c' (Jl.rowL r) (by rfl) (HRow.out.keep (bw_allocx kwd)) hc2 (by omega) (by rw [size_alloc]; omega) ?_
                      intro rv W1 hown1 hgrow1
                      have bw1 : Bw wr W1 := kwd.trans (bw_fresh hgrow1)
                      rw [Nat.zero_add, List.nil_append] at hown1
                      obtain ⟨hrv, hrvin⟩ := HRV.out wd W1 rv kwd hown1
                      obtain ⟨Ar, cr, er, -⟩ := id hrv
                      subst er
                      have hrvH := (show Hid (RowV W1 _ r) from hrv)
                      have kown := (show Hid (W1.ownsRow base 37 1 v q us) from own_keep o1'.out bw1)
                      clear hown1 hgrow1 hrv
                      refine hK.out _ _ (HArg.out _ bw1) (fun hHeld => ?_)
                      clear hK K
                      try simp only [Act.put, List.setIfInBounds_toArray, List.set_cons_zero, List.set_cons_succ, List.getElem_toArray, List.getElem_cons_succ, List.getElem_cons_zero]
                      refine wpAnyH_ready (rs := [11]) (by kernel_rfl) (by simp) ?_
                      refine (AllReadyH.cons rfl (fun K hK => ?_) AllReadyH.nil)
                      go_simp
                      refine hK.out _ _ (HArg.out _ (bw_allocx bw1)) (fun hHeld => ?_)
                      clear hK K
                      try simp only [Act.put, List.setIfInBounds_toArray, List.set_cons_zero, List.set_cons_succ, List.getElem_toArray, List.getElem_cons_succ, List.getElem_cons_zero]
                      refine wpAnyH_ready (rs := [12]) (by kernel_rfl) (by simp) ?_
                      refine (AllReadyH.cons rfl (fun K hK => ?_) AllReadyH.nil)
                      refine step_append_lies _ (by rfl) (.tmp 53) (.tmp 60) _ (by rfl) base 37 i0 _ 1 24 Try.underlying42 hi0 hz0 hz1 hz2 rfl (by omega) _ _ _ (by rfl) (kown.out.alloc _) ⟨W1.heap.size, 0, none⟩ 1 1 [_] (by rfl) (by rfl) (World.news_of_block (cs := #[_]) (t := 37) (fr := (0, 0)) (heap_alloc_new W1 _)) (by simp [Value.oneCell']) (by omega) few1.out few2.out (by have := bw1.size; rw [size_alloc]; omega) (W1.heap.size + 1) (by simp) ?_
                      intro g2 c2 w2 hown2 hgrow2 hat2 hlt2
                      obtain ⟨⟨d6, f6⟩, hfin⟩ := HPush.out W1 _ g2 c2 w2 bw1 hrvH.out hrvin hown2 hgrow2 hat2
                      have hfinH := (show Hid (AddLoop w base gj g cb cap R v0 _ J S (some ⟨b, off, none⟩) n vs L (k + 1) _) from hfin)
                      have harg2 := hgrow6.out _ w2 (bw_allocx bw1) hgrow2
                      have hbne : gj ≠ b := fun e => hcb e.symm
                      clear hown2 hgrow2 hat2 hfin
                      refine hK.out _ _ harg2 (fun hHeld => ?_)
                      clear hK K
                      try simp only [Act.put, List.setIfInBounds_toArray, List.set_cons_zero, List.set_cons_succ, List.getElem_toArray, List.getElem_cons_succ, List.getElem_cons_zero]
                      refine wpAnyH_take (i := 13) (v := ?_) rfl (by kernel_rfl) (by kernel_rfl) (by kernel_rfl) (fun _ _ _ h => h) (Or.inl ⟨by rfl, ?_⟩) (by assumption) ?_
                      rotate_left
                      · intro w hSw; (try dsimp only at hSw); go_simp; all_goals (with_reducible rfl)
                      try simp only [Act.put, List.setIfInBounds_toArray, List.set_cons_zero, List.set_cons_succ, List.getElem_toArray, List.getElem_cons_succ, List.getElem_cons_zero]
                      refine wpAnyH_take (i := 14) (v := ?_) rfl (by kernel_rfl) (by kernel_rfl) (by kernel_rfl) (fun _ _ _ h => h) (Or.inl ⟨by rfl, ?_⟩) (by assumption) ?_
                      rotate_left
                      · intro w hSw; (try dsimp only at hSw); go_simp; all_goals (with_reducible rfl)
                      try simp only [Act.put, List.setIfInBounds_toArray, List.set_cons_zero, List.set_cons_succ, List.getElem_toArray, List.getElem_cons_succ, List.getElem_cons_zero]
                      refine wpAnyH_ready (rs := [15]) (by kernel_rfl) (by simp) ?_
                      refine (AllReadyH.cons rfl (fun K hK => ?_) AllReadyH.nil)
                      go_simp
                      refine hK.out _ _ (by rw [World.cell?_setCell_far _ _ _ _ hbne]; exact harg2) (fun hHeld => ?_)
                      clear hK K
                      try simp only [Act.put, List.setIfInBounds_toArray, List.set_cons_zero, List.set_cons_succ, List.getElem_toArray, List.getElem_cons_succ, List.getElem_cons_zero]
                      refine wpAnyH_done (by kernel_rfl) ?_ _
                      go_wp2
                      go_roundw
                      case rel => exact ⟨k + 1, _, by go_num, by omega, hfinH⟩
                      case measure => simp [intOf]; omega
                    · skip
                      refine step_append_byt (by rfl) (.tmp 54) (.tmp 58) (by rfl) wd.heap.size _ 0 [] (by rfl) (own_empty wd wd.heap.size _ (Nat.le_refl _)) A' m c' (Jl.rowL r) (by rfl) (HRow.out.keep (bw_allocx kwd)) hc2 (by omega) (by rw [size_alloc]; omega) ?_
                      intro rv W1 hown1 hgrow1
                      have bw1 : Bw wr W1 := kwd.trans (bw_fresh hgrow1)
                      rw [Nat.zero_add, List.nil_append] at hown1
                      obtain ⟨hrv, hrvin⟩ := HRV.out wd W1 rv kwd hown1
                      obtain ⟨Ar, cr, er, -⟩ := id hrv
                      subst er
                      have hrvH := (show Hid (RowV W1 _ r) from hrv)
                      have kown := (show Hid (W1.ownsRow base 37 1 v q us) from own_keep o1'.out bw1)
                      clear hown1 hgrow1 hrv
                      refine hK.out _ _ (HArg.out _ bw1) (fun hHeld => ?_)
                      clear hK K
                      try simp only [Act.put, List.setIfInBounds_toArray, List.set_cons_zero, List.set_cons_succ, List.getElem_toArray, List.getElem_cons_succ, List.getElem_cons_zero]
                      refine wpAnyH_ready (rs := [4, 11]) (by kernel_rfl) (by simp) ?_
                      refine (AllReadyH.cons rfl (fun K hK => ?_) (AllReadyH.cons rfl (fun K hK => ?_) AllReadyH.nil))
                      · skip
                        have c6 := HC6.out W1 bw1
                        go_simp
                        refine hK.out _ _ (HArg.out _ bw1) (fun hHeld => ?_)
                        clear hK K
                        try simp only [Act.put, List.setIfInBounds_toArray, List.set_cons_zero, List.set_cons_succ, List.getElem_toArray, List.getElem_cons_succ, List.getElem_cons_zero]
                        refine wpAnyH_ready (rs := [11]) (by kernel_rfl) (by simp) ?_
                        refine (AllReadyH.cons rfl (fun K hK => ?_) AllReadyH.nil)
                        go_simp
                        refine hK.out _ _ (HArg.out _ (bw_allocx bw1)) (fun hHeld => ?_)
                        clear hK K
                        try simp only [Act.put, List.setIfInBounds_toArray, List.set_cons_zero, List.set_cons_succ, List.getElem_toArray, List.getElem_cons_succ, List.getElem_cons_zero]
                        refine wpAnyH_ready (rs := [12]) (by kernel_rfl) (by simp) ?_
                        refine (AllReadyH.cons rfl (fun K hK => ?_) AllReadyH.nil)
                        refine step_append_lies _ (by rfl) (.tmp 53) (.tmp 60) _ (by rfl) base 37 i0 _ 1 24 Try.underlying42 hi0 hz0 hz1 hz2 rfl (by omega) _ _ _ (by rfl) (kown.out.alloc _) ⟨W1.heap.size, 0, none⟩ 1 1 [_] (by rfl) (by rfl) (World.news_of_block (cs := #[_]) (t := 37) (fr := (0, 0)) (heap_alloc_new W1 _)) (by simp [Value.oneCell']) (by omega) few1.out few2.out (by have := bw1.size; rw [size_alloc]; omega) (W1.heap.size + 1) (by simp) ?_
                        intro g2 c2 w2 hown2 hgrow2 hat2 hlt2
                        obtain ⟨⟨d6, f6⟩, hfin⟩ := HPush.out W1 _ g2 c2 w2 bw1 hrvH.out hrvin hown2 hgrow2 hat2
                        have hfinH := (show Hid (AddLoop w base gj g cb cap R v0 _ J S (some ⟨b, off, none⟩) n vs L (k + 1) _) from hfin)
                        have harg2 := hgrow6.out _ w2 (bw_allocx bw1) hgrow2
                        have hbne : gj ≠ b := fun e => hcb e.symm
                        clear hown2 hgrow2 hat2 hfin
                        refine hK.out _ _ harg2 (fun hHeld => ?_)
                        clear hK K
                        try simp only [Act.put, List.setIfInBounds_toArray, List.set_cons_zero, List.set_cons_succ, List.getElem_toArray, List.getElem_cons_succ, List.getElem_cons_zero]
                        refine wpAnyH_take (i := 13) (v := ?_) rfl (by kernel_rfl) (by kernel_rfl) (by kernel_rfl) (fun _ _ _ h => h) (Or.inl ⟨by rfl, ?_⟩) (by assumption) ?_
                        rotate_left
                        · intro w hSw; (try dsimp only at hSw); go_simp; all_goals (with_reducible rfl)
                        try simp only [Act.put, List.setIfInBounds_toArray, List.set_cons_zero, List.set_cons_succ, List.getElem_toArray, List.getElem_cons_succ, List.getElem_cons_zero]
                        refine wpAnyH_take (i := 14) (v := ?_) rfl (by kernel_rfl) (by kernel_rfl) (by kernel_rfl) (fun _ _ _ h => h) (Or.inl ⟨by rfl, ?_⟩) (by assumption) ?_
                        rotate_left
                        · intro w hSw; (try dsimp only at hSw); go_simp; all_goals (with_reducible rfl)
                        try simp only [Act.put, List.setIfInBounds_toArray, List.set_cons_zero, List.set_cons_succ, List.getElem_toArray, List.getElem_cons_succ, List.getElem_cons_zero]
                        refine wpAnyH_ready (rs := [15]) (by kernel_rfl) (by simp) ?_
                        refine (AllReadyH.cons rfl (fun K hK => ?_) AllReadyH.nil)
                        go_simp
                        refine hK.out _ _ (by rw [World.cell?_setCell_far _ _ _ _ hbne]; exact harg2) (fun hHeld => ?_)
                        clear hK K
                        try simp only [Act.put, List.setIfInBounds_toArray, List.set_cons_zero, List.set_cons_succ, List.getElem_toArray, List.getElem_cons_succ, List.getElem_cons_zero]
                        refine wpAnyH_done (by kernel_rfl) ?_ _
                        go_wp2
                        go_roundw
                        case rel => exact ⟨k + 1, _, by go_num, by omega, hfinH⟩
                        case measure => simp [intOf]; omega
                      · skip
                        go_simp
                        refine hK.out _ _ (HArg.out _ (bw_allocx bw1)) (fun hHeld => ?_)
                        clear hK K
                        try simp only [Act.put, List.setIfInBounds_toArray, List.set_cons_zero, List.set_cons_succ, List.getElem_toArray, List.getElem_cons_succ, List.getElem_cons_zero]
                        refine wpAnyH_ready (rs := [4]) (by kernel_rfl) (by simp) ?_
                        refine (AllReadyH.cons rfl (fun K hK => ?_) AllReadyH.nil)
                        have c6 := HC6.out (W1.alloc (.cells #[.slice Ar r.length cr] 37)) (bw_allocx bw1)
                        go_simp
                        refine hK.out _ _ (HArg.out _ (bw_allocx bw1)) (fun hHeld => ?_)
                        clear hK K
                        try simp only [Act.put, List.setIfInBounds_toArray, List.set_cons_zero, List.set_cons_succ, List.getElem_toArray, List.getElem_cons_succ, List.getElem_cons_zero]
                        refine wpAnyH_ready (rs := [12]) (by kernel_rfl) (by simp) ?_
                        refine (AllReadyH.cons rfl (fun K hK => ?_) AllReadyH.nil)
                        refine step_append_lies _ (by rfl) (.tmp 53) (.tmp 60) _ (by rfl) base 37 i0 _ 1 24 Try.underlying42 hi0 hz0 hz1 hz2 rfl (by omega) _ _ _ (by rfl) (kown.out.alloc _) ⟨W1.heap.size, 0, none⟩ 1 1 [_] (by rfl) (by rfl) (World.news_of_block (cs := #[_]) (t := 37) (fr := (0, 0)) (heap_alloc_new W1 _)) (by simp [Value.oneCell']) (by omega) few1.out few2.out (by have := bw1.size; rw [size_alloc]; omega) (W1.heap.size + 1) (by simp) ?_
                        intro g2 c2 w2 hown2 hgrow2 hat2 hlt2
                        obtain ⟨⟨d6, f6⟩, hfin⟩ := HPush.out W1 _ g2 c2 w2 bw1 hrvH.out hrvin hown2 hgrow2 hat2
                        have hfinH := (show Hid (AddLoop w base gj g cb cap R v0 _ J S (some ⟨b, off, none⟩) n vs L (k + 1) _) from hfin)
                        have harg2 := hgrow6.out _ w2 (bw_allocx bw1) hgrow2
                        have hbne : gj ≠ b := fun e => hcb e.symm
                        clear hown2 hgrow2 hat2 hfin
                        refine hK.out _ _ harg2 (fun hHeld => ?_)
                        clear hK K
                        try simp only [Act.put, List.setIfInBounds_toArray, List.set_cons_zero, List.set_cons_succ, List.getElem_toArray, List.getElem_cons_succ, List.getElem_cons_zero]
                        refine wpAnyH_take (i := 13) (v := ?_) rfl (by kernel_rfl) (by kernel_rfl) (by kernel_rfl) (fun _ _ _ h => h) (Or.inl ⟨by rfl, ?_⟩) (by assumption) ?_
                        rotate_left
                        · intro w hSw; (try dsimp only at hSw); go_simp; all_goals (with_reducible rfl)
                        try simp only [Act.put, List.setIfInBounds_toArray, List.set_cons_zero, List.set_cons_succ, List.getElem_toArray, List.getElem_cons_succ, List.getElem_cons_zero]
                        refine wpAnyH_take (i := 14) (v := ?_) rfl (by kernel_rfl) (by kernel_rfl) (by kernel_rfl) (fun _ _ _ h => h) (Or.inl ⟨by rfl, ?_⟩) (by assumption) ?_
                        rotate_left
                        · intro w hSw; (try dsimp only at hSw); go_simp; all_goals (with_reducible rfl)
                        try simp only [Act.put, List.setIfInBounds_toArray, List.set_cons_zero, List.set_cons_succ, List.getElem_toArray, List.getElem_cons_succ, List.getElem_cons_zero]
                        refine wpAnyH_ready (rs := [15]) (by kernel_rfl) (by simp) ?_
                        refine (AllReadyH.cons rfl (fun K hK => ?_) AllReadyH.nil)
                        go_simp
                        refine hK.out _ _ (by rw [World.cell?_setCell_far _ _ _ _ hbne]; exact harg2) (fun hHeld => ?_)
                        clear hK K
                        try simp only [Act.put, List.setIfInBounds_toArray, List.set_cons_zero, List.set_cons_succ, List.getElem_toArray, List.getElem_cons_succ, List.getElem_cons_zero]
                        refine wpAnyH_done (by kernel_rfl) ?_ _
                        go_wp2
                        go_roundw
                        case rel => exact ⟨k + 1, _, by go_num, by omega, hfinH⟩
                        case measure => simp [intOf]; omega
                · obtain rfl : k = n := by omega
                  have hE := (show Hid (RAddV base gj g cb cap R v0 P w (.returned (.int .i64 0)) wr) from HEnd.out v wr hI.out)
                  clear hI
                  go_wp2
                  go_ret
                  exact hE.out
            · have hE1 : (PP.1 == 0) = false := by rw [beq_eq_false_iff_ne]; exact hE0
              have hE : Hid (RAddV base gj g cb cap R v0 P w (.returned (.int .i64 PP.1)) wc) := by
                refine (?_ : RAddV _ _ _ _ _ _ _ _ _ _ _)
                obtain ⟨u, ku, hq⟩ := hput.out
                rw [hp.out]
                exact raddV_put ku hq hE0
              clear hput hp hE0
              go_wp2
              go_ret
              exact hE.out
end Go.Proofs.Ytppknadflmjefaa
