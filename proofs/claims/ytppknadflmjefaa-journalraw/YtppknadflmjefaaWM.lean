/- Layer 15: Add, Rewrite. -/
import Derived.Test.YtppknadflmjefaaWL
namespace Go.Proofs.Ytppknadflmjefaa
open Go.RowKit Go.Deep Go.Maps
set_option linter.unusedVariables false
set_option linter.unusedSimpArgs false

theorem Jl.may_ok {J : Jl.Jn} {L : List (List Nat)} {rm : Nat} (h : Jl.may J L rm = 0) : J.dead = false ∧ (∀ r ∈ L, r.length ≤ 65535) ∧ (Jl.packed L).length ≤ rm := by
  unfold Jl.may at h
  cases hd : J.dead with
  | true => rw [hd, if_pos rfl] at h; cases h
  | false =>
    rw [hd, if_neg (by decide)] at h
    by_cases h1 : Jl.long L = true
    · rw [if_pos h1] at h; cases h
    · rw [if_neg h1] at h
      by_cases h2 : rm < (Jl.packed L).length
      · rw [if_pos h2] at h; cases h
      · exact ⟨rfl, fun r hr => Nat.not_lt.1 (fun h65 => h1 ((long_iff L).2 ⟨r, hr, h65⟩)), by omega⟩
theorem Jl.packed_len : ∀ (L : List (List Nat)), L.length ≤ (Jl.packed L).length
  | [] => Nat.le_refl _
  | r :: L => by have := Jl.packed_len L; rw [Jl.packed]; simp; omega
theorem Jl.put_L (J : Jl.Jn) (S : Dsk) (B : List Nat) (a t : Nat) : (Jl.put J S B a t).2.2.L = J.L := by
  unfold Jl.put Jl.put3
  show (if _ then _ else _ : Jl.Jn).L = _
  split <;> rfl
theorem Jl.put_r (J : Jl.Jn) (S : Dsk) (B : List Nat) (a t : Nat) : (Jl.put J S B a t).2.2.r0 = J.r0 ∧ (Jl.put J S B a t).2.2.rc = J.rc := by
  unfold Jl.put Jl.put3
  constructor
  · show (if _ then _ else _ : Jl.Jn).r0 = _
    split <;> rfl
  · show (if _ then _ else _ : Jl.Jn).rc = _
    split <;> rfl
/-- the blocks in which a slice of slices lies -/
def ArgIn (A : Option Addr) (n : Nat) (vs : List Value) (b : Nat) : Prop := (∃ o, A = some ⟨b, o, none⟩ ∧ 0 < n) ∨ ∃ u, u ∈ vs ∧ ∃ o m c, u = .slice (some ⟨b, o, none⟩) m c ∧ 0 < m
theorem bx_grown {w w' : World} {r : Option Nat} (h : w.grownBy w' r) : Bx (fun b => r = some b) w w' := ⟨h.os, h.tape, h.output, h.size, fun b hb hne => h.block b hb (fun e => hne e.symm)⟩
/-- how Add and Rewrite end -/
def AddV (base gj g lb gm : Nat) (R : Nat → Prop) (v : Value) (P : Int × Dsk × Jl.Jn) (w : World) (e : Ending) (w' : World) : Prop := ∃ v', e = .returned (.int .i64 P.1) ∧ DiskAt w' g lb gm P.2.1 ∧ JrAt w' base gj g (fun b => R b ∨ w.heap.size ≤ b) v' P.2.2 ∧ Bx (fun b => dIn g lb gm b ∨ jIn gj v b) w w' ∧ (∀ b, v'.ownBlock = some b → v.ownBlock = some b ∨ w.heap.size ≤ b)
theorem addV_same {w w' : World} {base gj g lb gm : Nat} {R : Nat → Prop} {v : Value} {J : Jl.Jn} {S : Dsk} (h : JrAt w base gj g R v J) (hd : DiskAt w g lb gm S) (E : Int) (k : Bw w w') : AddV base gj g lb gm R v (E, S, J) w (.returned (.int .i64 E)) w' :=
  ⟨v, rfl, hd.keep k, (h.keep k).more (fun b hb => .inl hb), Bx.of_bw k, fun b hb => .inl hb⟩
theorem addV_put {w w' : World} {base gj g lb gm : Nat} {R : Nat → Prop} {v : Value} {J : Jl.Jn} {P : Int × Dsk × Jl.Jn} {L : List (List Nat)} {W : World} {e : Ending} (hb : Bw w W) (h : PutV base gj g lb gm R v P W e w') (hE : P.1 ≠ 0) : AddV base gj g lb gm R v (Jl.withL J P L) w e w' := by
  obtain ⟨h1, h2, h3, h4⟩ := h
  have e1 : Jl.withL J P L = P := by unfold Jl.withL; rw [if_neg hE]
  rw [e1]
  exact ⟨v, h1, h2, h3.more (fun b hb => .inl hb), (Bx.of_bw hb).trans (h4.more (fun b e => e.elim .inl (fun e => .inr (.inl e)))), fun b hb => .inl hb⟩
set_option maxRecDepth 100000 in
set_option maxHeartbeats 4000000 in
theorem jadd_any {w : World} {base gj g lb gm : Nat} {R : Nat → Prop} {v : Value} {J : Jl.Jn} {S : Dsk} (h : JrAt w base gj g R v J) (hd : DiskAt w g lb gm S) (hR : ∀ b, R b → ¬ dIn g lb gm b) (hin : J.r0 + J.rc ≤ S.n) (hfw : J.Few) {A : Option Addr} {n : Nat} (ca : Nat) {vs : List Value} {L : List (List Nat)} (hM : MatV w A n vs L) (hn : n ≤ 1000000) (hs : (Jl.packed L).length ≤ 1000000) (hAr : ∀ b, ArgIn A n vs b → ¬ (dIn g lb gm b ∨ jIn gj v b)) :
    Calls Try.prog 21 #[.pointer (some ⟨gj, 0, none⟩), .slice A n ca] w fun e w' => AddV base gj g lb gm R v (Jl.add J S L) w e w' := by
  have HRo := jroom_any h
  have hrl := Jl.room_le h.ok.rc
  obtain ⟨rm, hrm⟩ : ∃ r, Hid (Jl.room J.rc - J.h.len = r) := ⟨_, rfl⟩
  rw [hrm.out] at HRo
  have hrb : rm ≤ 2097088 := by rw [← hrm.out]; omega
  have HMy : Hid (∀ W, Bw w W → Calls Try.prog 52 #[.pointer (some ⟨gj, 0, none⟩), .slice A n ca, .int .i64 (rm : Int)] W fun e w' => e = .returned (.int .i64 (Jl.may J L rm)) ∧ w' = W) := fun W k => jmay_any (h.keep k) ca rm (hM.keep k) hn hs hrb
  obtain ⟨E, hE⟩ : ∃ E, Hid (Jl.may J L rm = E) := ⟨_, rfl⟩
  rw [hE.out] at HMy
  by_cases hE0 : E = 0
  · subst hE0
    obtain ⟨hJd, hl65, hpl⟩ := Jl.may_ok hE.out
    have hatl : J.h.len + (Jl.packed L).length ≤ Jl.room J.rc := by have := h.ok.fit.2.2; have := hrm.out; omega
    have hLn := hM.lenL
    by_cases hn0 : n = 0
    · subst hn0
      have hadd : Jl.add J S L = (0, S, J) := by unfold Jl.add; rw [hrm.out, hE.out, if_neg (by decide), if_pos hLn]
      rw [hadd]
      have hend : Hid (∀ W, Bw w W → AddV base gj g lb gm R v (0, S, J) w (.returned (.int .i64 0)) W) := fun W k => addV_same h hd 0 k
      clear h hd hM hadd hl65
      go_enter Try.func21, Try.ntmps21
      go_wp2_with (first
        | (go_at_call 23; refine HRo.mono ?_; rintro e w1 ⟨rfl, hb1⟩; clear HRo)
        | (go_at_call 52; refine (HMy.out w1 hb1).mono ?_; rintro e w2 ⟨rfl, hw⟩; obtain rfl := hw.symm))
      go_ret
      exact hend.out _ hb1
    · have hadd : Jl.add J S L = Jl.withL J (Jl.put J S (Jl.packed L) J.h.area J.h.len) (J.L ++ L) := by unfold Jl.add; rw [hrm.out, hE.out, if_neg (by decide), if_neg (by omega)]
      rw [hadd]
      have HPu : Hid (∀ W, Bw w W → Calls Try.prog 53 #[.pointer (some ⟨gj, 0, none⟩), .slice A n ca, .int .i64 (J.h.area : Int), .int .i64 (J.h.len : Int)] W fun e w' => PutV base gj g lb gm R v (Jl.put J S (Jl.packed L) J.h.area J.h.len) W e w') := fun W k => jput_any (h.keep k) (hd.keep k) hR hin ca (hM.keep k) hn hs hl65 J.h.area J.h.len h.ok.fit.2.1 hatl
      obtain ⟨P, hP⟩ : ∃ P, Hid (Jl.put J S (Jl.packed L) J.h.area J.h.len = P) := ⟨_, rfl⟩
      rw [hP.out] at HPu ⊢
      have n0 : ((n : Int) == 0) = false := by simp; omega
      have HC45 : Hid (∀ W, Bw w W → W.cell? ⟨gj, 4, none⟩ = some (.int .i64 (J.h.area : Int)) ∧ W.cell? ⟨gj, 5, none⟩ = some (.int .i64 (J.h.len : Int))) := fun W k => ⟨(h.keep k).c4, (h.keep k).c5⟩
      have hlow := hM.rows.low
      by_cases hP0 : P.1 = 0
      · have HPu' : Hid (∀ W, Bw w W → Calls Try.prog 53 #[.pointer (some ⟨gj, 0, none⟩), .slice A n ca, .int .i64 (J.h.area : Int), .int .i64 (J.h.len : Int)] W fun e w' => e = .returned (.int .i64 0) ∧ Hid (DiskAt w' g lb gm P.2.1 ∧ JrAt w' base gj g R v P.2.2 ∧ Bx (fun b => dIn g lb gm b ∨ b = gj) W w')) := fun W k => (HPu.out W k).mono (fun e w' hp => ⟨by rw [hp.1, hP0], hp.2⟩)
        have hPL : P.2.2.L = J.L := by rw [← hP.out]; exact Jl.put_L J S _ _ _
        have hPr : P.2.2.rc = J.rc := by rw [← hP.out]; exact (Jl.put_r J S _ _ _).2
        have hLl := Jl.packed_len L
        have hfew : J.L.length ≤ 2097088 := by unfold Jl.Jn.Few at hfw; have := h.ok.fit.2.2; omega
        have HRest : Hid (∀ W W', Bw w W → (DiskAt W' g lb gm P.2.1 ∧ JrAt W' base gj g R v P.2.2 ∧ Bx (fun b => dIn g lb gm b ∨ b = gj) W W') → ∀ W'', W'.drew = W'' →
            Hid (Calls Try.prog 51 #[.slice A n ca] W'' fun e w' => CopyV W'' n L e w') ∧ Hid (∀ W4, Bw W'' W4 → W4.cell? ⟨gj, 6, none⟩ = some v ∧ True) ∧
            Hid (∀ w4 g4 us, w4.ownsRow W''.heap.size 37 1 (.slice (some ⟨g4, 0, none⟩) n n) n us → RowsV w4 us L → RIn (fun b => W''.heap.size ≤ b) us → Bw W'' w4 →
              w4.cell? ⟨gj, 6, none⟩ = some v ∧ (∀ j u, us[j]? = some u → w4.cell? ((⟨g4, 0, none⟩ : Addr).add j) = some u) ∧ (∀ u ∈ us, u.oneCell' = true) ∧ ∃ vs0, w4.ownsRow base 37 1 v J.L.length vs0 ∧ J.L.length + n ≤ maxLen ∧ (J.L.length + n) * 24 ≤ 140737488355328 ∧ base ≤ w4.heap.size ∧
              Hid (∀ g5 c5 w5, w5.ownsRow base 37 1 (.slice (some ⟨g5, 0, none⟩) (J.L.length + n) c5) (J.L.length + n) (vs0 ++ us) → w4.grownBy w5 v.ownBlock → (v.ownBlock = some g5 ∨ g5 = w4.heap.size) →
                w5.cell? ⟨gj, 6, none⟩ = some v ∧ w5.frozen? ⟨gj, 6, none⟩ = false ∧ Hid (AddV base gj g lb gm R v (Jl.withL J P (J.L ++ L)) w (.returned (.int .i64 0)) (w5.setCell ⟨gj, 6, none⟩ (.slice (some ⟨g5, 0, none⟩) (J.L.length + n) c5)))))) := by
          intro W W' k ⟨kd, kj, kx⟩ W'' hW''
          have kdr : Bw W' W'' := by rw [← hW'']; exact (Bw.refl _).drew
          have kdd := kd.keep kdr
          have kjd := kj.keep kdr
          have kxx : Bx (fun b => dIn g lb gm b ∨ jIn gj v b) w W'' := ((Bx.of_bw k).trans (kx.more (fun b e => e.elim .inl (fun e => .inr (.inl e))))).trans (Bx.of_bw kdr)
          have hMx : MatV W'' A n vs L := hM.keepx kxx (fun b o e h0 => hAr b (.inl ⟨o, e, h0⟩)) (fun u hu b o m c e h0 => hAr b (.inr ⟨u, hu, o, m, c, e, h0⟩))
          refine ⟨jcopied_any ca hMx (by omega), fun W4 k4 => ⟨(kjd.keep k4).c6, trivial⟩, fun w4 g4 us ko kr ki kb => ?_⟩
          have kj4 := kjd.keep kb
          have kd4 := kdd.keep kb
          obtain ⟨vs0, o1, o2, o3, o4⟩ := kj4.recs
          rw [hPL] at o1 o2
          obtain ⟨A', c', e', m1, m2, mM, m3⟩ := mat_of_own ko kr
          cases e'
          have hsz : w.heap.size ≤ W''.heap.size := kxx.size
          refine ⟨kj4.c6, fun j u hu => ?_, fun u hu => ?_, vs0, o1, by unfold maxLen; omega, by omega, Nat.le_trans kj4.ge (Nat.le_of_lt kj4.lt), fun g5 c5 w5 ho5 hg5 hat5 => ?_⟩
          · rcases mM.cells with h0 | ⟨b', o', e', hc'⟩
            · omega
            · cases e'
              rw [Addr.add_lit]
              exact hc' j u hu
          · obtain ⟨i, hi, rfl⟩ := List.getElem_of_mem hu
            have hi' : i < L.length := kr.1 ▸ hi
            obtain ⟨A2, c2, e2, _⟩ := kr.2 i us[i] (L[i]'hi') (List.getElem?_eq_getElem hi) (List.getElem?_eq_getElem hi')
            rw [e2]; rfl
          · have hne : v.ownBlock ≠ some gj := fun e => own_ne kj4 gj e rfl
            have hgj5 : w5.heap[gj]? = w4.heap[gj]? := hg5.block gj kj4.lt (fun e => hne e.symm)
            have hcells5 := hgj5.trans kj4.cells
            have kx5 : Bx (fun b => v.ownBlock = some b) w4 w5 := bx_grown hg5
            refine ⟨cell_of_row w5 gj 6 _ _ _ hcells5, frozen_of_row w5 gj 6 _ _ hcells5, ?_⟩
            have hE : Jl.withL J P (J.L ++ L) = (0, P.2.1, { P.2.2 with L := J.L ++ L }) := by unfold Jl.withL; rw [if_pos hP0, hP0]
            rw [hE]
            have kx6 : Bx (· = gj) w5 (w5.setCell ⟨gj, 6, none⟩ (.slice (some ⟨g5, 0, none⟩) (J.L.length + n) c5)) := (Bx.refl _ _).put rfl
            have hr4 : ∀ b, b < w4.heap.size → ¬ jIn gj v b → ¬ jIn gj (.slice (some ⟨g5, 0, none⟩) (J.L.length + n) c5) b := fun b hb hn hj => by
              rcases hj with hj | hj
              · exact hn (.inl hj)
              · simp only [Value.ownBlock, Option.some.injEq] at hj
                rcases hat5 with h5 | h5
                · rw [hj] at h5; exact hn (.inr h5)
                · omega
            have hnew : ∀ b, W''.heap.size ≤ b → ¬ jIn gj v b := fun b hb hj => by
              have := kjd.jlow b hj
              omega
            have hrows : RowsV w5 (vs0 ++ us) (J.L ++ L) := (o2.keepx kx5 (o4.mono (fun b hb e => hb (.inr e)))).append (kr.keepx kx5 (ki.mono (fun b hb e => hnew b hb (.inr e))))
            have hsep : RIn (fun b => ¬ jIn gj (.slice (some ⟨g5, 0, none⟩) (J.L.length + n) c5) b) (vs0 ++ us) := (fun u hu b o m c e h0 => by
              rcases List.mem_append.1 hu with hu | hu
              · exact hr4 b (o2.low u hu b o m c e h0) (o4 u hu b o m c e h0)
              · exact hr4 b (kr.low u hu b o m c e h0) (hnew b (ki u hu b o m c e h0)))
            refine ⟨.slice (some ⟨g5, 0, none⟩) (J.L.length + n) c5, rfl, ?_, ⟨heap_setCell_same w5 gj 6 _ _ _ hcells5, ⟨vs0 ++ us, ?_, ?_, ?_, hsep⟩, kj4.ge, ⟨kj4.ok.rc4, kj4.ok.rc, kj4.ok.r0, kj4.ok.fit, ?_⟩⟩, ?_, fun b hb => ?_⟩
            · exact (kd4.keepj kj4 (fun b e => .inr e) kx5).keepx kx6 (fun e => jd_ne kj4 kd4 gj (.inl rfl) (.inl e.symm)) (fun e => jd_ne kj4 kd4 gj (.inl rfl) (.inr (.inl e.symm))) (fun e => jd_ne kj4 kd4 gj (.inl rfl) (.inr (.inr e.symm)))
            · have := own_keepx15 ho5 kx6 (fun b hb e => by
                have e' : b = gj := e
                simp only [Value.ownBlock, Option.some.injEq] at hb
                rcases hat5 with h5 | h5
                · rw [hb, e'] at h5; exact hne h5
                · have := kj4.lt; omega)
              rw [← hLn, ← List.length_append] at this
              rw [← hLn, ← List.length_append]
              exact this
            · exact hrows.keepx kx6 (hsep.mono (fun b hb e => hb (.inl e)))
            · exact (fun u hu b o m c e h0 => by
                rcases List.mem_append.1 hu with hu | hu
                · exact .inl (o3 u hu b o m c e h0)
                · exact .inr (Nat.le_trans hsz (ki u hu b o m c e h0)))
            · show (J.L ++ L).length ≤ 4000000
              rw [List.length_append, hLn]; omega
            · exact ((kxx.trans (Bx.of_bw kb)).trans (kx5.more (fun b e => .inr (.inr e)))).trans (kx6.more (fun b e => .inr (.inl e)))
            · simp only [Value.ownBlock, Option.some.injEq] at hb
              rcases hat5 with h5 | h5
              · exact .inl (by rw [h5, hb])
              · exact .inr (by have := kb.size; omega)
        clear hadd hl65 HPu h hd hM hlow
        obtain ⟨i0, hi0, hz0, hz1, hz2⟩ := info_parts info_row15
        go_enter Try.func21, Try.ntmps21
        go_wp2_with (first
          | (go_at_call 23; refine HRo.mono ?_; rintro e w1 ⟨rfl, hb1⟩; clear HRo)
          | (go_at_call 52; refine (HMy.out w1 hb1).mono ?_; rintro e w2 ⟨rfl, hw⟩; obtain rfl := hw.symm; obtain ⟨d4, d5⟩ := HC45.out _ hb1))
        have hb1d : Bw w w1.drew := hb1.trans ((Bw.refl _).drew)
        go_region_with (go_at_call 53; refine (HPu'.out _ hb1d).mono ?_; rintro e w3 ⟨rfl, hp⟩)
        all_goals go_wp2
-- R9
        all_goals (
          obtain ⟨w3d, hw3d⟩ : ∃ W, Hid (w3.drew = W) := ⟨_, rfl⟩
          obtain ⟨HCo, HCel, HFin⟩ := HRest.out w1.drew w3 hb1d hp.out w3d hw3d.out
          have cz := (HCel.out w3d (Bw.refl _)).1
          refine wp_region_any (by kernel_rfl) ?_
          change wpAny _ _ _ _ _ _ _ (World.drew _)
          rw [hw3d.out]
          refine wpAny_take (i := 0) (v := ?_) rfl (by kernel_rfl) (by kernel_rfl) (by kernel_rfl) (fun _ _ _ h => h) (Or.inl ⟨by rfl, ?_⟩) ?_
          rotate_left
          · intro w; go_simp; all_goals (with_reducible rfl)
          try simp only [Act.put, List.setIfInBounds_toArray, List.set_cons_zero, List.set_cons_succ, List.getElem_toArray, List.getElem_cons_succ, List.getElem_cons_zero]
          refine wpAny_take (i := 1) (v := ?_) rfl (by kernel_rfl) (by kernel_rfl) (by kernel_rfl) (fun _ _ _ h => h) (Or.inl ⟨by rfl, ?_⟩) ?_
          rotate_left
          · intro w; go_simp; all_goals (with_reducible rfl)
          try simp only [Act.put, List.setIfInBounds_toArray, List.set_cons_zero, List.set_cons_succ, List.getElem_toArray, List.getElem_cons_succ, List.getElem_cons_zero]
          refine wpAny_take (i := 2) (v := ?_) rfl (by kernel_rfl) (by kernel_rfl) (by kernel_rfl) (fun _ _ _ h => h) (Or.inl ⟨by rfl, ?_⟩) ?_
          rotate_left
          · intro w; go_simp; all_goals (with_reducible rfl)
          try simp only [Act.put, List.setIfInBounds_toArray, List.set_cons_zero, List.set_cons_succ, List.getElem_toArray, List.getElem_cons_succ, List.getElem_cons_zero]
          refine wpAny_take (i := 3) (v := ?_) rfl (by kernel_rfl) (by kernel_rfl) (by kernel_rfl) (fun _ _ _ h => h) (Or.inl ⟨by rfl, ?_⟩) ?_
          rotate_left
          · intro w; go_simp; all_goals (with_reducible rfl)
          try simp only [Act.put, List.setIfInBounds_toArray, List.set_cons_zero, List.set_cons_succ, List.getElem_toArray, List.getElem_cons_succ, List.getElem_cons_zero]
          refine wpAny_take (i := 5) (v := ?_) rfl (by kernel_rfl) (by kernel_rfl) (by kernel_rfl) (fun _ _ _ h => h) (Or.inl ⟨by rfl, ?_⟩) ?_
          rotate_left
          · intro w; go_simp; all_goals (with_reducible rfl)
          try simp only [Act.put, List.setIfInBounds_toArray, List.set_cons_zero, List.set_cons_succ, List.getElem_toArray, List.getElem_cons_succ, List.getElem_cons_zero]
          refine wpAny_ready (rs := [4, 6]) (by kernel_rfl) (by simp) ?_
          refine AllReady.cons rfl (fun K hK => ?_) (AllReady.cons rfl (fun K hK => ?_) AllReady.nil)
          · skip
            go_simp
            refine hK _ _ ?_
            clear hK K
            try simp only [Act.put, List.setIfInBounds_toArray, List.set_cons_zero, List.set_cons_succ, List.getElem_toArray, List.getElem_cons_succ, List.getElem_cons_zero]
            refine wpAny_ready (rs := [6]) (by kernel_rfl) (by simp) ?_
            refine AllReady.cons rfl (fun K hK => ?_) AllReady.nil
            go_simp
            go_at_call 51
            refine HCo.out.mono ?_
            rintro e w4 ⟨g4, us, rfl, kown4, krow4, krin4, kbw4⟩
            obtain ⟨cy, kn4, kone, vs0, kown, kmx, kby, kbase, kfin⟩ := HFin.out w4 g4 us kown4 krow4 krin4 kbw4
            refine hK _ _ ?_
            clear hK K
            try simp only [Act.put, List.setIfInBounds_toArray, List.set_cons_zero, List.set_cons_succ, List.getElem_toArray, List.getElem_cons_succ, List.getElem_cons_zero]
            refine wpAny_ready (rs := [7]) (by kernel_rfl) (by simp) ?_
            refine AllReady.cons rfl (fun K hK => ?_) AllReady.nil
            refine step_append_lies _ (by rfl) _ _ _ (by rfl) base 37 i0 _ 1 24 Try.underlying42 hi0 hz0 hz1 hz2 rfl (by omega) v _ vs0 (by rfl) kown ⟨g4, 0, none⟩ n n us (by rfl) (by rw [kown4.1]) kn4 kone (by omega) kmx kby kbase w4.heap.size rfl ?_
            intro g5 c5 w5 hown5 hgrow5 hat5 hlt5
            obtain ⟨l1, l2, hend⟩ := kfin.out g5 c5 w5 hown5 hgrow5 hat5
            refine hK _ _ ?_
            clear hK K
            try simp only [Act.put, List.setIfInBounds_toArray, List.set_cons_zero, List.set_cons_succ, List.getElem_toArray, List.getElem_cons_succ, List.getElem_cons_zero]
            refine wpAny_take (i := 8) (v := ?_) rfl (by kernel_rfl) (by kernel_rfl) (by kernel_rfl) (fun _ _ _ h => h) (Or.inl ⟨by rfl, ?_⟩) ?_
            rotate_left
            · intro w; go_simp; all_goals (with_reducible rfl)
            try simp only [Act.put, List.setIfInBounds_toArray, List.set_cons_zero, List.set_cons_succ, List.getElem_toArray, List.getElem_cons_succ, List.getElem_cons_zero]
            refine wpAny_take (i := 9) (v := ?_) rfl (by kernel_rfl) (by kernel_rfl) (by kernel_rfl) (fun _ _ _ h => h) (Or.inl ⟨by rfl, ?_⟩) ?_
            rotate_left
            · intro w; go_simp; all_goals (with_reducible rfl)
            try simp only [Act.put, List.setIfInBounds_toArray, List.set_cons_zero, List.set_cons_succ, List.getElem_toArray, List.getElem_cons_succ, List.getElem_cons_zero]
            refine wpAny_ready (rs := [10]) (by kernel_rfl) (by simp) ?_
            refine AllReady.cons rfl (fun K hK => ?_) AllReady.nil
            go_simp
            refine hK _ _ ?_
            clear hK K
            try simp only [Act.put, List.setIfInBounds_toArray, List.set_cons_zero, List.set_cons_succ, List.getElem_toArray, List.getElem_cons_succ, List.getElem_cons_zero]
            refine wpAny_done (by kernel_rfl) ?_ _
            go_wp2
            go_ret
            exact hend.out
          · skip
            go_simp
            go_at_call 51
            refine HCo.out.mono ?_
            rintro e w4 ⟨g4, us, rfl, kown4, krow4, krin4, kbw4⟩
            obtain ⟨cy, kn4, kone, vs0, kown, kmx, kby, kbase, kfin⟩ := HFin.out w4 g4 us kown4 krow4 krin4 kbw4
            refine hK _ _ ?_
            clear hK K
            try simp only [Act.put, List.setIfInBounds_toArray, List.set_cons_zero, List.set_cons_succ, List.getElem_toArray, List.getElem_cons_succ, List.getElem_cons_zero]
            refine wpAny_ready (rs := [4]) (by kernel_rfl) (by simp) ?_
            refine AllReady.cons rfl (fun K hK => ?_) AllReady.nil
            go_simp
            refine hK _ _ ?_
            clear hK K
            try simp only [Act.put, List.setIfInBounds_toArray, List.set_cons_zero, List.set_cons_succ, List.getElem_toArray, List.getElem_cons_succ, List.getElem_cons_zero]
            refine wpAny_ready (rs := [7]) (by kernel_rfl) (by simp) ?_
            refine AllReady.cons rfl (fun K hK => ?_) AllReady.nil
            refine step_append_lies _ (by rfl) _ _ _ (by rfl) base 37 i0 _ 1 24 Try.underlying42 hi0 hz0 hz1 hz2 rfl (by omega) v _ vs0 (by rfl) kown ⟨g4, 0, none⟩ n n us (by rfl) (by rw [kown4.1]) kn4 kone (by omega) kmx kby kbase w4.heap.size rfl ?_
            intro g5 c5 w5 hown5 hgrow5 hat5 hlt5
            obtain ⟨l1, l2, hend⟩ := kfin.out g5 c5 w5 hown5 hgrow5 hat5
            refine hK _ _ ?_
            clear hK K
            try simp only [Act.put, List.setIfInBounds_toArray, List.set_cons_zero, List.set_cons_succ, List.getElem_toArray, List.getElem_cons_succ, List.getElem_cons_zero]
            refine wpAny_take (i := 8) (v := ?_) rfl (by kernel_rfl) (by kernel_rfl) (by kernel_rfl) (fun _ _ _ h => h) (Or.inl ⟨by rfl, ?_⟩) ?_
            rotate_left
            · intro w; go_simp; all_goals (with_reducible rfl)
            try simp only [Act.put, List.setIfInBounds_toArray, List.set_cons_zero, List.set_cons_succ, List.getElem_toArray, List.getElem_cons_succ, List.getElem_cons_zero]
            refine wpAny_take (i := 9) (v := ?_) rfl (by kernel_rfl) (by kernel_rfl) (by kernel_rfl) (fun _ _ _ h => h) (Or.inl ⟨by rfl, ?_⟩) ?_
            rotate_left
            · intro w; go_simp; all_goals (with_reducible rfl)
            try simp only [Act.put, List.setIfInBounds_toArray, List.set_cons_zero, List.set_cons_succ, List.getElem_toArray, List.getElem_cons_succ, List.getElem_cons_zero]
            refine wpAny_ready (rs := [10]) (by kernel_rfl) (by simp) ?_
            refine AllReady.cons rfl (fun K hK => ?_) AllReady.nil
            go_simp
            refine hK _ _ ?_
            clear hK K
            try simp only [Act.put, List.setIfInBounds_toArray, List.set_cons_zero, List.set_cons_succ, List.getElem_toArray, List.getElem_cons_succ, List.getElem_cons_zero]
            refine wpAny_done (by kernel_rfl) ?_ _
            go_wp2
            go_ret
            exact hend.out)
-- /R9
      · have q2 : (P.1 != 0) = true := by simp [hP0]
        have HPu' : Hid (∀ W, Bw w W → Calls Try.prog 53 #[.pointer (some ⟨gj, 0, none⟩), .slice A n ca, .int .i64 (J.h.area : Int), .int .i64 (J.h.len : Int)] W fun e w' => e = .returned (.int .i64 P.1) ∧ Hid (PutV base gj g lb gm R v P W (.returned (.int .i64 P.1)) w')) := fun W k => (HPu.out W k).mono (fun e w' hp => ⟨hp.1, by have := hp.1; rw [this] at hp; exact hp⟩)
        have hend : Hid (∀ W w', Bw w W → PutV base gj g lb gm R v P W (.returned (.int .i64 P.1)) w' → AddV base gj g lb gm R v (Jl.withL J P (J.L ++ L)) w (.returned (.int .i64 P.1)) w') := fun W w' k hp => addV_put k hp hP0
        obtain ⟨E2, hE2⟩ : ∃ E2, Hid (P.1 = E2) := ⟨_, rfl⟩
        rw [hE2.out] at HPu' hend q2
        clear h hd hM hadd hl65 HPu hP0
        go_enter Try.func21, Try.ntmps21
        go_wp2_with (first
          | (go_at_call 23; refine HRo.mono ?_; rintro e w1 ⟨rfl, hb1⟩; clear HRo)
          | (go_at_call 52; refine (HMy.out w1 hb1).mono ?_; rintro e w2 ⟨rfl, hw⟩; obtain rfl := hw.symm; obtain ⟨d4, d5⟩ := HC45.out _ hb1))
        have hb1d : Bw w w1.drew := hb1.trans ((Bw.refl _).drew)
        go_region_with (go_at_call 53; refine (HPu'.out _ hb1d).mono ?_; rintro e w3 ⟨rfl, hp⟩)
        all_goals (go_wp2; go_ret; exact hend.out _ _ hb1d hp.out)
  · have hadd : Jl.add J S L = (E, S, J) := by unfold Jl.add; rw [hrm.out, hE.out, if_pos hE0]
    have q2 : (E != 0) = true := by simp [hE0]
    rw [hadd]
    have hend : Hid (∀ W, Bw w W → AddV base gj g lb gm R v (E, S, J) w (.returned (.int .i64 E)) W) := fun W k => addV_same h hd E k
    clear h hd hM hadd hE0
    go_enter Try.func21, Try.ntmps21
    go_wp2_with (first
      | (go_at_call 23; refine HRo.mono ?_; rintro e w1 ⟨rfl, hb1⟩; clear HRo)
      | (go_at_call 52; refine (HMy.out w1 hb1).mono ?_; rintro e w2 ⟨rfl, hw⟩; obtain rfl := hw.symm))
    go_ret
    exact hend.out _ hb1
end Go.Proofs.Ytppknadflmjefaa
