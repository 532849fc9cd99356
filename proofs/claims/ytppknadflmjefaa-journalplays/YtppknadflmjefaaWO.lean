/- Layer 15: the document's own Same. -/
import Derived.Test.YtppknadflmjefaaWM
namespace Go.Proofs.Ytppknadflmjefaa
open Go.RowKit Go.Deep Go.Maps
set_option linter.unusedVariables false
set_option linter.unusedSimpArgs false

set_option maxRecDepth 100000 in
set_option maxHeartbeats 4000000 in
theorem jrew_any {w : World} {base gj g lb gm : Nat} {R : Nat → Prop} {v : Value} {J : Jl.Jn} {S : Dsk} (h : JrAt w base gj g R v J) (hd : DiskAt w g lb gm S) (hR : ∀ b, R b → ¬ dIn g lb gm b) (hin : J.r0 + J.rc ≤ S.n) {A : Option Addr} {n : Nat} (ca : Nat) {vs : List Value} {L : List (List Nat)} (hM : MatV w A n vs L) (hn : n ≤ 1000000) (hs : (Jl.packed L).length ≤ 1000000) (hAr : ∀ b, ArgIn A n vs b → ¬ (dIn g lb gm b ∨ jIn gj v b)) :
    Calls Try.prog 22 #[.pointer (some ⟨gj, 0, none⟩), .slice A n ca] w fun e w' => AddV base gj g lb gm R v (Jl.rew J S L) w e w' := by
  have c1 := h.c1
  have c2 := h.c2
  have HRo := roomof_any (J.r0 : Int) J.rc h.ok.rc4 h.ok.rc w
  have hrl := Jl.room_le h.ok.rc
  obtain ⟨rm, hrm⟩ : ∃ r, Hid (Jl.room J.rc = r) := ⟨_, rfl⟩
  rw [hrm.out] at HRo hrl
  have HMy : Hid (∀ W, Bw w W → Calls Try.prog 52 #[.pointer (some ⟨gj, 0, none⟩), .slice A n ca, .int .i64 (rm : Int)] W fun e w' => e = .returned (.int .i64 (Jl.may J L rm)) ∧ w' = W) := fun W k => jmay_any (h.keep k) ca rm (hM.keep k) hn hs hrl
  obtain ⟨E, hE⟩ : ∃ E, Hid (Jl.may J L rm = E) := ⟨_, rfl⟩
  rw [hE.out] at HMy
  by_cases hE0 : E = 0
  · subst hE0
    obtain ⟨hJd, hl65, hpl⟩ := Jl.may_ok hE.out
    have hatl : 0 + (Jl.packed L).length ≤ Jl.room J.rc := by have := hrm.out; omega
    have hLn := hM.lenL
    have hrew : Jl.rew J S L = Jl.withL J (Jl.put J S (Jl.packed L) (1 - J.h.area) 0) L := by unfold Jl.rew; rw [hrm.out, hE.out, if_neg (by decide)]
    rw [hrew]
    have har := h.ok.fit.2.1
    obtain ⟨ar, hare⟩ : ∃ a, Hid (1 - J.h.area = a) := ⟨_, rfl⟩
    have ea : (1 : Int) - (J.h.area : Int) = (ar : Int) := by have := hare.out; omega
    have ew : IntKind.i64.wrap ((1 : Int) - (J.h.area : Int)) = (ar : Int) := by rw [IntKind.wrap_i64]; have := hare.out; omega
    have HPu : Hid (∀ W, Bw w W → Calls Try.prog 53 #[.pointer (some ⟨gj, 0, none⟩), .slice A n ca, .int .i64 (ar : Int), .int .i64 0] W fun e w' => PutV base gj g lb gm R v (Jl.put J S (Jl.packed L) (1 - J.h.area) 0) W e w') := fun W k => by
      rw [← hare.out]
      exact jput_any (h.keep k) (hd.keep k) hR hin ca (hM.keep k) hn hs hl65 (1 - J.h.area) 0 (by omega) hatl
    obtain ⟨P, hP⟩ : ∃ P, Hid (Jl.put J S (Jl.packed L) (1 - J.h.area) 0 = P) := ⟨_, rfl⟩
    rw [hP.out] at HPu ⊢
    have HC4 : Hid (∀ W, Bw w W → W.cell? ⟨gj, 4, none⟩ = some (.int .i64 (J.h.area : Int))) := fun W k => (h.keep k).c4
    by_cases hP0 : P.1 = 0
    · have HPu' : Hid (∀ W, Bw w W → Calls Try.prog 53 #[.pointer (some ⟨gj, 0, none⟩), .slice A n ca, .int .i64 (ar : Int), .int .i64 0] W fun e w' => e = .returned (.int .i64 0) ∧ Hid (DiskAt w' g lb gm P.2.1 ∧ JrAt w' base gj g R v P.2.2 ∧ Bx (fun b => dIn g lb gm b ∨ b = gj) W w')) := fun W k => (HPu.out W k).mono (fun e w' hp => ⟨by rw [hp.1, hP0], hp.2⟩)
      have HRest : Hid (∀ W W', Bw w W → (DiskAt W' g lb gm P.2.1 ∧ JrAt W' base gj g R v P.2.2 ∧ Bx (fun b => dIn g lb gm b ∨ b = gj) W W') →
          Hid (Calls Try.prog 51 #[.slice A n ca] W' fun e w' => CopyV W' n L e w') ∧
          Hid (∀ w4 g4 us, w4.ownsRow W'.heap.size 37 1 (.slice (some ⟨g4, 0, none⟩) n n) n us → RowsV w4 us L → RIn (fun b => W'.heap.size ≤ b) us → Bw W' w4 →
            w4.cell? ⟨gj, 6, none⟩ = some v ∧ w4.frozen? ⟨gj, 6, none⟩ = false ∧ Hid (AddV base gj g lb gm R v (Jl.withL J P L) w (.returned (.int .i64 0)) (w4.setCell ⟨gj, 6, none⟩ (.slice (some ⟨g4, 0, none⟩) n n))))) := by
        intro W W' k ⟨kd, kj, kx⟩
        have kxx : Bx (fun b => dIn g lb gm b ∨ jIn gj v b) w W' := (Bx.of_bw k).trans (kx.more (fun b e => e.elim .inl (fun e => .inr (.inl e))))
        have hMx : MatV W' A n vs L := hM.keepx kxx (fun b o e h0 => hAr b (.inl ⟨o, e, h0⟩)) (fun u hu b o m c e h0 => hAr b (.inr ⟨u, hu, o, m, c, e, h0⟩))
        refine ⟨jcopied_any ca hMx (by omega), fun w4 g4 us ko kr ki kb => ?_⟩
        have kj4 := kj.keep kb
        have kd4 := kd.keep kb
        have hsz : w.heap.size ≤ W'.heap.size := kxx.size
        have hg4 : W'.heap.size ≤ g4 := own_ge ko g4 rfl
        have hgj : gj < W'.heap.size := kj.lt
        have kx6 : Bx (· = gj) w4 (w4.setCell ⟨gj, 6, none⟩ (.slice (some ⟨g4, 0, none⟩) n n)) := (Bx.refl _ _).put rfl
        have hE : Jl.withL J P L = (0, P.2.1, { P.2.2 with L := L }) := by unfold Jl.withL; rw [if_pos hP0, hP0]
        have hgl : ∀ u ∈ us, VIn (fun b => b ≠ g4) u := fun u hu b o m c e h0 e' => by
          obtain ⟨i, hi, rfl⟩ := List.getElem_of_mem hu
          have hi' : i < L.length := kr.1 ▸ hi
          obtain ⟨A2, c2, e2, _, _, _, hr2⟩ := kr.2 i us[i] (L[i]'hi') (List.getElem?_eq_getElem hi) (List.getElem?_eq_getElem hi')
          rw [e2] at e
          cases e
          obtain ⟨b3, o3, e3, hc3⟩ := hr2.at h0
          cases e3
          have h5 := hc3 0 h0
          subst e'
          rcases ko.2 with ⟨e6, _⟩ | ⟨g6, cap6, cur6, e6, _, hg6, _, _, hs6, ht6⟩
          · cases e6
          · cases e6
            rw [cell_of_row w4 b _ cur6 _ _ hg6] at h5
            have hz : o + 0 < cur6.size := (Array.getElem?_eq_some_iff.1 h5).1
            have h6 : us[o + 0]? = some (.int .u8 (Jl.rowL (L[i]'hi') 0)) := by
              rw [← ht6, List.getElem?_take, if_pos (by omega), Array.getElem?_toList]; exact h5
            have hol : o + 0 < L.length := by rw [← kr.1]; exact (List.getElem?_eq_some_iff.1 h6).1
            obtain ⟨A7, c7, e7, _⟩ := kr.2 (o + 0) _ (L[o + 0]'hol) h6 (List.getElem?_eq_getElem hol)
            cases e7
        have hsep : RIn (fun b => ¬ jIn gj (.slice (some ⟨g4, 0, none⟩) n n) b) us := fun u hu b o m c e h0 hj => by
          rcases hj with hj | hj
          · have := ki u hu b o m c e h0; omega
          · simp only [Value.ownBlock, Option.some.injEq] at hj
            exact hgl u hu b o m c e h0 hj.symm
        refine ⟨kj4.c6, kj4.fz 6, ?_⟩
        rw [hE]
        refine ⟨.slice (some ⟨g4, 0, none⟩) n n, rfl, ?_, ⟨heap_setCell_same w4 gj 6 _ _ _ kj4.cells, ⟨us, ?_, ?_, ?_, hsep⟩, kj4.ge, ⟨kj4.ok.rc4, kj4.ok.rc, kj4.ok.r0, kj4.ok.fit, ?_⟩⟩, ?_, fun b hb => ?_⟩
        · exact kd4.keepj kj4 (fun b e => .inl e) kx6
        · have := own_keepx15 (own_low15 ko (Nat.le_trans kj.ge (Nat.le_of_lt kj.lt))) kx6 (fun b hb e => by
            have e' : b = gj := e
            simp only [Value.ownBlock, Option.some.injEq] at hb
            omega)
          rw [← hLn] at this
          rw [← hLn]
          exact this
        · exact kr.keepx kx6 (hsep.mono (fun b hb e => hb (.inl e)))
        · exact (fun u hu b o m c e h0 => .inr (Nat.le_trans hsz (ki u hu b o m c e h0)))
        · show L.length ≤ 4000000
          rw [hLn]; omega
        · exact (kxx.trans (Bx.of_bw kb)).trans (kx6.more (fun b e => .inr (.inl e)))
        · simp only [Value.ownBlock, Option.some.injEq] at hb
          exact .inr (by omega)
      clear hrew hl65 HPu h hd hM
      go_enter Try.func22, Try.ntmps22
      go_wp2_with (first
        | (go_at_call 54; refine HRo.mono ?_; rintro e w1 ⟨rfl, hb1⟩; clear HRo)
        | (go_at_call 52; refine (HMy.out w1 hb1).mono ?_; rintro e w2 ⟨rfl, hw⟩; obtain rfl := hw.symm; have d4 := HC4.out _ hb1)
        | (go_at_call 53; refine (HPu'.out _ hb1).mono ?_; rintro e w3 ⟨rfl, hp⟩; obtain ⟨HCo, HFin⟩ := HRest.out _ w3 hb1 hp.out)
        | (go_at_call 51; refine HCo.out.mono ?_; rintro e w4 ⟨g4, us, rfl, kown4, krow4, krin4, kbw4⟩; obtain ⟨l1, l2, hend⟩ := HFin.out w4 g4 us kown4 krow4 krin4 kbw4))
      go_ret
      exact hend.out
    · have q2 : (P.1 != 0) = true := by simp [hP0]
      have HPu' : Hid (∀ W, Bw w W → Calls Try.prog 53 #[.pointer (some ⟨gj, 0, none⟩), .slice A n ca, .int .i64 (ar : Int), .int .i64 0] W fun e w' => e = .returned (.int .i64 P.1) ∧ Hid (PutV base gj g lb gm R v P W (.returned (.int .i64 P.1)) w')) := fun W k => (HPu.out W k).mono (fun e w' hp => ⟨hp.1, by have := hp.1; rw [this] at hp; exact hp⟩)
      have hend : Hid (∀ W w', Bw w W → PutV base gj g lb gm R v P W (.returned (.int .i64 P.1)) w' → AddV base gj g lb gm R v (Jl.withL J P L) w (.returned (.int .i64 P.1)) w') := fun W w' k hp => addV_put k hp hP0
      obtain ⟨E2, hE2⟩ : ∃ E2, Hid (P.1 = E2) := ⟨_, rfl⟩
      rw [hE2.out] at HPu' hend q2
      clear h hd hM hrew hl65 HPu hP0
      go_enter Try.func22, Try.ntmps22
      go_wp2_with (first
        | (go_at_call 54; refine HRo.mono ?_; rintro e w1 ⟨rfl, hb1⟩; clear HRo)
        | (go_at_call 52; refine (HMy.out w1 hb1).mono ?_; rintro e w2 ⟨rfl, hw⟩; obtain rfl := hw.symm; have d4 := HC4.out _ hb1)
        | (go_at_call 53; refine (HPu'.out _ hb1).mono ?_; rintro e w3 ⟨rfl, hp⟩))
      go_ret
      exact hend.out _ _ hb1 hp.out
  · have hrew : Jl.rew J S L = (E, S, J) := by unfold Jl.rew; rw [hrm.out, hE.out, if_pos hE0]
    have q2 : (E != 0) = true := by simp [hE0]
    rw [hrew]
    have hend : Hid (∀ W, Bw w W → AddV base gj g lb gm R v (E, S, J) w (.returned (.int .i64 E)) W) := fun W k => addV_same h hd E k
    clear h hd hM hrew hE0
    go_enter Try.func22, Try.ntmps22
    go_wp2_with (first
      | (go_at_call 54; refine HRo.mono ?_; rintro e w1 ⟨rfl, hb1⟩; clear HRo)
      | (go_at_call 52; refine (HMy.out w1 hb1).mono ?_; rintro e w2 ⟨rfl, hw⟩; obtain rfl := hw.symm))
    go_ret
    exact hend.out _ hb1
end Go.Proofs.Ytppknadflmjefaa
namespace Go.Proofs.Ytppknadflmjefaa
open Go.RowKit Go.Deep Go.Maps
set_option linter.unusedVariables false
set_option linter.unusedSimpArgs false

theorem str_rows {a b : List Nat} (ha : Jl.Byt a) (hb : Jl.Byt b) (h : (str (Jl.rowL a) a.length).toList = (str (Jl.rowL b) b.length).toList) : a = b := by
  have h1 := (str_inj (L := a.length) (M := b.length) (Jl.rowL_bd ha) (Jl.rowL_bd hb)).1 h
  rw [← Jl.data_rowL a, ← Jl.data_rowL b, h1.1]
  exact Jl.data_congr (fun i hi => h1.2 i (by omega))
set_option maxRecDepth 100000 in
theorem rsame15_any {w : World} {A B : Option Addr} {n m : Nat} (ca cb : Nat) {vs us : List Value} {L M : List (List Nat)} (hA : MatV w A n vs L) (hB : MatV w B m us M) (hn : n ≤ 9000000) (hm : m ≤ 9000000) :
    Calls Try.prog 27 #[.slice A n ca, .slice B m cb] w fun e w' => e = .returned (.bool (decide (L = M))) ∧ Bw w w' := by
  obtain ⟨D, hD⟩ : ∃ D, Hid (decide (L = M) = D) := ⟨_, rfl⟩
  rw [hD.out]
  by_cases hnm : n = m
  · subst hnm
    go_enter Try.func27, Try.ntmps27
    go_wp2
    have HA : Hid (MatV w A n vs L) := hA
    have HB : Hid (MatV w B n us M) := hB
    clear hA hB
    go_loopw [5] (fun i wr => ∃ k : Nat, k ≤ n ∧ i = .int .i64 (k : Int) ∧ Hid (∀ j, j < k → L[j]? = M[j]?) ∧ Bw w wr) (fun i _ => n - (intOf i).toNat)
    case atStart => exact ⟨0, Nat.zero_le _, rfl, fun j hj => by omega, Bw.refl _⟩
    case round =>
      obtain ⟨k, hk, rfl, hz, hbw⟩ := hrel
      have k0 : (0 : Int) ≤ (k : Int) := Int.natCast_nonneg _
      by_cases hlt : k < n
      · have k1 : (k : Int) < (n : Int) := by omega
        have p4 : IntKind.i64.wrap ((k : Int) + 1) = (k : Int) + 1 := by rw [IntKind.wrap_i64]; omega
        obtain ⟨r, b1, o1, A1, c1, hr, rfl, hc1, _, _, hl1, hr1⟩ := (HA.out.keep hbw).row hlt
        obtain ⟨s, b2, o2, A2, c2, hs, rfl, hc2, _, _, hl2, hr2⟩ := (HB.out.keep hbw).row hlt
        have x1 : Hid (∀ q, (convert 37 9 (.slice A1 r.length c1)).run Try.prog (wr.drewN q) = .ok (.string (str (Jl.rowL r) r.length)) (wr.drewN q)) := fun q => conv_row (hr1.keep (Bw.drewN _ _))
        have x2 : Hid (∀ q, (convert 37 9 (.slice A2 s.length c2)).run Try.prog (wr.drewN q) = .ok (.string (str (Jl.rowL s) s.length)) (wr.drewN q)) := fun q => conv_row (hr2.keep (Bw.drewN _ _))
        have hrb : Jl.Byt r := (RowV.byt (w := wr) (v := .slice A1 r.length c1) ⟨A1, c1, rfl, by assumption, by assumption, hl1, hr1⟩)
        have hsb : Jl.Byt s := (RowV.byt (w := wr) (v := .slice A2 s.length c2) ⟨A2, c2, rfl, by assumption, by assumption, hl2, hr2⟩)
        obtain ⟨X, hX⟩ : ∃ X, Hid (str (Jl.rowL r) r.length = X) := ⟨_, rfl⟩
        obtain ⟨Y, hY⟩ : ∃ Y, Hid (str (Jl.rowL s) s.length = Y) := ⟨_, rfl⟩
        rw [hX.out] at x1
        rw [hY.out] at x2
        have Hr : Hid (L[k]? = some r) := hr
        have Hs : Hid (M[k]? = some s) := hs
        obtain ⟨lr, hlr⟩ : ∃ n, Hid (r.length = n) := ⟨_, rfl⟩
        obtain ⟨ls, hls⟩ : ∃ n, Hid (s.length = n) := ⟨_, rfl⟩
        rw [hlr.out] at x1 hc1
        rw [hls.out] at x2 hc2
        replace x1 := x1.out
        replace x2 := x2.out
        have hb3 : Hid (∀ q, Bw w (wr.drewN q)) := fun q => hbw.trans (Bw.drewN _ _)
        have hXY : Hid (X.toList = Y.toList → r = s) := fun e => str_rows hrb hsb (by rw [hX.out, hY.out, e])
        clear hr hs hrb hsb hr1 hr2 hl1 hl2
        by_cases hxy : X.toList = Y.toList
        · have hfin : Hid (∀ j, j < k + 1 → L[j]? = M[j]?) := fun j hj => by
            by_cases e : j = k
            · rw [e, Hr.out, Hs.out, hXY.out hxy]
            · exact hz.out j (by omega)
          have he1 : (X.toList == Y.toList) = true := by rw [beq_iff_eq]; exact hxy
          clear hxy
          go_wp2
          go_quiet (fail)
          go_wp2
          go_roundw
          case rel => exact ⟨k + 1, by omega, by go_num, hfin, hb3.out _⟩
          case measure => simp [intOf]; omega
        · have hne : (X.toList == Y.toList) = false := by rw [beq_eq_false_iff_ne]; exact hxy
          have hD2 : Hid (D = false) := by
            show _ = _
            rw [← hD.out]
            refine decide_eq_false (fun e => hxy ?_)
            have h1 := Hr.out
            have h2 := Hs.out
            rw [e, h2] at h1
            cases h1
            rw [← hX.out, ← hY.out]
          clear hxy
          go_wp2
          go_quiet (fail)
          go_wp2
          go_ret
          exact ⟨ret_bool hD2.out.symm, hb3.out _⟩
      · obtain rfl : k = n := by omega
        have k1 : ¬ (k : Int) < (k : Int) := by omega
        have hD2 : Hid (D = true) := by
          show _ = _
          rw [← hD.out]
          refine decide_eq_true (List.ext_getElem? (fun i => ?_))
          by_cases hi : i < k
          · exact hz.out i hi
          · rw [List.getElem?_eq_none (by rw [HA.out.lenL]; omega), List.getElem?_eq_none (by rw [HB.out.lenL]; omega)]
        go_wp2
        go_ret
        exact ⟨ret_bool hD2.out.symm, hbw⟩
  · have hD2 : Hid (D = false) := by
      show _ = _
      rw [← hD.out]
      exact decide_eq_false (fun e => hnm (by rw [← hA.lenL, ← hB.lenL, e]))
    have q1 : ((n : Int) != (m : Int)) = true := by simp; omega
    clear hA hB hnm
    go_enter Try.func27, Try.ntmps27
    go_wp2
    go_ret
    exact ⟨ret_bool hD2.out.symm, Bw.refl _⟩
end Go.Proofs.Ytppknadflmjefaa
