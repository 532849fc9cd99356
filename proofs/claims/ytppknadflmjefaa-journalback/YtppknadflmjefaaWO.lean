/- Layer 15: the document's own Same. -/
import Derived.Test.YtppknadflmjefaaWN
namespace Go.Proofs.Ytppknadflmjefaa
open Go.RowKit Go.Deep Go.Maps
set_option linter.unusedVariables false
set_option linter.unusedSimpArgs false

theorem str_rows {a b : List Nat} (ha : Jl.Byt a) (hb : Jl.Byt b) (h : (str (Jl.rowL a) a.length).toList = (str (Jl.rowL b) b.length).toList) : a = b := by
  have h1 := (str_inj (L := a.length) (M := b.length) (Jl.rowL_bd ha) (Jl.rowL_bd hb)).1 h
  rw [← Jl.data_rowL a, ← Jl.data_rowL b, h1.1]
  exact Jl.data_congr (fun i hi => h1.2 i (by omega))
set_option maxRecDepth 100000 in
theorem rsame15_any {w : World} {A B : Option Addr} {n m : Nat} (ca cb : Nat) {vs us : List Value} {L M : List (List Nat)} (hA : MatV w A n vs L) (hB : MatV w B m us M) (hn : n ≤ 9000000) (hm : m ≤ 9000000) :
    Calls Try.prog 27 #[.slice A n ca, .slice B m cb] w fun e w' => e = .returned (.bool (decide (L = M))) ∧ Bw w w' := by
  obtain ⟨D, hD⟩ : ∃ D, Hid (decide (L = M) = D) := ⟨_, rfl⟩
  rw [hD.out]
  by_cases hnm : n = m
  · subst hnm
    go_enter Try.func27, Try.ntmps27
    go_wp2
    have HA : Hid (MatV w A n vs L) := hA
    have HB : Hid (MatV w B n us M) := hB
    clear hA hB
    go_loopw [5] (fun i wr => ∃ k : Nat, k ≤ n ∧ i = .int .i64 (k : Int) ∧ Hid (∀ j, j < k → L[j]? = M[j]?) ∧ Bw w wr) (fun i _ => n - (intOf i).toNat)
    case atStart => exact ⟨0, Nat.zero_le _, rfl, fun j hj => by omega, Bw.refl _⟩
    case round =>
      obtain ⟨k, hk, rfl, hz, hbw⟩ := hrel
      have k0 : (0 : Int) ≤ (k : Int) := Int.natCast_nonneg _
      by_cases hlt : k < n
      · have k1 : (k : Int) < (n : Int) := by omega
        have p4 : IntKind.i64.wrap ((k : Int) + 1) = (k : Int) + 1 := by rw [IntKind.wrap_i64]; omega
        obtain ⟨r, b1, o1, A1, c1, hr, rfl, hc1, _, _, hl1, hr1⟩ := (HA.out.keep hbw).row hlt
        obtain ⟨s, b2, o2, A2, c2, hs, rfl, hc2, _, _, hl2, hr2⟩ := (HB.out.keep hbw).row hlt
        have x1 : Hid (∀ q, (convert 37 9 (.slice A1 r.length c1)).run Try.prog (wr.drewN q) = .ok (.string (str (Jl.rowL r) r.length)) (wr.drewN q)) := fun q => conv_row (hr1.keep (Bw.drewN _ _))
        have x2 : Hid (∀ q, (convert 37 9 (.slice A2 s.length c2)).run Try.prog (wr.drewN q) = .ok (.string (str (Jl.rowL s) s.length)) (wr.drewN q)) := fun q => conv_row (hr2.keep (Bw.drewN _ _))
        have hrb : Jl.Byt r := (RowV.byt (w := wr) (v := .slice A1 r.length c1) ⟨A1, c1, rfl, by assumption, by assumption, hl1, hr1⟩)
        have hsb : Jl.Byt s := (RowV.byt (w := wr) (v := .slice A2 s.length c2) ⟨A2, c2, rfl, by assumption, by assumption, hl2, hr2⟩)
        obtain ⟨X, hX⟩ : ∃ X, Hid (str (Jl.rowL r) r.length = X) := ⟨_, rfl⟩
        obtain ⟨Y, hY⟩ : ∃ Y, Hid (str (Jl.rowL s) s.length = Y) := ⟨_, rfl⟩
        rw [hX.out] at x1
        rw [hY.out] at x2
        have Hr : Hid (L[k]? = some r) := hr
        have Hs : Hid (M[k]? = some s) := hs
        obtain ⟨lr, hlr⟩ : ∃ n, Hid (r.length = n) := ⟨_, rfl⟩
        obtain ⟨ls, hls⟩ : ∃ n, Hid (s.length = n) := ⟨_, rfl⟩
        rw [hlr.out] at x1 hc1
        rw [hls.out] at x2 hc2
        replace x1 := x1.out
        replace x2 := x2.out
        have hb3 : Hid (∀ q, Bw w (wr.drewN q)) := fun q => hbw.trans (Bw.drewN _ _)
        have hXY : Hid (X.toList = Y.toList → r = s) := fun e => str_rows hrb hsb (by rw [hX.out, hY.out, e])
        clear hr hs hrb hsb hr1 hr2 hl1 hl2
        by_cases hxy : X.toList = Y.toList
        · have hfin : Hid (∀ j, j < k + 1 → L[j]? = M[j]?) := fun j hj => by
            by_cases e : j = k
            · rw [e, Hr.out, Hs.out, hXY.out hxy]
            · exact hz.out j (by omega)
          have he1 : (X.toList == Y.toList) = true := by rw [beq_iff_eq]; exact hxy
          clear hxy
          go_wp2
          go_quiet (fail)
          go_wp2
          go_roundw
          case rel => exact ⟨k + 1, by omega, by go_num, hfin, hb3.out _⟩
          case measure => simp [intOf]; omega
        · have hne : (X.toList == Y.toList) = false := by rw [beq_eq_false_iff_ne]; exact hxy
          have hD2 : Hid (D = false) := by
            show _ = _
            rw [← hD.out]
            refine decide_eq_false (fun e => hxy ?_)
            have h1 := Hr.out
            have h2 := Hs.out
            rw [e, h2] at h1
            cases h1
            rw [← hX.out, ← hY.out]
          clear hxy
          go_wp2
          go_quiet (fail)
          go_wp2
          go_ret
          exact ⟨ret_bool hD2.out.symm, hb3.out _⟩
      · obtain rfl : k = n := by omega
        have k1 : ¬ (k : Int) < (k : Int) := by omega
        have hD2 : Hid (D = true) := by
          show _ = _
          rw [← hD.out]
          refine decide_eq_true (List.ext_getElem? (fun i => ?_))
          by_cases hi : i < k
          · exact hz.out i hi
          · rw [List.getElem?_eq_none (by rw [HA.out.lenL]; omega), List.getElem?_eq_none (by rw [HB.out.lenL]; omega)]
        go_wp2
        go_ret
        exact ⟨ret_bool hD2.out.symm, hbw⟩
  · have hD2 : Hid (D = false) := by
      show _ = _
      rw [← hD.out]
      exact decide_eq_false (fun e => hnm (by rw [← hA.lenL, ← hB.lenL, e]))
    have q1 : ((n : Int) != (m : Int)) = true := by simp; omega
    clear hA hB hnm
    go_enter Try.func27, Try.ntmps27
    go_wp2
    go_ret
    exact ⟨ret_bool hD2.out.symm, Bw.refl _⟩
end Go.Proofs.Ytppknadflmjefaa
