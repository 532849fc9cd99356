/- Proved: for every size, list of acts and count the statement SpaceFirst answers true (the document's P16.2 and P16.5: what is taken is the first place that holds as many, and given back leaves all as it was), with no condition but the reach. -/
import Derived.Test.YtfdfkhmaeeonpaaRs
import Derived.Test.YtfdfkhmaeeonpaaFd
import Derived.ShutString
import Derived.ChangeOld
namespace Go.Proofs.Ytfdfkhmaeeonpaa.spaceFirst
open Go.ChangeShapes Go.WideShapes Go.ChangeAt Go.RowKit
set_option linter.unusedVariables false

theorem mod512 (x : Int) : ∃ (r : Int) (N : Nat), Int.tmod x 512 = r ∧ -512 < r ∧ r < 512 ∧ Int.tmod (r + 512) 512 = (N : Int) ∧ N < 512 := by
  have h1 : -512 < Int.tmod x 512 ∧ Int.tmod x 512 < 512 := by
    rcases Int.le_total 0 x with h | h
    · rw [Int.tmod_eq_emod_of_nonneg h]; omega
    · have e : Int.tmod x 512 = -(Int.tmod (-x) 512) := by rw [Int.neg_tmod, Int.neg_neg]
      rw [e, Int.tmod_eq_emod_of_nonneg (by omega)]; omega
  refine ⟨_, ((Int.tmod x 512 + 512) % 512).toNat, rfl, h1.1, h1.2, ?_, by omega⟩
  rw [Int.tmod_eq_emod_of_nonneg (by omega)]
  omega
theorem Sp.place_ex {L : List Sp.Rn} {k x : Nat} (h : Sp.AllFree L x k) : ∃ y, Sp.Place L k y := by
  induction x using Nat.strongRecOn with
  | ind x ih =>
    by_cases hl : ∃ y, y < x ∧ Sp.AllFree L y k
    · obtain ⟨y, hy, ha⟩ := hl
      exact ih y hy ha
    · exact ⟨x, h, fun y hy ha => hl ⟨y, hy, ha⟩⟩
set_option maxRecDepth 100000 in
set_option maxHeartbeats 8000000 in
theorem walk (a0 : Int) (a1 : Option Addr) (len1 cap1 : Nat) (X1 : Nat → Ac16) (a2 : Int) (w : World) (w0 : (Lit.int .i64 a0).wf = true) (w1 : InActs16 w a1 len1 cap1 X1) (w2 : (Lit.int .i64 a2).wf = true) :
    Calls Try.prog 6 #[.int .i64 a0, .slice a1 len1 cap1, .int .i64 a2] w fun e w' => e = .returned (.bool true) ∧ Below w.heap.size w w' := by
  obtain ⟨r, N, hr, hr1, hr2, hN, hN2⟩ := mod512 a0
  have hr3 : (0 : Int) ≤ r + 512 := by omega
  have hr4 : r + 512 ≤ 1024 := by omega
  clear hr1 hr2
  have l63 : len1 ≤ 140737488351232 := Nat.le_trans w1.le w1.room
  have HA : Hid (InActs16 w a1 len1 cap1 X1) := w1
  by_cases hgt : 60 < len1
  · have d1 : decide (60 < (len1 : Int)) = true := by rw [decide_eq_true_eq]; omega
    clear w1 hN2
    go_enter Try.func6, Try.ntmps6
    go_wp2_with (go_at_call 7; refine (wakes16_any _).mono ?_; rintro e w1 ⟨rfl, hb1⟩)
    go_ret
    exact ⟨rfl, hb1⟩
  · have d1 : decide (60 < (len1 : Int)) = false := by rw [decide_eq_false_iff_not]; omega
    have H0 : Hid (Calls Try.prog 8 #[.int .i64 (N : Int)] w fun e w' => ∃ g, e = .returned (.tuple #[.pointer (some ⟨g, 0, none⟩), .int .i64 0]) ∧ Hid (Any16 w g N w')) := by
      refine (snew_any (N : Int) w).mono ?_
      rintro e w' (⟨h, _⟩ | ⟨h, _⟩ | ⟨N', g, b, c, h1, h2, h3, h4, h5, h6, h7⟩)
      · omega
      · omega
      · obtain rfl : N = N' := by omega
        exact ⟨g, h3, _, sps_new h4 h5 h6 h7⟩
    clear w1
    go_enter Try.func6, Try.ntmps6
    go_upto_region 7 with (go_at_call 8; refine H0.out.mono ?_; rintro e w1 ⟨g, rfl, h1⟩)
    have HT : Hid (∀ u, Any16 w g N u → ∀ k, Calls Try.prog 10 #[.pointer (some ⟨g, 0, none⟩), .int .i64 k] u fun e w' => ∃ v, e = .returned v ∧ Hid (Any16 w g N w')) := fun u h k => any_take h k
    have HH : Hid (∀ u, Any16 w g N u → ∀ i, Calls Try.prog 12 #[.pointer (some ⟨g, 0, none⟩), .agg #[.int .i64 (X1 i).at_, .int .i64 (X1 i).ct_]] u fun e w' => ∃ v, e = .returned v ∧ Hid (Any16 w g N w')) := fun u h i => any_hold h _ _ (HA.out.acts i).ab (HA.out.acts i).cb
    have HGv : Hid (∀ u, Any16 w g N u → ∀ i, Calls Try.prog 14 #[.pointer (some ⟨g, 0, none⟩), .agg #[.int .i64 (X1 i).at_, .int .i64 (X1 i).ct_]] u fun e w' => ∃ v, e = .returned v ∧ Hid (Any16 w g N w')) := fun u h i => any_give h _ _ (HA.out.acts i).ab (HA.out.acts i).cb
    have HBw : Hid (∀ u, Any16 w g N u → Bw w u) := fun u h => by obtain ⟨L, h⟩ := h; exact h.bw
    go_wp2
    clear d1
    go_loopw [9] (fun s9 wr => ∃ i : Nat, s9 = .int .i64 (i : Int) ∧ i ≤ len1 ∧ Hid (Any16 w g N wr)) (fun s9 _ => len1 - (intOf s9).toNat)
    case atStart => exact ⟨0, rfl, Nat.zero_le _, h1.out⟩
    case round =>
      obtain ⟨i, rfl, hi, hany⟩ := hrel
      have i0 : (0 : Int) ≤ (i : Int) := Int.natCast_nonneg _
      by_cases hlt : i < len1
      · have i1 : (i : Int) < (len1 : Int) := by omega
        have hq := HA.out.keep (HBw.out _ hany.out)
        obtain ⟨ab, ao, rfl, hc⟩ : ∃ b off, a1 = some ⟨b, off, none⟩ ∧ ∀ k v, (X1 i).vals[k]? = some v → wr.cell? ⟨b, off + i * 3 + k, none⟩ = some v := by
          rcases hq.at_ with h0 | ⟨b, off, e, h⟩
          · omega
          · exact ⟨b, off, e, h i hlt⟩
        have c0 : wr.cell? ⟨ab, ao + i * 3, none⟩ = some (.int .i64 (X1 i).do_) := hc 0 _ rfl
        have c1 : wr.cell? ⟨ab, ao + i * 3 + 1, none⟩ = some (.int .i64 (X1 i).at_) := hc 1 _ rfl
        have c2 : wr.cell? ⟨ab, ao + i * 3 + 1 + 1, none⟩ = some (.int .i64 (X1 i).ct_) := hc 2 _ rfl
        clear hc hq hlt
        obtain ⟨d, hd⟩ : ∃ d, Hid ((X1 i).do_ = d) := ⟨_, rfl⟩
        rw [hd.out] at c0
        by_cases e0 : d = 0
        · subst e0
          go_wp2_with (go_at_call 10; refine (HT.out _ hany.out _).mono ?_; rintro e w2 ⟨v, rfl, h2⟩)
          go_roundw
          case rel => exact ⟨i + 1, by go_num, by omega, h2⟩
          case measure => simp [intOf]; omega
        · have f0 : (d == 0) = false := by rw [beq_eq_false_iff_ne]; exact e0
          by_cases e1 : d = 1
          · subst e1
            go_wp2_with (go_at_call 12; refine (HH.out _ hany.out i).mono ?_; rintro e w2 ⟨v, rfl, h2⟩)
            go_roundw
            case rel => exact ⟨i + 1, by go_num, by omega, h2⟩
            case measure => simp [intOf]; omega
          · have f1 : (d == 1) = false := by rw [beq_eq_false_iff_ne]; exact e1
            by_cases e2 : d = 2
            · subst e2
              go_wp2_with (go_at_call 14; refine (HGv.out _ hany.out i).mono ?_; rintro e w2 ⟨v, rfl, h2⟩)
              go_roundw
              case rel => exact ⟨i + 1, by go_num, by omega, h2⟩
              case measure => simp [intOf]; omega
            · have f2 : (d == 2) = false := by rw [beq_eq_false_iff_ne]; exact e2
              go_wp2
              go_roundw
              case rel => exact ⟨i + 1, by go_num, by omega, hany⟩
              case measure => simp [intOf]; omega
      · obtain rfl : i = len1 := by omega
        go_upto_region 17 with fail
        obtain ⟨L, hS⟩ := hany.out
        clear hlt HT HH HGv HBw
        have hLn := hS.norm
        have HRu : Hid (∃ m, Hid (L.length = m) ∧ m ≤ 65536 ∧ Calls Try.prog 19 #[.pointer (some ⟨g, 0, none⟩)] wr fun e w' => ∃ bw, e = .returned (.slice (some ⟨bw, 0, none⟩) m m) ∧ Hid (Twos w g N L bw L w')) := ⟨_, rfl, by have := hLn.len; omega, tw_new hS⟩
        obtain ⟨m, hm, hm2, HRu⟩ := HRu.out
        have HR2 : Hid (∀ u bw, Twos w g N L bw L u → Calls Try.prog 19 #[.pointer (some ⟨g, 0, none⟩)] u fun e w' => ∃ b2, e = .returned (.slice (some ⟨b2, 0, none⟩) m m) ∧ Hid (Twos w g N L bw L w' ∧ RB w' 32 b2 m L)) := fun u bw h => by
          refine (tw_runs h).mono ?_
          rintro e w' ⟨b2, rfl, h1, h2⟩
          rw [hm.out] at h2 ⊢
          exact ⟨b2, rfl, h1, h2⟩
        have HS : Hid (∀ u bw b2, Twos w g N L bw L u → RB u 32 b2 m L → Calls Try.prog 18 #[.slice (some ⟨b2, 0, none⟩) m m, .slice (some ⟨bw, 0, none⟩) m m] u fun e w' => e = .returned (.bool true) ∧ Hid (Twos w g N L bw L w')) := fun u bw b2 h hb => by
          refine (rsame16_yes _ _ m m m L u hb.src0 h.was.src0 hm.out hm2).mono ?_
          rintro e w' ⟨rfl, hb⟩
          exact ⟨rfl, h.keep hb⟩
        have HBw2 : Hid (∀ u M bw, Twos w g N M bw L u → Bw w u) := fun u M bw h => h.bw
        have tok1 : Hid (w = w) := rfl
        by_cases hk : a2 < 1
        · have d1 : decide (a2 < 1) = true := by rw [decide_eq_true_eq]; exact hk
          have d2 : decide (1 ≤ a2) = false := by rw [decide_eq_false_iff_not]; omega
          have HTk : Hid (∀ u bw, Twos w g N L bw L u → Calls Try.prog 10 #[.pointer (some ⟨g, 0, none⟩), .int .i64 a2] u fun e w' => e = .returned (.tuple #[.int .i64 0, .int .i64 1]) ∧ Hid (Twos w g N L bw L w')) := fun u bw h => tw_take_bad h hk
          clear hk hS hLn
          go_upto_region 20 with (first
            | (go_at_call 19; clear tok1; refine HRu.mono ?_; rintro e w2 ⟨bw, rfl, h2⟩)
            | (go_at_call 10; refine (HTk.out _ _ h2.out).mono ?_; rintro e w3 ⟨rfl, h3⟩))
          go_wp2
          go_loopw [13] (fun s13 wr => ∃ j : Nat, s13 = .int .i64 (j : Int) ∧ j ≤ m ∧ Hid (Twos w g N L bw L wr)) (fun s13 _ => m - (intOf s13).toNat)
          case atStart => exact ⟨0, rfl, Nat.zero_le _, h3.out⟩
          case round =>
            obtain ⟨j, rfl, hj, htw⟩ := hrel
            have j0 : (0 : Int) ≤ (j : Int) := Int.natCast_nonneg _
            by_cases hlt : j < m
            · have j1 : (j : Int) < (m : Int) := by omega
              go_wp2
              go_roundw
              case rel => exact ⟨j + 1, by go_num, by omega, htw⟩
              case measure => simp [intOf]; omega
            · obtain rfl : j = m := by omega
              go_wp2_with (first
                | (go_at_call 19; refine (HR2.out _ _ htw.out).mono ?_; rintro e w4 ⟨b2, rfl, h4⟩)
                | (go_at_call 18; refine (HS.out _ _ _ h4.out.1 h4.out.2).mono ?_; rintro e w5 ⟨rfl, h5⟩)
                | (go_at_call 7; refine (wakes16_any _).mono ?_; rintro e w6 ⟨rfl, hb6⟩))
              go_ret
              exact ⟨rfl, (HBw2.out _ _ _ h5.out).trans hb6⟩
        · obtain ⟨K, rfl⟩ : ∃ K : Nat, a2 = (K : Int) := ⟨a2.toNat, by omega⟩
          have hK : 1 ≤ K := by omega
          have d1 : decide ((K : Int) < 1) = false := by rw [decide_eq_false_iff_not]; omega
          have d2 : decide (1 ≤ (K : Int)) = true := by rw [decide_eq_true_eq]; omega
          by_cases hp : ∃ x, Sp.Place L K x
          · obtain ⟨x, hp⟩ := hp
            have hx : x + K ≤ N := by
              obtain ⟨r, hr, h1, h2⟩ := (Sp.allfree_in hLn hK).1 hp.here
              have := hLn.ok r hr
              omega
            have HTk : Hid (∀ u bw, Twos w g N L bw L u → Calls Try.prog 10 #[.pointer (some ⟨g, 0, none⟩), .int .i64 (K : Int)] u fun e w' => e = .returned (.tuple #[.int .i64 (x : Int), .int .i64 0]) ∧ ∃ M, Hid (Twos w g N M bw L w') ∧ Hid (∀ j, Sp.cov M j + Sp.inr (x, K) j = Sp.cov L j)) := fun u bw h => by
              refine (tw_take h hK hp).mono ?_
              rintro e w' ⟨rfl, M, h1, h2, h3⟩
              exact ⟨rfl, M, h1, h3⟩
            have HGi : Hid (∀ u M bw, Twos w g N M bw L u → (∀ j, Sp.cov M j + Sp.inr (x, K) j = Sp.cov L j) → Calls Try.prog 14 #[.pointer (some ⟨g, 0, none⟩), .agg #[.int .i64 (x : Int), .int .i64 (K : Int)]] u fun e w' => e = .returned (.int .i64 0) ∧ Hid (Twos w g N L bw L w')) := fun u M bw h hc => tw_give h hK hx hLn hc
            have HHn : Hid (∀ u bw i, Twos w g N L bw L u → i < x → Calls Try.prog 12 #[.pointer (some ⟨g, 0, none⟩), .agg #[.int .i64 (i : Int), .int .i64 (K : Int)]] u fun e w' => ∃ v : Int, e = .returned (.int .i64 v) ∧ (v == 0) = false ∧ Hid (Twos w g N L bw L w')) := fun u bw i h hi => by
              refine (tw_hold_not h (x := i) (K := K) (by omega) (by omega) (hp.least i hi)).mono ?_
              rintro e w' ⟨v, h1, h2, h3⟩
              exact ⟨v, h1, by rw [beq_eq_false_iff_ne]; exact h2, h3⟩
            have HHy : Hid (∀ u bw, Twos w g N L bw L u → Calls Try.prog 12 #[.pointer (some ⟨g, 0, none⟩), .agg #[.int .i64 (x : Int), .int .i64 (K : Int)]] u fun e w' => e = .returned (.int .i64 0) ∧ Bw w w') := fun u bw h => tw_hold h hK hx hp.here
            have x0 : (0 : Int) ≤ (x : Int) := Int.natCast_nonneg _
            clear hk hS hp hLn
            go_upto_region 26 with (first
              | (go_at_call 19; clear tok1; refine HRu.mono ?_; rintro e w2 ⟨bw, rfl, h2⟩)
              | (go_at_call 10; refine (HTk.out _ _ h2.out).mono ?_; rintro e w3 ⟨rfl, M, h3, hcv⟩))
            go_wp2_with (first
              | (go_at_call 14; refine (HGi.out _ _ _ h3.out hcv.out).mono ?_; rintro e w4 ⟨rfl, h4⟩)
              | (go_at_call 19; refine (HR2.out _ _ h4.out).mono ?_; rintro e w5 ⟨b2, rfl, h5⟩)
              | (go_at_call 18; refine (HS.out _ _ _ h5.out.1 h5.out.2).mono ?_; rintro e w6 ⟨rfl, h6⟩))
            go_loopw [14] (fun s14 wr => ∃ j : Nat, s14 = .int .i64 (j : Int) ∧ j ≤ x ∧ Hid (Twos w g N L bw L wr)) (fun s14 _ => x - (intOf s14).toNat)
            case atStart => exact ⟨0, rfl, Nat.zero_le _, h6.out⟩
            case round =>
              obtain ⟨j, rfl, hj, htw⟩ := hrel
              have j0 : (0 : Int) ≤ (j : Int) := Int.natCast_nonneg _
              by_cases hlt : j < x
              · have j1 : (j : Int) < (x : Int) := by omega
                have j2 : (j : Int) < (N : Int) := by omega
                go_wp2_with (go_at_call 12; refine (HHn.out _ _ j htw.out hlt).mono ?_; rintro e w7 ⟨v, rfl, hv, h7⟩)
                go_roundw
                case rel => exact ⟨j + 1, by go_num, by omega, h7⟩
                case measure => simp [intOf]; omega
              · obtain rfl : j = x := by omega
                go_wp2_with (first
                  | (go_at_call 12; refine (HHy.out _ _ htw.out).mono ?_; rintro e w7 ⟨rfl, h7⟩)
                  | (go_at_call 7; refine (wakes16_any _).mono ?_; rintro e w8 ⟨rfl, hb8⟩))
                go_ret
                exact ⟨rfl, h7.trans hb8⟩
          · have hp' : ∀ x, ¬ Sp.Place L K x := fun x h => hp ⟨x, h⟩
            have HTk : Hid (∀ u bw, Twos w g N L bw L u → Calls Try.prog 10 #[.pointer (some ⟨g, 0, none⟩), .int .i64 (K : Int)] u fun e w' => e = .returned (.tuple #[.int .i64 0, .int .i64 3]) ∧ Hid (Twos w g N L bw L w')) := fun u bw h => tw_take_full h hK hp'
            have HLs : Hid (∀ r ∈ L, decide ((K : Int) ≤ (r.2 : Int)) = false) := fun r hr => by
              rw [decide_eq_false_iff_not]
              intro h
              have ha : Sp.AllFree L r.1 K := (Sp.allfree_in hLn hK).2 ⟨r, hr, Nat.le_refl _, by omega⟩
              obtain ⟨x, hx⟩ := Sp.place_ex ha
              exact hp ⟨x, hx⟩
            clear hk hS hp hp' hLn
            go_upto_region 20 with (first
              | (go_at_call 19; clear tok1; refine HRu.mono ?_; rintro e w2 ⟨bw, rfl, h2⟩)
              | (go_at_call 10; refine (HTk.out _ _ h2.out).mono ?_; rintro e w3 ⟨rfl, h3⟩))
            go_wp2
            go_loopw [13] (fun s13 wr => ∃ j : Nat, s13 = .int .i64 (j : Int) ∧ j ≤ m ∧ Hid (Twos w g N L bw L wr)) (fun s13 _ => m - (intOf s13).toNat)
            case atStart => exact ⟨0, rfl, Nat.zero_le _, h3.out⟩
            case round =>
              obtain ⟨j, rfl, hj, htw⟩ := hrel
              have j0 : (0 : Int) ≤ (j : Int) := Int.natCast_nonneg _
              by_cases hlt : j < m
              · have j1 : (j : Int) < (m : Int) := by omega
                obtain ⟨r, hr⟩ : ∃ r, Hid (L[j]? = some r) := ⟨_, List.getElem?_eq_getElem (by rw [hm.out]; exact hlt)⟩
                obtain ⟨y0, y1⟩ := htw.out.was.cells hr.out
                have d3 := HLs.out r (List.mem_of_getElem? hr.out)
                have d4 : decide (K ≤ r.2) = false := by rw [decide_eq_false_iff_not] at d3 ⊢; omega
                have d5 : ¬ K ≤ r.2 := by rwa [decide_eq_false_iff_not] at d4
                go_wp2
                go_roundw
                case rel => exact ⟨j + 1, by go_num, by omega, htw⟩
                case measure => simp [intOf]; omega
              · obtain rfl : j = m := by omega
                go_wp2_with (first
                  | (go_at_call 19; refine (HR2.out _ _ htw.out).mono ?_; rintro e w4 ⟨b2, rfl, h4⟩)
                  | (go_at_call 18; refine (HS.out _ _ _ h4.out.1 h4.out.2).mono ?_; rintro e w5 ⟨rfl, h5⟩)
                  | (go_at_call 7; refine (wakes16_any _).mono ?_; rintro e w6 ⟨rfl, hb6⟩))
                go_ret
                exact ⟨rfl, (HBw2.out _ _ _ h5.out).trans hb6⟩

set_option maxRecDepth 100000 in
theorem lifted (os : Os) (started : os.Started) (H : Type) (enc : TypeId × Value → H) :
    ReturnsInHanded {} Try.checked os 6 .any (Rows.spaceFirstSpec.pre6 enc Try.prog Try.f6 Rows.spaceFirstRow.domain false) (Rows.spaceFirstSpec.post enc Try.prog Try.f6 false true false false) := by
  refine returnsInHanded_of_change_sized (C := Try.checked) own started (by kernel_rfl) Try.func6
    (ChangeSpec.witness6 (enc := enc) (C := Try.checked) false ⟨#[], #[.int .i64 0, .slice none 0 0, .int .i64 0], []⟩ 8 (by kernel_rfl) (by kernel_rfl) (by kernel_rfl) (by kernel_rfl)) ?_
  intro W base args ds gs before hval0 hW hcnd hsz0 _
  have hval : ∀ (j : Nat) t v, Try.f6.params[j]? = some t → args[j]? = some v → Value.okWide Try.prog W .any base t v := hval0
  have hW' := hW
  obtain ⟨p, q, hA0, hV, rfl, hfz, hnd⟩ := hW
  have hA : DataW.TrodAll enc Try.prog W 0 (fun _ => true) true Try.f6.params.toList args.toList ds p := hA0
  have hsz : (DataW.weightsEach Try.prog (Try.f6.params.toList ++ Rows.spaceFirstSpec.plain.varTypes Try.prog) (ds ++ gs)).all (· ≤ reachBytes) = true := hsz0
  rw [Try.params6] at hA hval hsz
  obtain ⟨v0, vs0, d0, ds0, p0, q0, hargs, rfl, rfl, h0, r0⟩ := trodAll_cons hA
  obtain ⟨v1, vs1, d1, ds1, p1, q1, rfl, rfl, rfl, h1, r1⟩ := trodAll_cons r0
  obtain ⟨v2, vs2, d2, ds2, p2, q2, rfl, rfl, rfl, h2, r2⟩ := trodAll_cons r1
  obtain ⟨rfl, rfl, rfl⟩ := trodAll_nil r2
  obtain rfl : args = #[v0, v1, v2] := by cases args; simp_all
  obtain ⟨rfl, rfl⟩ := trodVars_none hV
  obtain ⟨a0, rfl, rfl, rfl, w0⟩ := open_int Try.underlying3 (hval 0 3 v0 rfl rfl) h0
  obtain ⟨a1, len1, cap1, rfl⟩ := okWide_slice Try.underlying22 (hval 1 22 v1 rfl rfl)
  have k1 := h1
  have lt1 : ∀ x ∈ p1, x.block < W.heap.size := by obtain ⟨m, hm⟩ := k1; exact DataW.trod_lt m _ _ _ hm
  obtain ⟨X1, w1⟩ := open_acts16 h1 (fun x hx => by simpa using List.all_eq_true.1 hsz x (DataW.weights_mem_each (j := 1) (t := 22) rfl rfl x hx))
  obtain ⟨a2, rfl, rfl, rfl, w2⟩ := open_int Try.underlying3 (hval 2 3 v2 rfl rfl) h2
  clear hA0 hval0
  refine (walk a0 a1 len1 cap1 X1 a2 W w0 w1 w2).mono fun e W' ⟨he, bel⟩ => ?_
  subst he
  exact ⟨_, rfl, _, _, _, [], _, [], hW', trodAll_mk1 (shut_bool Try.underlying4 _), (trodAll_cons_mk (shut_int Try.underlying3 w0) (trodAll_cons_mk (Below.trod laidOut (by kernel_rfl) (of_decide_eq_true (by kernel_rfl)) k1 bel lt1) (trodAll_cons_mk (shut_int Try.underlying3 w2) trodAll_mk0))), rfl, bel.frame _, fun h => by cases h⟩

theorem over : Rows.spaceFirstRow.holds Try.pinned (OpenSpec.ofChange Rows.spaceFirstSpec) :=
  OpenClaim.holds_of_wide 6 Try.f6 rfl rfl rfl rfl rfl rfl rfl ⟨rfl, rfl, rfl, rfl, rfl⟩ rfl rfl rfl rfl rfl (by kernel_rfl) Try.func6 (by kernel_rfl)
    (of_decide_eq_true (by kernel_rfl)) (by unfold Func.isWrapper; first | (rw [if_pos (by decide +kernel)]; kernel_rfl) | (rw [if_neg (by decide +kernel)]; exact ⟨rfl, rfl⟩))
    (fun os started H enc _ => lifted os started H enc)

theorem proved : Rows.SpaceFirstSaid := over
#print axioms proved
end Go.Proofs.Ytfdfkhmaeeonpaa.spaceFirst
