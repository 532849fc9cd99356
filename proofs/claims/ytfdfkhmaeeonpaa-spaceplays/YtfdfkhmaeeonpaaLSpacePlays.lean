/- Proved: for every size and list of acts the statement SpacePlays answers true (the document's P16.1 to P16.4: cells that are taken, held and given back in whatever order are those that the document says), with no condition but the reach. -/
import Derived.Test.YtfdfkhmaeeonpaaRy
import Derived.Deep.CutBlock
import Derived.Test.YtfdfkhmaeeonpaaFd
import Derived.ShutString
import Derived.ChangeOld
namespace Go.Proofs.Ytfdfkhmaeeonpaa.spacePlays
open Go.ChangeShapes Go.WideShapes Go.ChangeAt Go.RowKit
set_option linter.unusedVariables false

set_option maxRecDepth 100000 in
set_option maxHeartbeats 16000000 in
theorem walk (a0 : Int) (a1 : Option Addr) (len1 cap1 : Nat) (X1 : Nat → Ac16) (w : World) (w0 : (Lit.int .i64 a0).wf = true) (w1 : InActs16 w a1 len1 cap1 X1) :
    Calls Try.prog 3 #[.int .i64 a0, .slice a1 len1 cap1] w fun e w' => e = .returned (.bool true) ∧ Below w.heap.size w w' := by
  have l63 : len1 ≤ 140737488351232 := Nat.le_trans w1.le w1.room
  have HA : Hid (InActs16 w a1 len1 cap1 X1) := w1
  by_cases hgt : 200 < len1
  · have d1 : decide (200 < (len1 : Int)) = true := by rw [decide_eq_true_eq]; omega
    clear w1
    go_enter Try.func3, Try.ntmps3
    go_wp2_with (go_at_call 7; refine (wakes16_any _).mono ?_; rintro e w1 ⟨rfl, hb1⟩)
    go_ret
    exact ⟨rfl, hb1⟩
  · have d1 : decide (200 < (len1 : Int)) = false := by rw [decide_eq_false_iff_not]; omega
    clear w1
    go_enter Try.func3, Try.ntmps3
    go_upto_region 3 with fail
    go_cut [25] from 20 to 25 (fun v wx => ∃ t : Bool, v = .bool t ∧ Hid (t = true ↔ 1024 < a0 ∧ a0 ≤ 65536) ∧ wx = w)
    case first =>
      by_cases c1 : 1024 < a0
      · have e1 : decide (1024 < a0) = true := by rw [decide_eq_true_eq]; exact c1
        have hq : Hid (decide (a0 ≤ 65536) = true ↔ 1024 < a0 ∧ a0 ≤ 65536) := by refine (?_ : _ ↔ _); rw [decide_eq_true_eq]; exact ⟨fun h => ⟨c1, h⟩, fun h => h.2⟩
        clear c1
        go_wp2
        go_meet
        case rel => exact ⟨_, rfl, hq, rfl⟩
      · have e1 : decide (1024 < a0) = false := by rw [decide_eq_false_iff_not]; exact c1
        have hq : Hid (false = true ↔ 1024 < a0 ∧ a0 ≤ 65536) := ⟨fun h => absurd h (by decide), fun h => absurd h.1 c1⟩
        clear c1
        go_wp2
        go_meet
        case rel => exact ⟨_, rfl, hq, rfl⟩
    case rest =>
      obtain ⟨t, rfl, ht, hw⟩ := hcut
      obtain rfl := hw.symm
      have hwf := bounds_i64 w0
      have hz0 : Hid (-9223372036854775808 ≤ a0 ∧ a0 < 9223372036854775808) := by have := hwf.1; have := hwf.2; exact ⟨by omega, by omega⟩
      clear hwf
      go_upto_if 25 with fail
      go_cut [0] from 25 to 25 (fun v wx => ∃ z : Int, v = .int .i64 z ∧ Hid (z < 0 ∨ 65536 < z ∨ (0 ≤ z ∧ z ≤ 1024)) ∧ wx = w)
      case first =>
        cases t
        · have hq : Hid (a0 < 0 ∨ 65536 < a0 ∨ (0 ≤ a0 ∧ a0 ≤ 1024)) := by
            refine (?_ : _ ∨ _ ∨ _)
            have h : ¬ (1024 < a0 ∧ a0 ≤ 65536) := fun h => absurd (ht.out.2 h) (by decide)
            omega
          go_wp2
          go_meet
          case rel => exact ⟨_, rfl, hq, rfl⟩
        · have hq : Hid ((1024 : Int) < 0 ∨ (65536 : Int) < 1024 ∨ ((0 : Int) ≤ 1024 ∧ (1024 : Int) ≤ 1024)) := .inr (.inr ⟨by decide, by decide⟩)
          go_wp2
          go_meet
          case rel => exact ⟨1024, rfl, hq, rfl⟩
      case rest =>
        obtain ⟨z, rfl, hz, hw⟩ := hcut
        obtain rfl := hw.symm
        by_cases hbad : z < 0 ∨ 65536 < z
        · obtain ⟨c, HN, HR⟩ : ∃ c : Int, Hid (Calls Try.prog 8 #[.int .i64 z] w fun e w' => e = .returned (.tuple #[.pointer none, .int .i64 c]) ∧ Hid (Bw w w')) ∧ Hid (∀ u, Calls Try.prog 9 #[.int .i64 z] u fun e w' => e = .returned (.tuple #[.pointer none, .int .i64 c]) ∧ Hid (Bw u w')) := by
            rcases hbad with hb | hb
            · refine ⟨1, ?_, fun u => ?_⟩
              · refine (snew_any z w).mono ?_
                rintro e w' (⟨h, h1, h2⟩ | ⟨h, _⟩ | ⟨N', g, b, c, h1, h2, _⟩)
                · exact ⟨h1, h2⟩
                · omega
                · omega
              · refine (rnew16_any z u).mono ?_
                rintro e w' (⟨h, h1, h2⟩ | ⟨h, _⟩ | ⟨N', g, b, h1, h2, _⟩)
                · exact ⟨h1, h2⟩
                · omega
                · omega
            · refine ⟨2, ?_, fun u => ?_⟩
              · refine (snew_any z w).mono ?_
                rintro e w' (⟨h, _⟩ | ⟨h, h1, h2⟩ | ⟨N', g, b, c, h1, h2, _⟩)
                · omega
                · exact ⟨h1, h2⟩
                · omega
              · refine (rnew16_any z u).mono ?_
                rintro e w' (⟨h, _⟩ | ⟨h, h1, h2⟩ | ⟨N', g, b, h1, h2, _⟩)
                · omega
                · exact ⟨h1, h2⟩
                · omega
          clear hbad hz ht hz0 HA hgt l63 d1 w0
          go_wp2_with (first
            | (go_at_call 8; refine HN.out.mono ?_; rintro e w1 ⟨rfl, h1⟩)
            | (go_at_call 9; refine (HR.out _).mono ?_; rintro e w2 ⟨rfl, h2⟩)
            | (go_at_call 7; refine (wakes16_any _).mono ?_; rintro e w3 ⟨rfl, hb3⟩))
          go_ret
          exact ⟨rfl, (h1.out.trans h2.out).trans hb3⟩
        · obtain ⟨N, rfl⟩ : ∃ N : Nat, z = (N : Int) := ⟨z.toNat, by omega⟩
          have hN : N ≤ 1024 := by have h := hz.out; omega
          have HN : Hid (Calls Try.prog 8 #[.int .i64 (N : Int)] w fun e w' => ∃ g, e = .returned (.tuple #[.pointer (some ⟨g, 0, none⟩), .int .i64 0]) ∧ Hid (∃ b c, SpAt w' g N b c (Sp.wc [(0, N)]) ∧ w.heap.size ≤ g ∧ w.heap.size ≤ b ∧ Bw w w')) := by
            refine (snew_any (N : Int) w).mono ?_
            rintro e w' (⟨h, _⟩ | ⟨h, _⟩ | ⟨N', g, b, c, h1, h2, h3, h4, h5, h6, h7⟩)
            · omega
            · omega
            · obtain rfl : N = N' := by omega
              exact ⟨g, h3, b, c, h4, h5, h6, h7⟩
          have HR : Hid (∀ u, Calls Try.prog 9 #[.int .i64 (N : Int)] u fun e w' => ∃ g, e = .returned (.tuple #[.pointer (some ⟨g, 0, none⟩), .int .i64 0]) ∧ Hid (∃ b, RfAt w' g b N (fun _ => false) ∧ u.heap.size ≤ g ∧ u.heap.size ≤ b ∧ Bw u w')) := fun u => by
            refine (rnew16_any (N : Int) u).mono ?_
            rintro e w' (⟨h, _⟩ | ⟨h, _⟩ | ⟨N', g, b, h1, h2, h3, h4, h5, h6, h7⟩)
            · omega
            · omega
            · obtain rfl : N = N' := by omega
              exact ⟨g, h3, b, h4, h5, h6, h7⟩
          have hlen : len1 ≤ 200 := by omega
          clear hbad hz ht hz0 hgt l63 d1 w0
          go_wp2_with (first
            | (go_at_call 8; refine HN.out.mono ?_; rintro e w1 ⟨g, rfl, h1⟩)
            | (go_at_call 9; refine (HR.out _).mono ?_; rintro e w2 ⟨rg, rfl, h2⟩))
          obtain ⟨rb, L0, hb0⟩ : ∃ rb L0, Hid (Bt16 w g N L0 rg rb w2) := by
            obtain ⟨b, c, h4, h5, h6, h7⟩ := h1.out
            obtain ⟨rb, r1, r2, r3, r4⟩ := h2.out
            exact ⟨rb, _, bt_new h4 h5 h6 h7 r1 r2 r3 r4⟩
          have HLo : Hid (∀ u L, Bt16 w g N L rg rb u → Bw w u) := fun u L h => h.bw
          clear HN HR h1 h2 hN
          go_loopw [9] (fun s9 wr => ∃ (i : Nat) (L : List Sp.Rn), s9 = .int .i64 (i : Int) ∧ i ≤ len1 ∧ Hid (Bt16 w g N L rg rb wr)) (fun s9 _ => len1 - (intOf s9).toNat)
          case atStart => exact ⟨0, L0, rfl, Nat.zero_le _, hb0⟩
          case round =>
            obtain ⟨i, L, rfl, hi, hbt⟩ := hrel
            have i0 : (0 : Int) ≤ (i : Int) := Int.natCast_nonneg _
            by_cases hlt : i < len1
            · have i1 : (i : Int) < (len1 : Int) := by omega
              have hact := HA.out.acts i
              obtain ⟨⟨d, x, k⟩, hXi⟩ : ∃ y, Hid (X1 i = y) := ⟨_, rfl⟩
              obtain ⟨ab, ao, rfl, HC⟩ : ∃ b off, a1 = some ⟨b, off, none⟩ ∧ Hid (∀ u, Bw w u → u.cell? ⟨b, off + i * 3, none⟩ = some (.int .i64 d) ∧ u.cell? ⟨b, off + i * 3 + 1, none⟩ = some (.int .i64 x) ∧ u.cell? ⟨b, off + i * 3 + 1 + 1, none⟩ = some (.int .i64 k)) := by
                rcases HA.out.at_ with h0 | ⟨b, off, e, h⟩
                · omega
                · refine ⟨b, off, e, fun u ku => ?_⟩
                  have h1 := h i hlt
                  rw [hXi.out] at h1
                  exact ⟨keep_cell16 (h1 0 _ rfl) ku, keep_cell16 (h1 1 _ rfl) ku, keep_cell16 (h1 2 _ rfl) ku⟩
              rw [hXi.out] at hact
              have xb := hact.ab
              have kb := hact.cb
              dsimp only at xb kb
              have HTk : Hid (Calls Try.prog 10 #[.pointer (some ⟨g, 0, none⟩), .int .i64 k] wr fun e w1 => ∃ x c : Int, e = .returned (.tuple #[.int .i64 x, .int .i64 c]) ∧ Hid (Like16 w g N rg rb 11 #[.pointer (some ⟨rg, 0, none⟩), .int .i64 k] (.returned (.tuple #[.int .i64 x, .int .i64 c])) w1)) := bt_take hbt.out k kb.2
              have HHo : Hid (Calls Try.prog 12 #[.pointer (some ⟨g, 0, none⟩), .agg #[.int .i64 x, .int .i64 k]] wr fun e w1 => ∃ c : Int, e = .returned (.int .i64 c) ∧ Hid (Like16 w g N rg rb 13 #[.pointer (some ⟨rg, 0, none⟩), .agg #[.int .i64 x, .int .i64 k]] (.returned (.int .i64 c)) w1)) := bt_hold hbt.out x k xb kb
              have HGi : Hid (Calls Try.prog 14 #[.pointer (some ⟨g, 0, none⟩), .agg #[.int .i64 x, .int .i64 k]] wr fun e w1 => ∃ c : Int, e = .returned (.int .i64 c) ∧ Hid (Like16 w g N rg rb 15 #[.pointer (some ⟨rg, 0, none⟩), .agg #[.int .i64 x, .int .i64 k]] (.returned (.int .i64 c)) w1)) := bt_give hbt.out x k xb kb
              obtain ⟨c0, c1, c2⟩ := HC.out _ hbt.out.bw
              clear hact xb kb hlt
              go_upto_block 2 with fail
              go_cut [60] from 60 to 60 (fun v wx => ∃ L, Hid (Bt16 w g N L rg rb wx))
              case first =>
                by_cases e0 : d = 0
                · subst e0
                  go_wp2_with (first
                    | (go_at_call 10; refine HTk.out.mono ?_; rintro e w2 ⟨y, c, rfl, hk⟩; obtain ⟨q0, q1, q2⟩ := HC.out _ hk.out.1)
                    | (go_at_call 11; refine (hk.out.2 _ (Bw.refl _)).mono ?_; rintro e w3 ⟨rfl, h3⟩))
                  go_meet
                  case rel => exact h3.out
                · have f0 : (d == 0) = false := by rw [beq_eq_false_iff_ne]; exact e0
                  by_cases e1 : d = 1
                  · subst e1
                    go_wp2_with (first
                      | (go_at_call 12; refine HHo.out.mono ?_; rintro e w2 ⟨c, rfl, hk⟩; obtain ⟨q0, q1, q2⟩ := HC.out _ hk.out.1)
                      | (go_at_call 13; refine (hk.out.2 _ (Bw.refl _)).mono ?_; rintro e w3 ⟨rfl, h3⟩))
                    go_meet
                    case rel => exact h3.out
                  · have f1 : (d == 1) = false := by rw [beq_eq_false_iff_ne]; exact e1
                    by_cases e2 : d = 2
                    · subst e2
                      go_wp2_with (first
                        | (go_at_call 14; refine HGi.out.mono ?_; rintro e w2 ⟨c, rfl, hk⟩; obtain ⟨q0, q1, q2⟩ := HC.out _ hk.out.1)
                        | (go_at_call 15; refine (hk.out.2 _ (Bw.refl _)).mono ?_; rintro e w3 ⟨rfl, h3⟩))
                      go_meet
                      case rel => exact h3.out
                    · have f2 : (d == 2) = false := by rw [beq_eq_false_iff_ne]; exact e2
                      go_wp2
                      go_meet
                      case rel => exact ⟨L, hbt⟩
              case rest =>
                clear HTk HHo HGi c0 c1 c2 hbt
                obtain ⟨M, hb1⟩ := hcut
                obtain ⟨m, hm⟩ : ∃ m, Hid (M.length = m) := ⟨_, rfl⟩
                obtain ⟨tt, htt⟩ : ∃ t, Hid (Sp.tot M = t) := ⟨_, rfl⟩
                have hml : Hid (m ≤ 65536) := by have h := hb1.out.sp.norm.len; have h2 := hb1.out.rf.n1; have h3 := hm.out; exact (by omega : m ≤ 65536)
                have HF1 : Hid (∀ u, Bt16 w g N M rg rb u → Calls Try.prog 16 #[.pointer (some ⟨g, 0, none⟩)] u fun e w' => e = .returned (.int .i64 (tt : Int)) ∧ Hid (Bt16 w g N M rg rb w')) := fun u h => by have h2 := bt_free h; rw [htt.out] at h2; exact h2
                have HF2 : Hid (∀ u, Bt16 w g N M rg rb u → Calls Try.prog 17 #[.pointer (some ⟨rg, 0, none⟩)] u fun e w' => e = .returned (.int .i64 (tt : Int)) ∧ Hid (Bt16 w g N M rg rb w')) := fun u h => by have h2 := bt_rfree h; rw [htt.out] at h2; exact h2
                have HR1 : Hid (∀ u, Bt16 w g N M rg rb u → Calls Try.prog 19 #[.pointer (some ⟨g, 0, none⟩)] u fun e w' => ∃ b2, e = .returned (.slice (some ⟨b2, 0, none⟩) m m) ∧ Hid (RsAt w' (some ⟨b2, 0, none⟩) M ∧ Bt16 w g N M rg rb w')) := fun u h => bt_runs h hm.out
                have HR2 : Hid (∀ u, Bt16 w g N M rg rb u → Calls Try.prog 20 #[.pointer (some ⟨rg, 0, none⟩)] u fun e w' => ∃ A c, e = .returned (.slice A m c) ∧ Hid (RsAt w' A M ∧ Bt16 w g N M rg rb w' ∧ Bw u w')) := fun u h => bt_rruns h hm.out
                have HSm : Hid (∀ u A B c c', RsAt u A M → RsAt u B M → Calls Try.prog 18 #[.slice A m c, .slice B m c'] u fun e w' => e = .returned (.bool true) ∧ Bw u w') := fun u A B c c' h1 h2 => rsame16_yes A B m c c' M u h1 h2 hm.out hml.out
                go_wp2_with (first
                  | (go_at_call 16; refine (HF1.out _ hb1.out).mono ?_; rintro e w4 ⟨rfl, h4⟩)
                  | (go_at_call 17; refine (HF2.out _ h4.out).mono ?_; rintro e w5 ⟨rfl, h5⟩)
                  | (go_at_call 19; refine (HR1.out _ h5.out).mono ?_; rintro e w6 ⟨b2, rfl, h6⟩)
                  | (go_at_call 20; refine (HR2.out _ h6.out.2).mono ?_; rintro e w7 ⟨A7, c7, rfl, h7⟩)
                  | (go_at_call 18; refine (HSm.out _ _ _ _ _ (h6.out.1.keep h7.out.2.2) h7.out.1).mono ?_; rintro e w8 ⟨rfl, h8⟩))
                go_roundw
                case rel => exact ⟨i + 1, M, by go_num, by omega, h7.out.2.1.keep h8⟩
                case measure => simp [intOf]; omega
            · have HW : Hid (Bw w wr) := hbt.out.bw
              obtain rfl : i = len1 := by omega
              go_wp2_with (go_at_call 7; refine (wakes16_any _).mono ?_; rintro e w3 ⟨rfl, hb3⟩)
              go_ret
              exact ⟨rfl, HW.out.trans hb3⟩

set_option maxRecDepth 100000 in
theorem lifted (os : Os) (started : os.Started) (H : Type) (enc : TypeId × Value → H) :
    ReturnsInHanded {} Try.checked os 3 .any (Rows.spacePlaysSpec.pre6 enc Try.prog Try.f3 Rows.spacePlaysRow.domain false) (Rows.spacePlaysSpec.post enc Try.prog Try.f3 false true false false) := by
  refine returnsInHanded_of_change_sized (C := Try.checked) own started (by kernel_rfl) Try.func3
    (ChangeSpec.witness6 (enc := enc) (C := Try.checked) false ⟨#[], #[.int .i64 0, .slice none 0 0], []⟩ 8 (by kernel_rfl) (by kernel_rfl) (by kernel_rfl) (by kernel_rfl)) ?_
  intro W base args ds gs before hval0 hW hcnd hsz0 _
  have hval : ∀ (j : Nat) t v, Try.f3.params[j]? = some t → args[j]? = some v → Value.okWide Try.prog W .any base t v := hval0
  have hW' := hW
  obtain ⟨p, q, hA0, hV, rfl, hfz, hnd⟩ := hW
  have hA : DataW.TrodAll enc Try.prog W 0 (fun _ => true) true Try.f3.params.toList args.toList ds p := hA0
  have hsz : (DataW.weightsEach Try.prog (Try.f3.params.toList ++ Rows.spacePlaysSpec.plain.varTypes Try.prog) (ds ++ gs)).all (· ≤ reachBytes) = true := hsz0
  rw [Try.params3] at hA hval hsz
  obtain ⟨v0, vs0, d0, ds0, p0, q0, hargs, rfl, rfl, h0, r0⟩ := trodAll_cons hA
  obtain ⟨v1, vs1, d1, ds1, p1, q1, rfl, rfl, rfl, h1, r1⟩ := trodAll_cons r0
  obtain ⟨rfl, rfl, rfl⟩ := trodAll_nil r1
  obtain rfl : args = #[v0, v1] := by cases args; simp_all
  obtain ⟨rfl, rfl⟩ := trodVars_none hV
  obtain ⟨a0, rfl, rfl, rfl, w0⟩ := open_int Try.underlying3 (hval 0 3 v0 rfl rfl) h0
  obtain ⟨a1, len1, cap1, rfl⟩ := okWide_slice Try.underlying22 (hval 1 22 v1 rfl rfl)
  have k1 := h1
  have lt1 : ∀ x ∈ p1, x.block < W.heap.size := by obtain ⟨m, hm⟩ := k1; exact DataW.trod_lt m _ _ _ hm
  obtain ⟨X1, w1⟩ := open_acts16 h1 (fun x hx => by simpa using List.all_eq_true.1 hsz x (DataW.weights_mem_each (j := 1) (t := 22) rfl rfl x hx))
  clear hA0 hval0
  refine (walk a0 a1 len1 cap1 X1 W w0 w1).mono fun e W' ⟨he, bel⟩ => ?_
  subst he
  exact ⟨_, rfl, _, _, _, [], _, [], hW', trodAll_mk1 (shut_bool Try.underlying4 _), (trodAll_cons_mk (shut_int Try.underlying3 w0) (trodAll_cons_mk (Below.trod laidOut (by kernel_rfl) (of_decide_eq_true (by kernel_rfl)) k1 bel lt1) trodAll_mk0)), rfl, bel.frame _, fun h => by cases h⟩

theorem over : Rows.spacePlaysRow.holds Try.pinned (OpenSpec.ofChange Rows.spacePlaysSpec) :=
  OpenClaim.holds_of_wide 3 Try.f3 rfl rfl rfl rfl rfl rfl rfl ⟨rfl, rfl, rfl, rfl, rfl⟩ rfl rfl rfl rfl rfl (by kernel_rfl) Try.func3 (by kernel_rfl)
    (of_decide_eq_true (by kernel_rfl)) (by unfold Func.isWrapper; first | (rw [if_pos (by decide +kernel)]; kernel_rfl) | (rw [if_neg (by decide +kernel)]; exact ⟨rfl, rfl⟩))
    (fun os started H enc _ => lifted os started H enc)

theorem proved : Rows.SpacePlaysSaid := over
#print axioms proved
end Go.Proofs.Ytfdfkhmaeeonpaa.spacePlays
