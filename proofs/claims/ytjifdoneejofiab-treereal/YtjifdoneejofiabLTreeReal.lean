/- Proved: for every list of items, every text and every number the statement TreeReal answers true (the document's P11.12: where a path leads is the root, a file or a folder, and leads to itself). -/
import Derived.Test.YtjifdoneejofiabUD
import Derived.Test.YtjifdoneejofiabUE
import Derived.Test.YtjifdoneejofiabFy
import Derived.ShutString
import Derived.ChangeOld
namespace Go.Proofs.Ytjifdoneejofiab.treeReal
open Go.ChangeShapes Go.WideShapes Go.ChangeAt Go.RowKit
set_option linter.unusedVariables false

set_option linter.unusedSimpArgs false
open Go.Deep
set_option maxRecDepth 100000 in
set_option maxHeartbeats 8000000 in
theorem walk (a0 : Option Addr) (len0 cap0 : Nat) (L0 : List Tr.Iv) (s1 : ByteArray) (a2 : Int) (w : World) (w0 : InIts w a0 len0 cap0 L0) (w1 : s1.size ≤ 140737488351232) (w2 : (Lit.int .i64 a2).wf = true) :
    Calls Try.prog 4 #[.slice a0 len0 cap0, .string s1, .int .i64 a2] w fun e w' => e = .returned (.bool true) ∧ Below w.heap.size w w' := by
  obtain ⟨hlen, hits, hle, hroom, hnil⟩ := w0
  obtain ⟨p, hp⟩ : ∃ p : Tr.B, p = s1.toList := ⟨_, rfl⟩
  have hS : s1 = Nm.S p := by rw [hp, Nm.S_toList]
  have hpl : p.length ≤ 140737488351232 := by rw [hp, Nm.size_toList]; exact w1
  clear w1 hp
  subst hS
  have HNL : Hid (L0.length = len0) := hlen
  have HI : Hid (ItsAt w a0 L0) := hits
  have hln : len0 ≤ 1759218604391 := by omega
  obtain ⟨T, hT⟩ : ∃ T, Hid (Tr.its L0 = T) := ⟨_, rfl⟩
  obtain ⟨cA, cE, hC⟩ : ∃ a b, Hid (Tr.chkE T = (a, b)) := ⟨_, _, show Tr.chkE T = _ from rfl⟩
  have HChk : Hid (∀ u, Bw w u → Calls Try.prog 9 #[.slice a0 len0 cap0] u fun e w' => e = .returned (.tuple #[.int .i64 (cA : Int), .int .i64 cE]) ∧ Bw u w') := fun u hu => by
    have := tcheck_any a0 cap0 L0 (by rw [HNL.out]; omega) (by rw [HNL.out]; exact hle) u (HI.out.keep hu)
    rwa [HNL.out, hT.out, hC.out] at this
  have HReal : Hid (∀ u q a b, Bw w u → q.length ≤ 140737488351232 → Tr.realE T q = (a, b) → Calls Try.prog 15 #[.slice a0 len0 cap0, .string (Nm.S q)] u fun e w' => e = .returned (.tuple #[.string (Nm.S a), .int .i64 b]) ∧ Bw u w') := fun u q a b hu hq he => by
    have := treal_any a0 cap0 L0 q (by rw [HNL.out]; omega) (by rw [HNL.out]; exact hle) (by omega) u (HI.out.keep hu)
    rwa [HNL.out, hT.out, he] at this
  have HFind : Hid (∀ u q i, Bw w u → Tr.find T q = some i → Calls Try.prog 10 #[.slice a0 len0 cap0, .string (Nm.S q)] u fun e w' => e = .returned (.tuple #[.int .i64 (i : Int), .int .i64 0]) ∧ Bw u w') := fun u q i hu he => by
    have := tfind_any a0 cap0 L0 q (by rw [HNL.out]; omega) u (HI.out.keep hu)
    rw [HNL.out, hT.out] at this
    unfold Tr.findE at this
    rwa [he] at this
  clear hits hlen hnil
  have tok1 : Hid (w = w) := rfl
  go_enter Try.func4, Try.ntmps4
  go_wp2_with (go_at_call 7; refine (awake11_any _).mono ?_; rintro e w1 ⟨rfl, hw1⟩)
  go_loop [7, 8] (fun so i => ∃ (k : Nat) (b : Bool), k ≤ len0 ∧ so = .bool b ∧ i = .int .i64 (k : Int) ∧ Hid (b = false → ∀ (j : Nat) (q : Tr.It), j < k → T[j]? = some q → q.kind ≠ 4)) (fun _ i => len0 - (intOf i).toNat)
  case atStart => exact ⟨0, false, Nat.zero_le _, rfl, rfl, fun _ j q hj => absurd hj (Nat.not_lt_zero _)⟩
  case round =>
    obtain ⟨i, b, hi, rfl, rfl, hno⟩ := hrel
    have i0 : (0 : Int) ≤ (i : Int) := Int.natCast_nonneg _
    by_cases hlt : i < len0
    · have i1 : (i : Int) < (len0 : Int) := by omega
      obtain ⟨y, hy⟩ : ∃ y, Hid (L0[i]? = some y) := ⟨_, List.getElem?_eq_getElem (by rw [HNL.out]; exact hlt)⟩
      have HTy : Hid (T[i]? = some y.it) := by show _ = _; rw [← hT.out]; exact Tr.its_at hy.out
      obtain ⟨bb, off, rfl, hY, -⟩ := (HI.out.keep hw1).at hy.out
      have c1 := hY.c1
      clear hY
      cases b with
      | true =>
        go_wp2
        go_round
        case rel => exact ⟨i + 1, true, by omega, rfl, by go_num, fun e => by cases e⟩
        case measure => simp [intOf]; omega
      | false =>
        by_cases hk : y.it.kind = 4
        · have q1 : ((y.it.kind : Int) == 4) = true := by rw [hk]; rfl
          clear hk
          go_wp2
          go_round
          case rel => exact ⟨i + 1, true, by omega, rfl, by go_num, fun e => by cases e⟩
          case measure => simp [intOf]; omega
        · have q1 : ((y.it.kind : Int) == 4) = false := by rw [beq_eq_false_iff_ne]; omega
          have nx : Hid (∀ (j : Nat) (q : Tr.It), j < i + 1 → T[j]? = some q → q.kind ≠ 4) := fun j q hj hq => by
            rcases Nat.lt_or_ge j i with h | h
            · exact hno.out rfl j q h hq
            · rw [show j = i by omega, HTy.out, Option.some.injEq] at hq
              rw [← hq]; exact hk
          clear hk
          go_wp2
          go_round
          case rel => exact ⟨i + 1, false, by omega, rfl, by go_num, fun _ => nx.out⟩
          case measure => simp [intOf]; omega
    · have ei : i = len0 := by omega
      subst ei
      go_upto_region 9 with (go_at_call 9; refine (HChk.out _ hw1).mono ?_; rintro e w2 ⟨rfl, hw2⟩; have hb2 := hw1.trans hw2)
      have HOk : Hid (cE = 0 → Tr.Ok T) := fun h => (Tr.chk_zero (by rw [hC.out]; exact h)).2
      go_cut [65] from 42 to 65 (fun v wx => ∃ D : Bool, v = .bool D ∧ (D = true → cE = 0 ∧ ∃ (j : Nat) (y : Tr.Iv), a2 = (j : Int) ∧ L0[j]? = some y ∧ (y.it.kind = 1 ∨ y.it.kind = 2)) ∧ wx = w2)
      case first =>
        by_cases h1 : cE = 0
        · subst h1
          cases b with
          | true =>
            go_wp2_with fail
            go_meet
            case rel => exact ⟨false, rfl, (fun e => by cases e), rfl⟩
          | false =>
            by_cases h2 : 0 ≤ a2
            · by_cases h3 : a2 < (i : Int)
              · obtain ⟨j, rfl⟩ := Int.eq_ofNat_of_zero_le h2
                obtain ⟨y, hy⟩ : ∃ y, Hid (L0[j]? = some y) := ⟨_, List.getElem?_eq_getElem (by rw [HNL.out]; omega)⟩
                obtain ⟨bb, off, e', hY, -⟩ := (HI.out.keep hb2).at hy.out
                subst e'
                have c1 := hY.c1
                have HTy : Hid (T[j]? = some y.it) := by show _ = _; rw [← hT.out]; exact Tr.its_at hy.out
                clear hY
                by_cases h4 : y.it.kind = 3
                · have q1 : ((y.it.kind : Int) != 3) = false := by rw [h4]; rfl
                  clear h4
                  go_wp2_with fail
                  go_meet
                  case rel => exact ⟨false, by first | rfl | (rw [q1]), (fun e => by cases e), rfl⟩
                · have q1 : ((y.it.kind : Int) != 3) = true := by rw [bne_iff_ne]; omega
                  have HK : Hid (y.it.kind = 1 ∨ y.it.kind = 2) := by
                    have k1 := Tr.may_kind (Tr.step_may (HOk.out rfl j y.it HTy.out))
                    have k2 := hno.out rfl j y.it (by omega) HTy.out
                    show _ ∨ _
                    omega
                  clear h4
                  go_wp2_with fail
                  go_meet
                  case rel => exact ⟨true, by first | rfl | (rw [q1]), fun _ => ⟨by first | rfl | trivial, j, y, rfl, hy.out, HK.out⟩, rfl⟩
              · go_wp2_with fail
                go_meet
                case rel => exact ⟨false, rfl, (fun e => by cases e), rfl⟩
            · go_wp2_with fail
              go_meet
              case rel => exact ⟨false, rfl, (fun e => by cases e), rfl⟩
        · have q1 : (cE == 0) = false := by rw [beq_eq_false_iff_ne]; exact h1
          clear h1
          go_wp2_with fail
          go_meet
          case rel => exact ⟨false, rfl, (fun e => by cases e), rfl⟩
      case rest =>
        obtain ⟨D, rfl, hD, hwq⟩ := hcut
        subst hwq
        have HD : Hid (D = true → cE = 0 ∧ ∃ (j : Nat) (y : Tr.Iv), a2 = (j : Int) ∧ L0[j]? = some y ∧ (y.it.kind = 1 ∨ y.it.kind = 2)) := hD
        have HB2 : Hid (Bw w wc) := hb2
        clear hD hb2 hw2
        go_upto_if 65 with fail
        go_cut [11, 12] from 66 to 86 (fun v u wx => Bw w wx)
        case first =>
          cases D with
          | false =>
            go_wp2_with fail
            go_meet
            case rel => exact HB2.out
          | true =>
            obtain ⟨h1, j, y, rfl, hy, hk⟩ := HD.out rfl
            subst h1
            have HTy : T[j]? = some y.it := by rw [← hT.out]; exact Tr.its_at hy
            have hjl : j < i := by have := (List.getElem?_eq_some_iff.1 hy).1; rw [HNL.out] at this; exact this
            have j0 : (0 : Int) ≤ (j : Int) := Int.natCast_nonneg _
            have j1 : (j : Int) < (i : Int) := by omega
            have hre := Tr.realE_self (by rw [hC.out]) HTy hk
            have HRS : Hid (∀ u, Bw w u → Calls Try.prog 15 #[.slice a0 i cap0, .string (Nm.S y.it.path)] u fun e w' => e = .returned (.tuple #[.string (Nm.S y.it.path), .int .i64 0]) ∧ Bw u w') := fun u hu =>
              HReal.out u y.it.path _ _ hu (by have := (Tr.fit_in HI.out hy).path; exact this) hre
            have HY : Hid (∃ bb off, a0 = some ⟨bb, off, none⟩ ∧ ∀ u, Bw w u → ItAt u bb (off + j * 6) y) := by
              obtain ⟨bb, off, e', -, -⟩ := HI.out.at hy
              refine ⟨bb, off, e', fun u hu => ?_⟩
              obtain ⟨b2, o2, e2, h2, -⟩ := (HI.out.keep hu).at hy
              rw [e'] at e2
              cases e2; exact h2
            obtain ⟨bb, off, e', hYY⟩ := HY.out
            subst e'
            have HY2 : Hid (∀ u, Bw w u → ItAt u bb (off + j * 6) y) := hYY
            have c0 := (hYY wc HB2.out).c0
            have es : ((Nm.S y.it.path).toList == (Nm.S y.it.path).toList) = true := by simp
            clear HTy hre hk hy HY hYY HD
            go_wp2_with (go_at_call 15; refine (HRS.out _ HB2.out).mono ?_; rintro e w3 ⟨rfl, hw3⟩; have c0' := (HY2.out w3 (HB2.out.trans hw3)).c0)
            go_meet
            case rel => exact HB2.out.trans hw3
        case rest =>
          have hb3 : Bw w wc := hcut
          clear hcut HB2 HD
          obtain ⟨E1, E2, hE⟩ : ∃ a b, Hid (Tr.realE T p = (a, b)) := ⟨_, _, show Tr.realE T p = _ from rfl⟩
          have HR1 : Hid (∀ u, Bw w u → Calls Try.prog 15 #[.slice a0 i cap0, .string (Nm.S p)] u fun e w' => e = .returned (.tuple #[.string (Nm.S E1), .int .i64 E2]) ∧ Bw u w') := fun u hu => HReal.out u p E1 E2 hu hpl hE.out
          obtain ⟨k1, k2, k3⟩ := Tr.realE_plain T p
          rw [hE.out] at k1 k2 k3
          rw [hC.out] at k3
          dsimp only at k1 k2 k3
          by_cases h1 : E2 = 0
          · by_cases h2 : E1 = []
            · have q2 : ((Nm.S E1).toList == []) = true := by rw [Nm.toList_S, h2]; rfl
              have q3 : (E2 == cE) = true ∨ (cE == 0) = true := by
                by_cases hc : cE = 0
                · right; rw [hc]; rfl
                · left
                  have := k3 hc
                  rw [Prod.mk.injEq] at this
                  rw [this.2]; simp
              have q4 : (cE == 0) = true := by
                by_cases hc : cE = 0
                · rw [hc]; rfl
                · have := k3 hc
                  rw [Prod.mk.injEq] at this
                  rw [h1] at this
                  exact absurd this.2.symm hc
              have hc0 : cE = 0 := by simpa using q4
              subst h1
              subst hc0
              clear h2 k1 k2 k3 q3 q4
              go_wp2_with (go_at_call 15; refine (HR1.out _ hb3).mono ?_; rintro e w4 ⟨rfl, hw4⟩)
              go_ret
              exact ⟨rfl, hb3.trans hw4⟩
            · have q2 : ((Nm.S E1).toList == []) = false := by rw [Nm.toList_S, beq_eq_false_iff_ne]; exact h2
              have hc : cE = 0 := by
                by_cases hc : cE = 0
                · exact hc
                · have := k3 hc
                  rw [Prod.mk.injEq] at this
                  exact absurd this.1 h2
              have HO : Hid (Tr.Ok T) := HOk.out hc
              obtain ⟨j, x, hx, rfl, hk⟩ := k1.resolve_left h2
              have hre := Tr.realE_self (by rw [hC.out]; exact hc) hx hk
              obtain ⟨y, hy, rfl⟩ := Tr.its_of (by rw [hT.out]; exact hx)
              have hxl := (Tr.may_len (Tr.step_may (HO.out j y.it hx)))
              have hfi := Tr.find_is HO.out hx
              have hjl : j < i := by have := (List.getElem?_eq_some_iff.1 hy).1; rw [HNL.out] at this; exact this
              have j0 : (0 : Int) ≤ (j : Int) := Int.natCast_nonneg _
              have j1 : (j : Int) < (i : Int) := by omega
              have HRS : Hid (∀ u, Bw w u → Calls Try.prog 15 #[.slice a0 i cap0, .string (Nm.S y.it.path)] u fun e w' => e = .returned (.tuple #[.string (Nm.S y.it.path), .int .i64 0]) ∧ Bw u w') := fun u hu =>
                HReal.out u y.it.path _ _ hu (by omega) hre
              have HFS : Hid (∀ u, Bw w u → Calls Try.prog 10 #[.slice a0 i cap0, .string (Nm.S y.it.path)] u fun e w' => e = .returned (.tuple #[.int .i64 (j : Int), .int .i64 0]) ∧ Bw u w') := fun u hu => HFind.out u _ j hu hfi
              have HAd : Hid (∀ (j : Nat) (y : Tr.Iv), L0[j]? = some y → ∃ bb off, a0 = some ⟨bb, off, none⟩ ∧ ∀ u, Bw w u → ItAt u bb (off + j * 6) y) := fun j y hy => by
                obtain ⟨bb, off, e', -, -⟩ := HI.out.at hy
                refine ⟨bb, off, e', fun u hu => ?_⟩
                obtain ⟨b2, o2, e2, h2, -⟩ := (HI.out.keep hu).at hy
                rw [e'] at e2
                cases e2; exact h2
              obtain ⟨bb, off, e', hYY⟩ := HAd.out j y hy
              subst e'
              have HY2 : Hid (∀ u, Bw w u → ItAt u bb (off + j * 6) y) := hYY
              have es : ((Nm.S y.it.path).toList == (Nm.S y.it.path).toList) = true := by simp
              have HUF := Tr.up_folder HO.out hx
              have hul := Tr.up_lt hxl.2
              have HXL : Hid (y.it.path.length ≤ 400) := hxl.1
              obtain ⟨SP, hSP⟩ : ∃ SP, Hid (Nm.S y.it.path = SP) := ⟨_, rfl⟩
              have HSZ : Hid (SP.size = y.it.path.length) := by show _ = _; rw [← hSP.out, Nm.size_S]
              have HUp0 : Hid (∀ u, Calls Try.prog 16 #[.string SP] u fun e w' => e = .returned (.string (Nm.S (Nm.up y.it.path))) ∧ w' = u) := fun u => by rw [← hSP.out]; exact nupL _ (by have := HXL.out; omega) u
              rw [hSP.out] at HRS HFS HR1 q2 es
              have hkk : (((y.it.kind : Int) != 1) = false) ∨ (((y.it.kind : Int) != 1) = true ∧ ((y.it.kind : Int) != 2) = false) := by
                rcases hk with h | h
                · left; rw [h]; rfl
                · right; rw [h]; exact ⟨rfl, rfl⟩
              subst h1
              subst hc
              clear h2 k1 k2 k3 hre hfi hy hYY hk hx
              go_upto_region 18 with (first
                | (go_at_call 15; clear tok1; refine (HR1.out _ hb3).mono ?_; rintro e w4 ⟨rfl, hw4⟩; have hb4 := hb3.trans hw4)
                | (go_at_call 15; refine (HRS.out _ hb4).mono ?_; rintro e w5 ⟨rfl, hw5⟩; have hb5 := hb4.trans hw5)
                | (go_at_call 10; refine (HFS.out _ hb5).mono ?_; rintro e w6 ⟨rfl, hw6⟩; have hb6 := hb5.trans hw6; have c1 := (HY2.out w6 hb6).c1))
              go_cut [152] from 122 to 152 (fun v wx => v = .bool false ∧ Bw w wx)
              case first =>
                rcases hkk with q5 | ⟨q5, q6⟩
                · go_wp2_with fail
                  go_meet
                  case rel => exact ⟨by first | rfl | (rw [q5]), hb6⟩
                · go_wp2_with fail
                  go_meet
                  case rel => exact ⟨by first | rfl | (rw [q6]), hb6⟩
              case rest =>
                obtain ⟨rfl, hb7⟩ := hcut
                have HU0 : Hid (Nm.up y.it.path = [] ∨ ∃ (j : Nat) (z : Tr.It), T[j]? = some z ∧ z.path = Nm.up y.it.path ∧ z.kind = 2) := HUF
                have HUL : Hid ((Nm.up y.it.path).length < y.it.path.length) := hul
                clear HUF hul c1 hkk es q2
                obtain ⟨U, hU⟩ : ∃ U, Hid (Nm.up y.it.path = U) := ⟨_, rfl⟩
                rw [hU.out] at HU0 HUL HUp0
                go_wp2_with (go_at_call 16; refine (HUp0.out _).mono ?_; rintro e w8 ⟨rfl, hw8⟩; subst hw8)
                go_loopw [17, 18, 19] (fun _ _ up wr => ∃ q : Tr.B, up = .string (Nm.S q) ∧ Hid (q = [] ∨ ∃ (j : Nat) (z : Tr.It), T[j]? = some z ∧ z.path = q ∧ z.kind = 2) ∧ q.length < y.it.path.length ∧ Bw w wr) (fun _ _ up _ => strLen up)
                case atStart => exact ⟨U, rfl, HU0.out, HUL.out, hb7⟩
                case round =>
                  obtain ⟨q, rfl, hq, hql, hbq⟩ := hrel
                  by_cases hq0 : q = []
                  · have r1 : ((Nm.S q).toList == []) = true := by rw [Nm.toList_S, hq0]; rfl
                    clear hq0
                    go_wp2
                    go_ret
                    exact ⟨rfl, hbq⟩
                  · have r1 : ((Nm.S q).toList == []) = false := by rw [Nm.toList_S, beq_eq_false_iff_ne]; exact hq0
                    obtain ⟨j2, z, hz, rfl, hzk⟩ := hq.out.resolve_left hq0
                    obtain ⟨y2, hy2, rfl⟩ := Tr.its_of (by rw [hT.out]; exact hz)
                    have hfi2 := Tr.find_is HO.out hz
                    have hj2 : j2 < i := by have := (List.getElem?_eq_some_iff.1 hy2).1; rw [HNL.out] at this; exact this
                    have r2 : (0 : Int) ≤ (j2 : Int) := Int.natCast_nonneg _
                    have r3 : (j2 : Int) < (i : Int) := by omega
                    have HF2 : Hid (∀ u, Bw w u → Calls Try.prog 10 #[.slice (some ⟨bb, off, none⟩) i cap0, .string (Nm.S y2.it.path)] u fun e w' => e = .returned (.tuple #[.int .i64 (j2 : Int), .int .i64 0]) ∧ Bw u w') := fun u hu => HFind.out u _ j2 hu hfi2
                    obtain ⟨b2, o2, e2, hY2⟩ := HAd.out j2 y2 hy2
                    cases e2
                    have HY3 : Hid (∀ u, Bw w u → ItAt u bb (off + j2 * 6) y2) := hY2
                    have r4 : ((y2.it.kind : Int) != 2) = false := by rw [hzk]; rfl
                    have nx : Hid (Nm.up y2.it.path = [] ∨ ∃ (j : Nat) (z : Tr.It), T[j]? = some z ∧ z.path = Nm.up y2.it.path ∧ z.kind = 2) := Tr.up_folder HO.out hz
                    have nl := Tr.up_lt hq0
                    have h400 := HXL.out
                    obtain ⟨S2, hS2⟩ : ∃ S2, Hid (Nm.S y2.it.path = S2) := ⟨_, rfl⟩
                    have z2 : S2.size = y2.it.path.length := by rw [← hS2.out, Nm.size_S]
                    have z1 := HSZ.out
                    have r5 : (S2.size : Int) < (SP.size : Int) := by omega
                    have HUp2 : Hid (∀ u, Calls Try.prog 16 #[.string S2] u fun e w' => e = .returned (.string (Nm.S (Nm.up y2.it.path))) ∧ w' = u) := fun u => by rw [← hS2.out]; exact nupL _ (by omega) u
                    have HM1 : Hid (strLen (.string S2) = y2.it.path.length) := z2
                    have HM2 : Hid (strLen (.string (Nm.S (Nm.up y2.it.path))) = (Nm.up y2.it.path).length) := strLen_S _
                    have HNL2 : Hid ((Nm.up y2.it.path).length < y2.it.path.length) := nl
                    have HLT : Hid ((Nm.up y2.it.path).length < y.it.path.length) := by show _ < _; omega
                    obtain ⟨U2, hU2⟩ : ∃ U, Hid (Nm.up y2.it.path = U) := ⟨_, rfl⟩
                    rw [hU2.out] at HUp2 HM2 HNL2 HLT nx
                    rw [hS2.out] at HF2 r1 ⊢
                    clear hq0 hz hy2 hfi2 hY2 hzk nl z1 z2 hql
                    go_wp2_with (first
                      | (go_at_call 10; refine (HF2.out _ hbq).mono ?_; rintro e w9 ⟨rfl, hw9⟩; have hb9 := hbq.trans hw9; have d1 := (HY3.out w9 hb9).c1)
                      | (go_at_call 16; refine (HUp2.out _).mono ?_; rintro e wA ⟨rfl, hwA⟩; subst hwA))
                    go_roundw
                    case rel => exact ⟨U2, rfl, nx.out, HLT.out, by assumption⟩
                    case measure =>
                      have m1 := HM1.out
                      have m2 := HM2.out
                      have m3 := HNL2.out
                      simp [m1, m2]
                      omega
          · have h2 := k2 h1
            have q1 := Tr.i_no h1
            have q2 : ((Nm.S E1).toList == []) = true := by rw [Nm.toList_S, h2]; rfl
            by_cases hc : cE = 0
            · subst hc
              clear h1 h2 k1 k2 k3
              by_cases q3 : E2 = 0
              · subst q3
                go_wp2_with (go_at_call 15; refine (HR1.out _ hb3).mono ?_; rintro e w4 ⟨rfl, hw4⟩)
                go_ret
                exact ⟨rfl, hb3.trans hw4⟩
              · have q4 : (E2 == 0) = false := by rw [beq_eq_false_iff_ne]; exact q3
                clear q3
                go_wp2_with (go_at_call 15; refine (HR1.out _ hb3).mono ?_; rintro e w4 ⟨rfl, hw4⟩)
                go_ret
                exact ⟨rfl, hb3.trans hw4⟩
            · have h3 := k3 hc
              rw [Prod.mk.injEq] at h3
              obtain ⟨-, rfl⟩ := h3
              have q3 : (E2 == E2) = true := by simp
              clear h1 h2 k1 k2 k3 hc
              go_wp2_with (go_at_call 15; refine (HR1.out _ hb3).mono ?_; rintro e w4 ⟨rfl, hw4⟩)
              go_ret
              exact ⟨rfl, hb3.trans hw4⟩

set_option maxRecDepth 100000 in
theorem lifted (os : Os) (started : os.Started) (H : Type) (enc : TypeId × Value → H) :
    ReturnsInHanded {} Try.checked os 4 .any (Rows.treeRealSpec.pre6 enc Try.prog Try.f4 Rows.treeRealRow.domain false) (Rows.treeRealSpec.post enc Try.prog Try.f4 false true false false) := by
  refine returnsInHanded_of_change_sized (C := Try.checked) own started (by kernel_rfl) Try.func4
    (ChangeSpec.witness6 (enc := enc) (C := Try.checked) false ⟨#[], #[.slice none 0 0, .string .empty, .int .i64 0], []⟩ 8 (by kernel_rfl) (by kernel_rfl) (by kernel_rfl) (by kernel_rfl)) ?_
  intro W base args ds gs before hval0 hW hcnd hsz0 _
  have hval : ∀ (j : Nat) t v, Try.f4.params[j]? = some t → args[j]? = some v → Value.okWide Try.prog W .any base t v := hval0
  have hW' := hW
  obtain ⟨p, q, hA0, hV, rfl, hfz, hnd⟩ := hW
  have hA : DataW.TrodAll enc Try.prog W 0 (fun _ => true) true Try.f4.params.toList args.toList ds p := hA0
  have hsz : (DataW.weightsEach Try.prog (Try.f4.params.toList ++ Rows.treeRealSpec.plain.varTypes Try.prog) (ds ++ gs)).all (· ≤ reachBytes) = true := hsz0
  rw [Try.params4] at hA hval hsz
  obtain ⟨v0, vs0, d0, ds0, p0, q0, hargs, rfl, rfl, h0, r0⟩ := trodAll_cons hA
  obtain ⟨v1, vs1, d1, ds1, p1, q1, rfl, rfl, rfl, h1, r1⟩ := trodAll_cons r0
  obtain ⟨v2, vs2, d2, ds2, p2, q2, rfl, rfl, rfl, h2, r2⟩ := trodAll_cons r1
  obtain ⟨rfl, rfl, rfl⟩ := trodAll_nil r2
  obtain rfl : args = #[v0, v1, v2] := by cases args; simp_all
  obtain ⟨rfl, rfl⟩ := trodVars_none hV
  obtain ⟨a0, len0, cap0, rfl⟩ := okWide_slice Try.underlying22 (hval 0 22 v0 rfl rfl)
  have k0 := h0
  have lt0 : ∀ x ∈ p0, x.block < W.heap.size := by obtain ⟨m, hm⟩ := k0; exact DataW.trod_lt m _ _ _ hm
  obtain ⟨L0, w0⟩ := open_its h0 (fun x hx => by simpa using List.all_eq_true.1 hsz x (DataW.weights_mem_each (j := 0) (t := 22) rfl rfl x hx))
  have k1 := h1
  have lt1 : ∀ x ∈ p1, x.block < W.heap.size := by obtain ⟨m, hm⟩ := k1; exact DataW.trod_lt m _ _ _ hm
  obtain ⟨s1, rfl, rfl, w1⟩ := open_str (hval 1 9 v1 rfl rfl) h1 (fun x hx => by simpa using List.all_eq_true.1 hsz x (DataW.weights_mem_each (j := 1) (t := 9) rfl rfl x hx))
  obtain ⟨a2, rfl, rfl, rfl, w2⟩ := open_int Try.underlying3 (hval 2 3 v2 rfl rfl) h2
  clear hA0 hval0
  refine (walk a0 len0 cap0 L0 s1 a2 W w0 w1 w2).mono fun e W' ⟨he, bel⟩ => ?_
  subst he
  exact ⟨_, rfl, _, _, _, [], _, [], hW', trodAll_mk1 (shut_bool Try.underlying4 _), (trodAll_cons_mk (Below.trod laidOut (by kernel_rfl) (of_decide_eq_true (by kernel_rfl)) k0 bel lt0) (trodAll_cons_mk (Below.trod laidOut (by kernel_rfl) (of_decide_eq_true (by kernel_rfl)) k1 bel lt1) (trodAll_cons_mk (shut_int Try.underlying3 w2) trodAll_mk0))), rfl, bel.frame _, fun h => by cases h⟩

theorem over : Rows.treeRealRow.holds Try.pinned (OpenSpec.ofChange Rows.treeRealSpec) :=
  OpenClaim.holds_of_wide 4 Try.f4 rfl rfl rfl rfl rfl rfl rfl ⟨rfl, rfl, rfl, rfl, rfl⟩ rfl rfl rfl rfl rfl (by kernel_rfl) Try.func4 (by kernel_rfl)
    (of_decide_eq_true (by kernel_rfl)) (by unfold Func.isWrapper; first | (rw [if_pos (by decide +kernel)]; kernel_rfl) | (rw [if_neg (by decide +kernel)]; exact ⟨rfl, rfl⟩))
    (fun os started H enc _ => lifted os started H enc)

theorem proved : Rows.TreeRealSaid := over
#print axioms proved
end Go.Proofs.Ytjifdoneejofiab.treeReal
