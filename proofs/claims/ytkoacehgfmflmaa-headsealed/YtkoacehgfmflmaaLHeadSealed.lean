/- Proved: for every row of bytes and every two numbers the statement HeadSealed answers true (the document's P10.8: the sum does not hang on the order of bytes; what is sealed has the same sum, is sealed, and never refused for its sum), with no condition but the reach. -/
import Derived.Test.YtkoacehgfmflmaaX2
import Derived.Deep.CutRange
import Derived.BigRegion
import Derived.Test.YtkoacehgfmflmaaFh
import Derived.ShutString
import Derived.ChangeOld
namespace Go.Proofs.Ytkoacehgfmflmaa.headSealed
open Go.ChangeShapes Go.WideShapes Go.ChangeAt Go.RowKit
set_option linter.unusedVariables false

set_option linter.unusedSimpArgs false
attribute [local go_sem] List.getElem?_cons_zero Option.getD_some
theorem byte_of_len (n : Nat) : (((UInt8.ofNat n).toNat : Nat) : Int) = (n : Int) % 256 := by rw [UInt8.toNat_ofNat']; omega
theorem own_of_gb {w : World} {base : Nat} {A : Option Addr} {n cap : Nat} {L : Hd.B} (h : GB w base (.slice A n cap) L) (hn : 512 ≤ L.length) : ∃ g, A = some ⟨g, 0, none⟩ ∧ n = L.length ∧ 512 ≤ cap ∧ base ≤ g ∧ Own w g 512 (Hd.rowF (L.take 512)) := by
  unfold GB at h
  rw [← Hd.cells_row] at h
  obtain ⟨g, c, hv, hb, h1, h2, h3⟩ := Own.of h (by omega)
  injection hv with e1 e2 e3
  subst e1 e2 e3
  refine ⟨g, rfl, rfl, by omega, hb, (h3.less hn).congr (fun c hc => ?_)⟩
  rw [Hd.rowF_at (show (L.take 512)[c]? = some L[c] by rw [List.getElem?_take, if_pos hc, List.getElem?_eq_getElem]), Hd.rowF_at (List.getElem?_eq_getElem (show c < L.length by omega))]
theorem own_setB {w : World} {g : Nat} {l : Hd.B} (h : Own w g 512 (Hd.rowF l)) (hl : l.length = 512) {j : Nat} (hj : j < 512) (c : UInt8) : Own (w.setCell ⟨g, j, none⟩ (.int .u8 ((c.toNat : Nat) : Int))) g 512 (Hd.rowF (l.set j c)) := by
  refine h.set hj (Hd.rowF_at (by rw [List.getElem?_set_self (by omega)])) (fun i hi hne => ?_)
  unfold Hd.rowF
  rw [List.getD_eq_getElem?_getD, List.getD_eq_getElem?_getD, List.getElem?_set_ne (Ne.symm hne)]
theorem same_q (A B : Option Addr) (n ca cb : Nat) (f g : Nat → Int) (hn : n ≤ 4611686018427387904) (w : World) (ha : RowAt w A n f) (hb : RowAt w B n g) (h : ∀ i, i < n → f i = g i) :
    Calls Try.prog 11 #[.slice A n ca, .slice B n cb] w fun e w' => e = .returned (.bool true) ∧ ∃ m, w' = w.drewN m := by
  refine (same10_any A B n n ca cb f g hn hn w ha hb).mono ?_
  rintro e w' ⟨⟨x, rfl, hx⟩, hq⟩
  obtain rfl : x = true := hx.2 ⟨rfl, h⟩
  exact ⟨rfl, hq⟩
set_option maxRecDepth 100000 in
set_option maxHeartbeats 16000000 in
theorem sealed_any (A : Option Addr) (n ca : Nat) (l0 : Hd.B) (hl0 : Hid (l0.length = n)) (hn : n ≤ 140737488351232) (hnil : A = none → ca = 0) (i k : Int) (hi1 : -9223372036854775808 ≤ i) (hi2 : i ≤ 9223372036854775807) (hk1 : -9223372036854775808 ≤ k) (hk2 : k ≤ 9223372036854775807)
    (w : World) (hr : RowAt w A n (Hd.rowF l0)) : Calls Try.prog 8 #[.slice A n ca, .int .i64 i, .int .i64 k] w fun e w' => e = .returned (.bool true) ∧ Below w.heap.size w w' := by
  obtain ⟨i0, hi0, hz0, hz1, hz2⟩ := info_parts info_u8
  have hz7 := zero_head
  obtain ⟨N, hN⟩ : ∃ N, Hid (N = Hd.none7) := ⟨_, rfl⟩
  rw [← hN.out] at hz7
  have HNS : Hid (∀ h : Hd.Hdr, N.size = (Hd.hv h).size) := fun h => by rw [hN.out]; rfl
  have hmx : 0 + n ≤ maxLen := by unfold maxLen; omega
  have HR : Hid (RowAt w A n (Hd.rowF l0)) := hr
  clear hr
  go_enter Try.func8, Try.ntmps8
  go_wp2_with (first
    | (go_at_call 25; refine (awake10_any _).mono ?_; rintro e w1 ⟨rfl, hw1⟩; have hr1 := HR.out.keep hw1)
    | (at_builtin; refine wpList_append_rowat _ (by rfl) (.tmp 22) (.tmp 23) _ (by rfl) w1.heap.size 5 i0 _ 1 Try.underlying24 hi0 hz0 hz1 hz2 rfl _ _ _ (by rfl) (World.ownsRow_nil w1 _ _ _) A n ca (Hd.rowF l0) (by rfl) hr1 hnil hmx (by omega) (Nat.le_refl _) ?_; intro v2 w2 hown2 hgrow2; have b2 : Bw w1 w2 := (Below.refl _ _).grown hgrow2 (Nat.le_refl _) (fun k hk => by simp [Value.ownBlock] at hk); rw [List.nil_append, Nat.zero_add] at hown2; have g2 : GB w2 w1.heap.size v2 l0 := (by unfold GB; rw [hl0.out, ← Hd.cells_row, hl0.out]; exact hown2); clear hown2 hgrow2; obtain ⟨A2, c2, rfl, hc2, hm2, -, -, -⟩ := g2.row; rw [hl0.out] at g2 hc2; rw [hl0.out]))
  have hs2 := b2.size
  go_loopw [7] (fun v wr => ∃ (B : Option Addr) (m c : Nat) (L : Hd.B), v = .slice B m c ∧ Hid (L.length = m) ∧ m ≤ c ∧ c ≤ maxLen ∧ (m ≤ 512 ∨ m = n) ∧ GB wr w1.heap.size (.slice B m c) L ∧ Bw w1 wr) (fun v _ => 512 - (match v with | .slice _ m _ => m | _ => 0))
  case atStart => exact ⟨A2, n, c2, l0, rfl, hl0.out, hc2, hm2, .inr rfl, g2, b2⟩
  case round =>
    obtain ⟨B, m, c, L, rfl, hL, hmc, hcm, hmn, gb, bw⟩ := hrel
    have hsr := bw.size
    have m0 : (0 : Int) ≤ (m : Int) := Int.natCast_nonneg _
    by_cases hlt : m < 512
    · have t1 : (m : Int) < 512 := by omega
      have hown : wr.ownsRow w1.heap.size 5 1 (.slice B m c) m (Lib.byteCells L) := by unfold GB at gb; rw [hL.out] at gb; exact gb
      obtain ⟨z, hz⟩ : ∃ z : Int, Hid (z = (m : Int) % 256) := ⟨_, rfl⟩
      have ez : (m : Int) % 256 = z := hz.out.symm
      have ezw : IntKind.u8.wrap (m : Int) = z := by rw [IntKind.wrap_u8']; exact ez
      go_wp2_with (at_builtin; refine wpList_append_lies _ (by rfl) (.tmp 28) (.tmp 32) _ (by rfl) w1.heap.size 5 i0 _ 1 1 Try.underlying24 hi0 hz0 hz1 hz2 rfl (by omega) _ _ _ (by rfl) (hown.alloc _) ⟨wr.heap.size, 0, none⟩ 1 1 [.int .u8 z] (by rfl) (by rfl) (World.news_of_block (cs := #[_]) (t := 5) (fr := (0, 0)) (heap_alloc_new wr _)) (by simp [Value.oneCell']) (by omega) (by unfold maxLen; omega) (by omega) (by simp; omega) (wr.heap.size + 1) (by simp) ?_; intro g4 c4 w4 hown4 hgrow4 hat4 hlt4)
      have hb4 : Bw w1 w4 := bw_grow hgrow4 (Below.alloc bw hsr _) (by rw [size_alloc]; omega) (hown.alloc _)
      have g4' : GB w4 w1.heap.size (.slice (some ⟨g4, 0, none⟩) (m + 1) c4) (L ++ [UInt8.ofNat m]) := by
        unfold GB
        rw [List.length_append, hL.out, byteCells_append]
        have e : Lib.byteCells [UInt8.ofNat m] = [.int .u8 z] := by unfold Lib.byteCells; rw [List.map_cons, List.map_nil, byte_of_len, hz.out]
        rw [e]
        exact hown4
      have hcc : m + 1 ≤ c4 ∧ c4 ≤ maxLen := by
        rcases hown4.2 with ⟨e1, _⟩ | ⟨g, cap, cur, e1, _, _, h1, h2, _⟩
        · cases e1
        · cases e1; exact ⟨h1, h2⟩
      go_roundw
      case rel => exact ⟨some ⟨g4, 0, none⟩, m + 1, c4, L ++ [UInt8.ofNat m], rfl, (by show _ = _; rw [List.length_append, hL.out]; rfl), hcc.1, hcc.2, .inl (by omega), g4', hb4⟩
      case measure => (show 512 - (m + 1) < 512 - m); omega
    · have t1 : ¬ (m : Int) < 512 := by omega
      obtain ⟨g, rfl, -, hc5, hg, ho⟩ := own_of_gb gb (by rw [hL.out]; omega)
      obtain ⟨l, hlE⟩ : ∃ l, Hid (l = L.take 512) := ⟨_, rfl⟩
      have hl : Hid (l.length = 512) := by show _ = _; rw [hlE.out, List.length_take, hL.out]; omega
      rw [← hlE.out] at ho
      have HO : Hid (Own wr g 512 (Hd.rowF l)) := ho
      have HW : Hid (Bw w wr) := hw1.trans bw
      have HG : Hid (w.heap.size ≤ g) := by have := hw1.size; show _ ≤ _; omega
      have hc6 : (512 : Int) ≤ (c : Int) := by omega
      have d1 : ¬ c = 156 := by omega
      clear ho hlE hL hmn g2 bw hw1 hr1 hmc gb
      have HSL : Hid ((Hd.sealB l).length = 512) := by show _ = _; rw [Hd.seal_len (by rw [hl.out]; omega), hl.out]
      have HSS : Hid (Hd.sealB (Hd.sealB l) = Hd.sealB l) := Hd.seal_seal (by rw [hl.out]; omega)
      have HSM : Hid (Hd.sumB (Hd.sealB l) = Hd.sumB l) := Hd.sum_seal (by rw [hl.out]; omega)
      obtain ⟨kd, er, hrd⟩ := Hd.reads_ex (Hd.sealB l)
      have her : ((er : Int) == 101) = false := by
        rw [beq_eq_false_iff_ne]
        intro e
        exact Hd.reads_seal hl.out hrd (by omega)
      obtain ⟨S, hS⟩ : ∃ S : Nat, Hid (S = Hd.sumB l) := ⟨_, rfl⟩
      have hrow : Hid (∀ V, Bw wr V → RowAt V (some ⟨g, 0, none⟩) 512 (Hd.rowF l)) := fun V h => (HO.out.keep h).row (Hd.rowF_bd _)
      have tok1 : Hid (w = w) := rfl
      have tok2 : Hid (w = w) := rfl
      have tok3 : Hid (w = w) := rfl
      have tok4 : Hid (w = w) := rfl
      go_wp2_with (go_at_call 19; clear tok1; refine (hSum_any _ 512 c l hl.out _ (hrow.out _ (Bw.refl _))).mono ?_; rintro e u3 ⟨-, h3, hu3⟩; obtain rfl := h3 rfl; rw [← hS.out])
      go_wp2_with (go_at_call 20; clear tok2; refine (hSeal_any _ 512 c l hl.out _ (hrow.out _ hu3)).mono ?_; rintro e u4 ⟨-, h4, hu4⟩; obtain ⟨bs, rfl, hn4⟩ := h4 rfl; have hA4 := hn4.arr; have hb4 := hu3.trans hu4)
      go_wp2_with (go_at_call 19; clear tok3; refine (hSum_any _ 512 512 (Hd.sealB l) HSL.out _ (arr_row512 hA4 HSL.out)).mono ?_; rintro e u5 ⟨-, h5, hu5⟩; obtain rfl := h5 rfl; rw [HSM.out, ← hS.out]; have hA5 := hA4.keep hu5; have hb5 := hb4.trans hu5)
      go_wp2_with (go_at_call 20; clear tok4; refine (hSeal_any _ 512 512 (Hd.sealB l) HSL.out _ (arr_row512 hA5 HSL.out)).mono ?_; rintro e u6 ⟨-, h6, hu6⟩; obtain ⟨bt, rfl, hn6⟩ := h6 rfl; have hT6 := hn6.arr; rw [HSS.out] at hT6; have hA6 := hA5.keep hu6; have hb6 := hb5.trans hu6)
      go_wp2_with (first | (go_at_call 16; refine (hGet_reads _ 512 512 (Hd.sealB l) kd er HSL.out hrd _ (arr_row512 hA6 HSL.out)).mono ?_; rintro e u7 ⟨rfl, hu7⟩; have hA7 := hA6.keep hu7; have hT7 := hT6.keep hu7; have hb7 := hb6.trans hu7) | (refine wpList_store_row rfl 23 _ _ rfl u7.heap.size (Hd.hv kd) rfl rfl 23 N (heap_alloc_new _ _) (info_head kd) (HNS.out kd) (Hd.hv_one kd) ?_; rw [setRow_alloc_new]; obtain ⟨U8, hU8⟩ : ∃ V, V = u7.alloc (.cells (Hd.hv kd) 23) := ⟨_, rfl⟩; have bU8 : Bw u7 U8 := (by rw [hU8]; exact bw_alloc7 (Bw.refl _) _); rw [← hU8]; clear hU8))
      have HB8 : Hid (Bw wr U8) := hb7.trans bU8
      have HA8 : Hid (∀ V, Bw U8 V → ArrAt V bs (Hd.sealB l) ∧ ArrAt V bt (Hd.sealB l)) := fun V h => ⟨(hA7.keep bU8).keep h, (hT7.keep bU8).keep h⟩
      clear hA4 hA5 hA6 hA7 hT6 hT7 hu3 hu4 hu5 hu6 hu7 hb4 hb5 hb6 hb7 hn4 hn6 bU8 hz7
      have z1 : ∀ q, Calls Try.prog 11 #[.slice (some ⟨bs, 0, none⟩) 512 512, .slice (some ⟨bt, 0, none⟩) 512 512] (U8.drewN q) fun e w' => e = .returned (.bool true) ∧ ∃ m, w' = (U8.drewN q).drewN m := fun q => same_q _ _ 512 _ _ _ _ (by omega) _ (arr_row512 (HA8.out _ (Bw.drewN _ q)).1 HSL.out) (arr_row512 (HA8.out _ (Bw.drewN _ q)).2 HSL.out) (fun _ _ => rfl)
      have z2 : ∀ q, Calls Try.prog 11 #[.slice (some ⟨bs, 0, none⟩) 148 512, .slice (some ⟨g, 0, none⟩) 148 c] (U8.drewN q) fun e w' => e = .returned (.bool true) ∧ ∃ m, w' = (U8.drewN q).drewN m := fun q => same_q _ _ 148 _ _ _ _ (by omega) _ (row_to (arr_row512 (HA8.out _ (Bw.drewN _ q)).1 HSL.out) HSL.out 148 (by omega)) (row_to (hrow.out _ (HB8.out.trans (Bw.drewN _ q))) hl.out 148 (by omega)) (fun i _ => by rw [Hd.seal_take (by rw [hl.out]; omega)])
      have z3 : ∀ q, Calls Try.prog 11 #[.slice (some ⟨bs, 156, none⟩) 356 356, .slice (some ⟨g, 156, none⟩) 356 (c - 156)] (U8.drewN q) fun e w' => e = .returned (.bool true) ∧ ∃ m, w' = (U8.drewN q).drewN m := fun q => same_q _ _ 356 _ _ _ _ (by omega) _ (by have := row_from (arr_row512 (HA8.out _ (Bw.drewN _ q)).1 HSL.out) HSL.out 156 356 (by omega); rwa [Nat.zero_add] at this) (by have := row_from (hrow.out _ (HB8.out.trans (Bw.drewN _ q))) hl.out 156 356 (by omega); rwa [Nat.zero_add] at this) (fun i _ => by rw [Hd.seal_drop (by rw [hl.out]; omega)])
      have Z1 : Hid _ := z1
      have Z2 : Hid _ := z2
      have Z3 : Hid _ := z3
      clear z1 z2 z3
      go_quiet ((go_at_call 11; with_reducible (first | exact Calls.quiet_of (Z1.out _) | exact Calls.quiet_of (Z2.out _) | exact Calls.quiet_of (Z3.out _))))
      obtain ⟨u11, hu11⟩ : ∃ V, V = U8.drewN nq := ⟨_, rfl⟩
      have hb11 : Bw U8 u11 := by rw [hu11]; exact Bw.drewN _ nq
      rw [← hu11]
      clear hu11
      have HB : Hid (Bw w u11) := HW.out.trans (HB8.out.trans hb11)
      have HO11 : Hid (Own u11 g 512 (Hd.rowF l)) := HO.out.keep (HB8.out.trans hb11)
      clear HB8 HA8 hb11 HO hrow HW hrd Z1 Z2 Z3
      go_wp2_with (first
        | (go_at_call_of 26 i; refine (place_any i hi1 hi2 _).mono ?_; rintro e w' ⟨p, hp, rfl, hw'⟩; subst w')
        | (go_at_call_of 26 k; refine (place_any k hk1 hk2 _).mono ?_; rintro e w' ⟨r, hrr, rfl, hw'⟩; subst w'; refine Hid.out ?_))
      show Hid _
      have p0 : (0 : Int) ≤ (p : Int) := Int.natCast_nonneg _
      have r0 : (0 : Int) ≤ (r : Int) := Int.natCast_nonneg _
      have p1 : (p : Int) < 512 := by omega
      have r1 : (r : Int) < 512 := by omega
      obtain ⟨OUT, hOUT⟩ : ∃ OUT : Bool, (OUT = true ↔ (148 ≤ p ∧ p < 156 ∨ 148 ≤ r ∧ r < 156)) := by
        by_cases h : 148 ≤ p ∧ p < 156 ∨ 148 ≤ r ∧ r < 156
        · exact ⟨true, ⟨fun _ => h, fun _ => rfl⟩⟩
        · exact ⟨false, ⟨fun e => Bool.noConfusion e, fun e => absurd e h⟩⟩
      have HOUT : Hid (OUT = true ↔ (148 ≤ p ∧ p < 156 ∨ 148 ≤ r ∧ r < 156)) := hOUT
      clear hOUT
      unfold Hid
      go_upto_region 19 with fail
      go_cut [126] from 113 to 126 (fun v wx => v = .bool OUT ∧ wx = u11)
      case first =>
        have no : ¬ (148 ≤ p ∧ p < 156 ∨ 148 ≤ r ∧ r < 156) → OUT = false := fun h => by
          cases hb : OUT with
          | false => rfl
          | true => exact absurd (HOUT.out.1 hb) h
        rcases Nat.lt_or_ge p 148 with hlo | hlo
        · have q1 : ¬ (148 : Int) ≤ (p : Int) := by omega
          rcases Nat.lt_or_ge r 148 with hlr | hlr
          · have q3 : ¬ (148 : Int) ≤ (r : Int) := by omega
            obtain rfl := no (by omega)
            clear no
            go_wp2_with fail
            go_meet
            case rel => exact ⟨rfl, rfl⟩
          · have q3 : (148 : Int) ≤ (r : Int) := by omega
            by_cases hr5 : r < 156
            · have q4 : (r : Int) < 156 := by omega
              obtain rfl := HOUT.out.2 (by omega)
              clear no
              go_wp2_with fail
              go_meet
              case rel => exact ⟨rfl, rfl⟩
            · have q4 : ¬ (r : Int) < 156 := by omega
              obtain rfl := no (by omega)
              clear no
              go_wp2_with fail
              go_meet
              case rel => exact ⟨by first | rfl | rw [decide_eq_false (by omega)], rfl⟩
        · have q1 : (148 : Int) ≤ (p : Int) := by omega
          by_cases hp5 : p < 156
          · have q2 : (p : Int) < 156 := by omega
            obtain rfl := HOUT.out.2 (by omega)
            clear no
            go_wp2_with fail
            go_meet
            case rel => exact ⟨rfl, rfl⟩
          · have q2 : ¬ (p : Int) < 156 := by omega
            rcases Nat.lt_or_ge r 148 with hlr | hlr
            · have q3 : ¬ (148 : Int) ≤ (r : Int) := by omega
              obtain rfl := no (by omega)
              clear no
              go_wp2_with fail
              go_meet
              case rel => exact ⟨rfl, rfl⟩
            · have q3 : (148 : Int) ≤ (r : Int) := by omega
              by_cases hr5 : r < 156
              · have q4 : (r : Int) < 156 := by omega
                obtain rfl := HOUT.out.2 (by omega)
                clear no
                go_wp2_with fail
                go_meet
                case rel => exact ⟨rfl, rfl⟩
              · have q4 : ¬ (r : Int) < 156 := by omega
                obtain rfl := no (by omega)
                clear no
                go_wp2_with fail
                go_meet
                case rel => exact ⟨by first | rfl | rw [decide_eq_false (by omega)], rfl⟩
      case rest =>
        obtain ⟨rfl, rfl⟩ := hcut
        cases OUT with
        | true =>
          go_wp2
          go_ret
          exact ⟨rfl, HB.out⟩
        | false =>
        have hpo : Hid (p < 148 ∨ 156 ≤ p) := by
          have : ¬ (148 ≤ p ∧ p < 156 ∨ 148 ≤ r ∧ r < 156) := fun h => Bool.noConfusion (HOUT.out.2 h)
          show _ ∨ _; omega
        have hro : Hid (r < 148 ∨ 156 ≤ r) := by
          have : ¬ (148 ≤ p ∧ p < 156 ∨ 148 ≤ r ∧ r < 156) := fun h => Bool.noConfusion (HOUT.out.2 h)
          show _ ∨ _; omega
        clear HOUT
        obtain ⟨x, hx⟩ : ∃ x : UInt8, Hid (l[p]? = some x) := ⟨l[p]'(by rw [hl.out]; exact hp), by show _ = _; exact List.getElem?_eq_getElem _⟩
        obtain ⟨y, hy⟩ : ∃ y : UInt8, Hid (l[r]? = some y) := ⟨l[r]'(by rw [hl.out]; exact hrr), by show _ = _; exact List.getElem?_eq_getElem _⟩
        have HSW : Hid (Hd.sumB ((l.set p y).set r x) = S) := by show _ = _; rw [Hd.sumB_swap hl.out hx.out hy.out hpo.out hro.out, hS.out]
        have HL3 : Hid (((l.set p y).set r x).length = 512) := by show _ = _; rw [List.length_set, List.length_set]; exact hl.out
        have hdr11 : Bw wc wc.drew := (Below.refl _ _).drew
        have hob := HO11.out.keep hdr11
        obtain ⟨cp, fp⟩ := hob.cell (c := p) hp
        obtain ⟨cr, fr⟩ := hob.cell (c := r) hrr
        rw [Hd.rowF_at hx.out] at cp
        rw [Hd.rowF_at hy.out] at cr
        have ho2 := own_setB hob hl.out hp y
        have ho3 := own_setB ho2 (by rw [List.length_set]; exact hl.out) hrr x
        obtain ⟨cr2', fr2'⟩ := ho2.cell (c := r) hrr
        obtain ⟨zr, hzr⟩ : ∃ z, Hid (z = Hd.rowF (l.set p y) r) := ⟨_, rfl⟩
        rw [← hzr.out] at cr2'
        have cr2 : (wc.setCell ⟨g, p, none⟩ (.int .u8 ((y.toNat : Nat) : Int))).drew.cell? ⟨g, r, none⟩ = some (.int .u8 zr) := cr2'
        have fr2 : (wc.setCell ⟨g, p, none⟩ (.int .u8 ((y.toNat : Nat) : Int))).drew.frozen? ⟨g, r, none⟩ = false := fr2'
        clear cr2' fr2'
        have HB3 : Hid (Bw w ((wc.drew.setCell ⟨g, p, none⟩ (.int .u8 ((y.toNat : Nat) : Int))).setCell ⟨g, r, none⟩ (.int .u8 ((x.toNat : Nat) : Int)))) := ((HB.out.trans hdr11).put HG.out _ _).put HG.out _ _
        have HO3 : Hid (Own ((wc.drew.setCell ⟨g, p, none⟩ (.int .u8 ((y.toNat : Nat) : Int))).setCell ⟨g, r, none⟩ (.int .u8 ((x.toNat : Nat) : Int))) g 512 (Hd.rowF ((l.set p y).set r x))) := ho3
        clear hob ho2 ho3 hpo hro
        go_upto_region 21 with fail
        go_cut [] from 127 to 140 (fun wx => Own wx g 512 (Hd.rowF ((l.set p y).set r x)) ∧ Bw w wx)
        case first =>
          go_region
          all_goals
            go_wp2_with fail
            go_meet
            case rel => exact ⟨HO3.out, HB3.out⟩
        case rest =>
          obtain ⟨hOx, hBx⟩ := hcut
          have hrx := hOx.row (Hd.rowF_bd _)
          clear cp fp cr fr cr2 fr2 hOx
          rename World => wz
          go_wp2_with (go_at_call 19; refine (hSum_any _ 512 c ((l.set p y).set r x) HL3.out _ hrx).mono ?_; rintro e u12 ⟨-, h12, hu12⟩; obtain rfl := h12 rfl; rw [HSW.out])
          go_ret
          exact ⟨rfl, hBx.trans hu12⟩
theorem walk (a0 : Option Addr) (len0 cap0 : Nat) (f0 : Nat → Int) (a1 : Int) (a2 : Int) (w : World) (w0 : InRow w a0 len0 cap0 f0) (w1 : (Lit.int .i64 a1).wf = true) (w2 : (Lit.int .i64 a2).wf = true) :
    Calls Try.prog 8 #[.slice a0 len0 cap0, .int .i64 a1, .int .i64 a2] w fun e w' => e = .returned (.bool true) ∧ Below w.heap.size w w' := by
  obtain ⟨l, hl, hr, -⟩ := row_list w0.row
  have b1 := bounds_i64 w1
  have b2 := bounds_i64 w2
  exact sealed_any a0 len0 cap0 l hl (by have := w0.le; have := w0.room; omega) w0.nil a1 a2 (by omega) (by omega) (by omega) (by omega) w hr

set_option maxRecDepth 100000 in
theorem lifted (os : Os) (started : os.Started) (H : Type) (enc : TypeId × Value → H) :
    ReturnsInHanded {} Try.checked os 8 .any (Rows.headSealedSpec.pre6 enc Try.prog Try.f8 Rows.headSealedRow.domain false) (Rows.headSealedSpec.post enc Try.prog Try.f8 false true false false) := by
  refine returnsInHanded_of_change_sized (C := Try.checked) own started (by kernel_rfl) Try.func8
    (ChangeSpec.witness6 (enc := enc) (C := Try.checked) false ⟨#[], #[.slice none 0 0, .int .i64 0, .int .i64 0], []⟩ 8 (by kernel_rfl) (by kernel_rfl) (by kernel_rfl) (by kernel_rfl)) ?_
  intro W base args ds gs before hval0 hW hcnd hsz0 _
  have hval : ∀ (j : Nat) t v, Try.f8.params[j]? = some t → args[j]? = some v → Value.okWide Try.prog W .any base t v := hval0
  have hW' := hW
  obtain ⟨p, q, hA0, hV, rfl, hfz, hnd⟩ := hW
  have hA : DataW.TrodAll enc Try.prog W 0 (fun _ => true) true Try.f8.params.toList args.toList ds p := hA0
  have hsz : (DataW.weightsEach Try.prog (Try.f8.params.toList ++ Rows.headSealedSpec.plain.varTypes Try.prog) (ds ++ gs)).all (· ≤ reachBytes) = true := hsz0
  rw [Try.params8] at hA hval hsz
  obtain ⟨v0, vs0, d0, ds0, p0, q0, hargs, rfl, rfl, h0, r0⟩ := trodAll_cons hA
  obtain ⟨v1, vs1, d1, ds1, p1, q1, rfl, rfl, rfl, h1, r1⟩ := trodAll_cons r0
  obtain ⟨v2, vs2, d2, ds2, p2, q2, rfl, rfl, rfl, h2, r2⟩ := trodAll_cons r1
  obtain ⟨rfl, rfl, rfl⟩ := trodAll_nil r2
  obtain rfl : args = #[v0, v1, v2] := by cases args; simp_all
  obtain ⟨rfl, rfl⟩ := trodVars_none hV
  obtain ⟨a0, len0, cap0, rfl⟩ := okWide_slice Try.underlying24 (hval 0 24 v0 rfl rfl)
  have k0 := h0
  have lt0 : ∀ x ∈ p0, x.block < W.heap.size := by obtain ⟨m, hm⟩ := k0; exact DataW.trod_lt m _ _ _ hm
  obtain ⟨f0, w0⟩ := open_bytes h0 (fun x hx => by simpa using List.all_eq_true.1 hsz x (DataW.weights_mem_each (j := 0) (t := 24) rfl rfl x hx))
  obtain ⟨a1, rfl, rfl, rfl, w1⟩ := open_int Try.underlying3 (hval 1 3 v1 rfl rfl) h1
  obtain ⟨a2, rfl, rfl, rfl, w2⟩ := open_int Try.underlying3 (hval 2 3 v2 rfl rfl) h2
  clear hA0 hval0
  refine (walk a0 len0 cap0 f0 a1 a2 W w0 w1 w2).mono fun e W' ⟨he, bel⟩ => ?_
  subst he
  exact ⟨_, rfl, _, _, _, [], _, [], hW', trodAll_mk1 (shut_bool Try.underlying4 _), (trodAll_cons_mk (Below.trod laidOut (by kernel_rfl) (of_decide_eq_true (by kernel_rfl)) k0 bel lt0) (trodAll_cons_mk (shut_int Try.underlying3 w1) (trodAll_cons_mk (shut_int Try.underlying3 w2) trodAll_mk0))), rfl, bel.frame _, fun h => by cases h⟩

theorem over : Rows.headSealedRow.holds Try.pinned (OpenSpec.ofChange Rows.headSealedSpec) :=
  OpenClaim.holds_of_wide 8 Try.f8 rfl rfl rfl rfl rfl rfl rfl ⟨rfl, rfl, rfl, rfl, rfl⟩ rfl rfl rfl rfl rfl (by kernel_rfl) Try.func8 (by kernel_rfl)
    (of_decide_eq_true (by kernel_rfl)) (by unfold Func.isWrapper; first | (rw [if_pos (by decide +kernel)]; kernel_rfl) | (rw [if_neg (by decide +kernel)]; exact ⟨rfl, rfl⟩))
    (fun os started H enc _ => lifted os started H enc)

theorem proved : Rows.HeadSealedSaid := over
#print axioms proved
end Go.Proofs.Ytkoacehgfmflmaa.headSealed
