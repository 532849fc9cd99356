/- Proved: for every list of records and of cuts the statement JournalBack answers true (the document's P15.6: what is added in whatever portions is told in order, by the journal and by one that is opened anew), with no condition but the reach. -/
import Derived.Test.YtppknadflmjefaaWX
import Derived.Test.YtppknadflmjefaaFj
import Derived.ShutString
import Derived.ChangeOld
namespace Go.Proofs.Ytppknadflmjefaa.journalBack
open Go.ChangeShapes Go.WideShapes Go.ChangeAt Go.RowKit
set_option linter.unusedVariables false

def ac15 (a : Option Addr) (n c : Nat) (R : Nat → Option Addr) (L C : Nat → Nat) (Z : Nat → Nat → Int) : Ac15 := ⟨0, 0, 0, a, n, c, R, L, C, Z, none, 0, 0, fun _ => 0, none, 0, 0, fun _ => 0⟩
theorem ac15_in {w : World} {a : Option Addr} {n c : Nat} {R : Nat → Option Addr} {L C : Nat → Nat} {Z : Nat → Nat → Int} (h : InMat w a n c R L C Z) : InActs15 (w.alloc (.cells #[.int .i64 0, .int .i64 0, .int .i64 0, .slice a n c, .slice none 0 0, .slice none 0 0] 44)) (some ⟨w.heap.size, 0, none⟩) 1 1 (fun _ => ac15 a n c R L C Z) := by
  have k : Bw w (w.alloc (.cells #[.int .i64 0, .int .i64 0, .int .i64 0, .slice a n c, .slice none 0 0, .slice none 0 0] 44)) := Below.alloc (Bw.refl _) (Nat.le_refl _) _
  refine ⟨.inr ⟨w.heap.size, 0, rfl, fun i hi j v hv => ?_⟩, fun i hi => ⟨h.keep k, ⟨⟨.inl rfl, fun _ => ⟨show (-9223372036854775808 : Int) ≤ 0 by decide, show (0 : Int) ≤ 9223372036854775807 by decide⟩⟩, Nat.le_refl _, Nat.zero_le _⟩, ⟨⟨.inl rfl, fun _ => by show (0 : Int) ≤ 0 ∧ (0 : Int) < 256; decide⟩, Nat.le_refl _, Nat.zero_le _, fun _ => rfl⟩, ⟨by show (-9223372036854775808 : Int) ≤ 0; decide, by show (0 : Int) ≤ 9223372036854775807; decide⟩, ⟨by show (-9223372036854775808 : Int) ≤ 0; decide, by show (0 : Int) ≤ 9223372036854775807; decide⟩, ⟨by show (-9223372036854775808 : Int) ≤ 0; decide, by show (0 : Int) ≤ 9223372036854775807; decide⟩⟩, Nat.le_refl _, by decide⟩
  obtain rfl : i = 0 := by omega
  rw [show 0 + 0 * 6 + j = j by omega]
  have h1 := cell_of_row (w.alloc (.cells #[.int .i64 0, .int .i64 0, .int .i64 0, .slice a n c, .slice none 0 0, .slice none 0 0] 44)) w.heap.size j _ _ _ (heap_alloc_new _ _)
  rw [h1]
  have h2 : ([Value.int .i64 0, .int .i64 0, .int .i64 0, .slice a n c, .slice none 0 0, .slice none 0 0] : List Value)[j]? = some v := hv
  simpa using h2
set_option maxRecDepth 100000 in
set_option maxHeartbeats 16000000 in
theorem walk (a0 : Option Addr) (len0 cap0 : Nat) (R0 : Nat → Option Addr) (L0 C0 : Nat → Nat) (Z0 : Nat → Nat → Int) (a1 : Option Addr) (len1 cap1 : Nat) (f1 : Nat → Int) (w : World) (w0 : InMat w a0 len0 cap0 R0 L0 C0 Z0) (w1 : InInts w a1 len1 cap1 f1) :
    Calls Try.prog 7 #[.slice a0 len0 cap0, .slice a1 len1 cap1] w fun e w' => e = .returned (.bool true) ∧ Below w.heap.size w w' := by
  have hin := ac15_in w0
  have HG := great15_any hin
  obtain ⟨W0, hW0⟩ : ∃ W, Hid (w.alloc (.cells #[.int .i64 0, .int .i64 0, .int .i64 0, .slice a0 len0 cap0, .slice none 0 0, .slice none 0 0] 44) = W) := ⟨_, rfl⟩
  have hb0 : Bw w W0 := by rw [← hW0.out]; exact Below.alloc (Bw.refl _) (Nat.le_refl _) _
  have hz0 : Hid (W0.heap.size = w.heap.size + 1) := by rw [← hW0.out]; exact size_alloc _ _
  rw [hW0.out] at HG
  have HM0 : Hid (MatV w a0 len0 (vals15 len0 R0 L0 C0) (recs15 len0 L0 Z0)) := w0.matV
  have HI0 : Hid (InMat w a0 len0 cap0 R0 L0 C0 Z0) := w0
  have HI1 : Hid (InInts w a1 len1 cap1 f1) := w1
  have l63 : len0 ≤ 140737488351232 := by have := w0.le; have := w0.room; omega
  have l64 : len1 ≤ 140737488351232 := by have := w1.le; have := w1.room; omega
  have HOp : ∀ W g lb gm, DiskAt W g lb gm (Dsk.new 300) → Calls Try.prog 19 #[.pointer (some ⟨g, 0, none⟩), .agg #[.int .i64 0, .int .i64 300]] (W.alloc (.cells #[.int .i64 0, .int .i64 300] 23)) fun e w' => ∃ gj, e = .returned (.tuple #[.pointer (some ⟨gj, 0, none⟩), .int .i64 0]) ∧ Bw (W.alloc (.cells #[.int .i64 0, .int .i64 300] 23)) w' ∧ Hid (∃ v, JrAt w' (W.heap.size + 1) gj g (fun b => W.heap.size + 1 ≤ b) v ⟨0, 300, Jl.no, [], false⟩) := fun W g lb gm hd => by
    have hI0 := Jl.inv_new 300 0 300 (by decide) (by decide) (by decide)
    have h := jopen_any (hd.keep (Below.alloc (Bw.refl _) (Nat.le_refl _) (.cells #[.int .i64 0, .int .i64 300] 23))) 0 300 (by decide) (by decide)
    obtain ⟨e1, e2⟩ := hI0.open_
    have e1' : Jl.openE (Dsk.new 300) 0 300 = 0 := e1
    have e2' : Jl.openJ (Dsk.new 300) 0 300 = some ⟨0, 300, Jl.no, [], false⟩ := e2
    rw [e1', e2'] at h
    refine h.mono ?_
    rintro e w' ⟨h1, p, v, h2, gj, h3, h4⟩
    subst h3
    rw [size_alloc] at h4
    exact ⟨gj, h2, h1, v, h4⟩
  clear w0 w1 hin
  go_enter Try.func7, Try.ntmps7
  go_upto_region 10 with (first
    | rw [hW0.out]
    | (go_at_call 8; refine HG.mono ?_; rintro e w1 ⟨B1, rfl, hsm, hb1⟩; clear HG; cases B1)
    | (go_at_call 9; refine (wakes15_any _).mono ?_; rintro e w6 ⟨rfl, hb6⟩)
    | (go_at_call 10; refine (new_ok 300 (by omega) (by omega) w1).mono ?_; rintro e w2 ⟨g, lb, gm, rfl, hd2, hge2, hb2⟩)
    | (go_at_call 19; refine (HOp w2 g lb gm hd2).mono ?_; rintro e w3 ⟨gj, rfl, hb3, hj3⟩))
  rotate_left
  · go_ret
    exact ⟨rfl, (hb0.trans hb1).trans hb6⟩
  obtain ⟨v3, hj3⟩ := hj3.out
  have hI0 := Jl.inv_new 300 0 300 (by decide) (by decide) (by decide)
  have k02 : Bw w w2 := (hb0.trans hb1).trans hb2
  have s02 := k02.size
  obtain ⟨z, hz⟩ : ∃ z, Hid (w2.heap.size = z) := ⟨_, rfl⟩
  have hBk : Hid (Bk w z g gj 0 [] (.slice none 0 0) [] w3) := by
    have kA : Bw w2 (w2.alloc (.cells #[.int .i64 0, .int .i64 300] 23)) := Below.alloc (Bw.refl _) (Nat.le_refl _) _
    have hza : (w2.alloc (.cells #[.int .i64 0, .int .i64 300] 23)).heap[z]? = some (.cells #[.int .i64 0, .int .i64 300] 23 (0, 0)) := by rw [← hz.out]; exact heap_alloc_new _ _
    have sA : (w2.alloc (.cells #[.int .i64 0, .int .i64 300] 23)).heap.size = w2.heap.size + 1 := size_alloc _ _
    refine ⟨w2.heap.size + 1, lb, gm, Dsk.new 300, ⟨0, 300, Jl.no, [], false⟩, (fun b => w2.heap.size + 1 ≤ b), v3, ⟨(hd2.keep kA).keep hb3, hj3, by omega, fun b hb hi => ?_, hI0, rfl, rfl, Nat.le_refl _, rfl, rfl, (k02.trans kA).trans hb3, fun b hb => ?_, (hb3.block z (Array.getElem?_eq_some_iff.1 hza).1).trans hza, fun hi => ?_, by rw [← hz.out]; omega, ⟨[], ⟨rfl, .inl ⟨rfl, rfl⟩⟩, RowsV.nil _, fun u hu => by simp at hu⟩, fun b e => by simp [Value.ownBlock] at e, fun b e => by simp [Value.ownBlock] at e⟩, rfl⟩
    · have := hd2.low b hi; omega
    · have := hge2 b hb; have := hb1.size; have := hb0.size; omega
    · have := hd2.low z hi; have := hz.out; omega
  have HSm : Hid (Small15 1 (fun _ => ac15 a0 len0 cap0 R0 L0 C0 Z0)) := by first | exact hsm rfl | exact hsm trivial
  have HRest : Hid (RestI w a0 len0 cap0 (vals15 len0 R0 L0 C0) (recs15 len0 L0 Z0)) := by
    have h1 := HSm.out.2 0 (by omega)
    have h2 : len0 + 0 + sumN L0 len0 ≤ 32768 := h1
    have h3 := packed_recs L0 Z0 len0
    refine ⟨HM0.out, HI0.out.le, HI0.out.nil, fun u hu b o m c e h0 => HI0.out.low (.inr ⟨u, hu, o, m, c, e, h0⟩), by omega, fun r hr => ?_⟩
    unfold recs15 at hr
    obtain ⟨j, hj, rfl⟩ := List.mem_map.1 hr
    rw [Jl.data_len]
    have := sumN_le L0 (List.mem_range.1 hj)
    omega
  have hlen0 : len0 ≤ 32768 := by
    have h1 := HSm.out.2 0 (by omega)
    have h2 : len0 + 0 + sumN L0 len0 ≤ 32768 := h1
    omega
  rw [hz.out]
  clear hd2 hj3 hge2 hI0 hsm HM0 HI0 HSm hb3 s02
  have HRm := bk_room hBk.out
  go_upto_region 13 with (go_at_call 23; refine HRm.2.mono ?_; rintro e w4 ⟨rfl, hb4⟩)
  have hroom : Hid (Jl.room 300 = 9536) := rfl
  go_wp2
  go_loopw [9, 10, 11, 12] (fun s9 s10 s11 s12 wr => ∃ (i : Nat) (M : List (List Nat)) (A : Option Addr) (n c : Nat) (us : List Value) (l : List (List Nat)), s12 = .int .i64 (i : Int) ∧ s11 = .slice A n c ∧ s9 = .int .i64 (((Jl.room 300 - (Jl.packed M).length : Nat)) : Int) ∧ i ≤ 41 ∧ n ≤ 32768 ∧ Hid (RestI w A n c us l) ∧ Hid (Bk w z g gj i M s10 M wr)) (fun _ _ _ s12 _ => 41 - (intOf s12).toNat)
  case atStart => exact ⟨0, [], a0, len0, cap0, _, _, rfl, rfl, rfl, by omega, hlen0, HRest.out, hBk.out.keep hb4⟩
  case round =>
    obtain ⟨i, M, A, n, c, us, l, rfl, rfl, rfl, hi, hn, hR, hB⟩ := hrel
    clear HRm hBk HRest hb4
    have i0 : (0 : Int) ≤ (i : Int) := Int.natCast_nonneg _
    obtain ⟨hpM, HRm⟩ := bk_room hB.out
    obtain ⟨rm, hrm⟩ : ∃ rm, Hid (Jl.room 300 - (Jl.packed M).length = rm) := ⟨_, rfl⟩
    rw [hrm.out] at HRm ⊢
    have hrm2 : rm ≤ 9536 := by have := hrm.out; have := hroom.out; omega
    by_cases hlt : 0 < n ∧ i ≤ 40
    · have n1 : (0 : Int) < (n : Int) := by omega
      have i1 : (i : Int) ≤ 40 := by omega
      have n2 : (n : Int) ≤ 32768 := by omega
      clear HRm
      go_upto_region 17 with fail
      go_cut [64] from 57 to 122 (fun v wx => v = .bool (decide (i < len1 ∧ i < 40)) ∧ Hid (Bk w z g gj i M u10 M wx))
      case first =>
        by_cases c1 : i < len1
        · have d1 : decide ((i : Int) < (len1 : Int)) = true := by rw [decide_eq_true_eq]; omega
          have d1' : (i : Int) < (len1 : Int) := by omega
          by_cases c2 : i < 40
          · have d2 : decide ((i : Int) < 40) = true := by rw [decide_eq_true_eq]; omega
            go_wp2
            go_meet
            case rel => exact ⟨by rw [decide_eq_true (show i < len1 ∧ i < 40 from ⟨c1, c2⟩)], hB⟩
          · have d2 : decide ((i : Int) < 40) = false := by rw [decide_eq_false_iff_not]; omega
            go_wp2
            go_meet
            case rel => exact ⟨by rw [decide_eq_false (show ¬ (i < len1 ∧ i < 40) from fun h => c2 h.2)], hB⟩
        · have d1 : decide ((i : Int) < (len1 : Int)) = false := by rw [decide_eq_false_iff_not]; omega
          have d1' : ¬ i < len1 := c1
          go_wp2
          go_meet
          case rel => exact ⟨by rw [decide_eq_false (show ¬ (i < len1 ∧ i < 40) from fun h => c1 h.1)], hB⟩
      case rest =>
        obtain ⟨rfl, hB1⟩ := hcut
        clear hB
        go_upto_if 64 with fail
        go_cut [13] from 57 to 122 (fun v wx => ∃ k : Nat, v = .int .i64 (k : Int) ∧ k ≤ n ∧ Hid (Bk w z g gj i M u10 M wx))
        case first =>
          by_cases hc : i < len1 ∧ i < 40
          · rw [decide_eq_true hc]
            have d1' : (i : Int) < (len1 : Int) := by omega
            have hin := HI1.out.row
            obtain ⟨ib, io, rfl, hci⟩ : ∃ b off, a1 = some ⟨b, off, none⟩ ∧ ∀ j, j < len1 → w.cell? ⟨b, off + j, none⟩ = some (.int .i64 (f1 j)) := by
              rcases hin.1 with h0 | h0
              · omega
              · exact h0
            have ci := hci i hc.1
            have ci' := (hB1.out.bw.cell (p := ⟨ib, io + i, none⟩) (block_lt_of_cell ci)).trans ci
            obtain ⟨r1, k, e1, e2, e3, e4, e5⟩ := modn15 (f1 i) n
            have p1 : (0 : Int) ≤ r1 + (n : Int) := by omega
            have p2 : r1 + (n : Int) ≤ 70000 := by omega
            have p3 : ¬ (n : Int) + 1 = 0 := by omega
            have p4 : (((n : Int) + 1) == 0) = false := by rw [beq_eq_false_iff_ne]; omega
            clear hci ci hin e2 e3
            go_wp2
            go_meet
            case rel => exact ⟨k, rfl, e5, hB1⟩
          · rw [decide_eq_false hc]
            go_wp2
            go_meet
            case rel => exact ⟨n, rfl, Nat.le_refl _, hB1⟩
        case rest =>
          obtain ⟨k, rfl, hk, hB2⟩ := hcut
          clear hB1
          have hRk := hR.out.take hk
          have hcn := hR.out.le
          have k0 : (0 : Int) ≤ (k : Int) := Int.natCast_nonneg _
          have k1 : (k : Int) ≤ (n : Int) := by omega
          have k2 : (k : Int) ≤ (c : Int) := by omega
          have k3 : k ≤ c := by omega
          obtain ⟨A', hA'⟩ : ∃ A', (if c = k then A else A.map (fun a => a.add k)) = A' := ⟨_, rfl⟩
          have hRd : Hid (RestI w A' (n - k) (c - k) (us.drop k) (l.drop k)) := hR.out.drop hk hA'
          have hll : (l.take k).length = k := hRk.mat.lenL
          have HAdd := bk_add hB2.out (by omega) c (hRk.mat.keep hB2.out.bw) (by omega) (by have := hRk.few; omega) hRk.arg hRk.l65
          obtain ⟨sz, hsz⟩ : ∃ sz, Hid ((Jl.packed (l.take k)).length = sz) := ⟨_, rfl⟩
          rw [hrm.out, hsz.out] at HAdd
          by_cases hle : sz ≤ rm
          · have HA1 : Calls Try.prog 21 #[.pointer (some ⟨gj, 0, none⟩), .slice A k c] wc fun e w' => e = .returned (.int .i64 0) ∧ Hid (Bk w z g gj (i + 1) (M ++ l.take k) u10 M w') := HAdd.mono (fun e w' h => h.1.1 hle)
            clear HAdd
            go_upto_region 21 with (go_at_call 21; refine HA1.mono ?_; rintro e w5 ⟨rfl, hB5⟩)
            clear HA1
            go_wp2
            go_loopw [15, 16] (fun s15 s16 wr => ∃ (q s : Nat), s15 = .int .i64 (s : Int) ∧ s16 = .int .i64 (q : Int) ∧ q ≤ k ∧ Hid (s = (Jl.packed ((l.take k).take q)).length) ∧ Hid (Bk w z g gj (i + 1) (M ++ l.take k) u10 M wr)) (fun _ s16 _ => k - (intOf s16).toNat)
            case atStart => exact ⟨0, 0, rfl, rfl, Nat.zero_le _, rfl, hB5.out⟩
            case round =>
              obtain ⟨q, s, rfl, rfl, hq, hs, hB6⟩ := hrel
              have q0 : (0 : Int) ≤ (q : Int) := Int.natCast_nonneg _
              by_cases hqk : q < k
              · have q1 : (q : Int) < (k : Int) := by omega
                have q2 : (q : Int) < (n : Int) := by omega
                obtain ⟨rr, bq, oq, Aq, cq, hrq, hAq, hcq, hq3, -, -, -⟩ := (hRk.mat.keep hB6.out.bw).row hqk
                subst hAq
                have hpt := packed_take hrq
                have hpl := packed_take_le (l.take k) (q + 1)
                have hfw := hRk.few
                have hsx := hs.out
                have hsn : Hid (s + 2 + rr.length = (Jl.packed ((l.take k).take (q + 1))).length) := by
                  refine (?_ : _ = _)
                  rw [hpt, List.length_append, List.length_cons, List.length_cons]; omega
                have hsb := hsn.out
                have b1 : (0 : Int) ≤ (s : Int) + 2 := by omega
                have b2 : (s : Int) + 2 ≤ 300000 := by omega
                have b3 : (0 : Int) ≤ (s : Int) + 2 + (rr.length : Int) := by omega
                have b4 : (s : Int) + 2 + (rr.length : Int) ≤ 300000 := by omega
                obtain ⟨rl, hrl⟩ : ∃ rl, Hid (rr.length = rl) := ⟨_, rfl⟩
                rw [hrl.out] at hcq hsn b3 b4 hq3
                clear hpt hpl hfw hsx hsb hs hrq
                go_wp2
                go_roundw
                case rel => exact ⟨q + 1, s + 2 + rl, by go_num, by go_num, by omega, hsn, hB6⟩
                case measure => simp [intOf]; omega
              · obtain rfl : q = k := by omega
                obtain rfl : s = sz := by rw [hs.out, ← hsz.out, List.take_of_length_le (by rw [List.length_take]; omega)]
                have d3 : decide ((s : Int) ≤ (rm : Int)) = true := by rw [decide_eq_true_eq]; omega
                have d4 : decide (s ≤ rm) = true := by rw [decide_eq_true_eq]; omega
                have d5 : s ≤ rm := by omega
                have r1 : (0 : Int) ≤ (rm : Int) - (s : Int) := by omega
                have r2 : (rm : Int) - (s : Int) ≤ 10000 := by omega
                have hrn : Hid (((Jl.room 300 - (Jl.packed (M ++ l.take q)).length : Nat) : Int) = (rm : Int) - (s : Int)) := by
                  refine (?_ : _ = _)
                  have h1 := hrm.out
                  have h2 := hsz.out
                  rw [Jl.packed_append, List.length_append, h2]
                  omega
                obtain ⟨B, us0, hAll, hBs, hput⟩ := hB6.out.all
                have hMl : M.length ≤ 9536 := by have := Jl.packed_len M; have := hroom.out; omega
                have hul : (us.take q).length = q := hRk.mat.len
                have hMq := hRk.mat.keep hB6.out.bw
                go_wp2_with (at_builtin; refine wpList_append_mat_at (by rfl) _ _ (by rfl) B u10 M.length us0 (by rfl) hAll.own A q c (us.take q) (l.take q) (by rfl) hMq hRk.nil (by omega) hBs ?_; intro v' w6 ho hg hb; have hB7 : Hid (Bk w z g gj (i + 1) (M ++ l.take q) v' (M ++ l.take q) w6) := hput v' w6 (l.take q) (us.take q) hMq.rows hRk.lo (by rw [hul]; exact ho) hg hb; clear ho hg hb)
                go_roundw
                case rel =>
                  first
                    | exact ⟨i + 1, M ++ l.take q, A', n - q, c - q, us.drop q, l.drop q, by go_num, rfl, by rw [hrn.out], by omega, by omega, hRd.out, hB7⟩
                    | ((repeat apply Exists.intro); refine ⟨?_, rfl⟩; exact ⟨i + 1, M ++ l.take q, A', n - q, c - q, us.drop q, l.drop q, by go_num, rfl, by rw [hrn.out], by omega, by omega, hRd.out, hB7⟩)
                case measure => simp [intOf]; omega
          · have HA1 : Calls Try.prog 21 #[.pointer (some ⟨gj, 0, none⟩), .slice A k c] wc fun e w' => e = .returned (.int .i64 3) ∧ Hid (Bk w z g gj (i + 1) M u10 M w') := HAdd.mono (fun e w' h => h.1.2 (by omega))
            clear HAdd
            go_upto_region 21 with (go_at_call 21; refine HA1.mono ?_; rintro e w5 ⟨rfl, hB5⟩)
            clear HA1
            go_wp2
            go_loopw [15, 16] (fun s15 s16 wr => ∃ (q s : Nat), s15 = .int .i64 (s : Int) ∧ s16 = .int .i64 (q : Int) ∧ q ≤ k ∧ Hid (s = (Jl.packed ((l.take k).take q)).length) ∧ Hid (Bk w z g gj (i + 1) M u10 M wr)) (fun _ s16 _ => k - (intOf s16).toNat)
            case atStart => exact ⟨0, 0, rfl, rfl, Nat.zero_le _, rfl, hB5.out⟩
            case round =>
              obtain ⟨q, s, rfl, rfl, hq, hs, hB6⟩ := hrel
              have q0 : (0 : Int) ≤ (q : Int) := Int.natCast_nonneg _
              by_cases hqk : q < k
              · have q1 : (q : Int) < (k : Int) := by omega
                have q2 : (q : Int) < (n : Int) := by omega
                obtain ⟨rr, bq, oq, Aq, cq, hrq, hAq, hcq, hq3, -, -, -⟩ := (hRk.mat.keep hB6.out.bw).row hqk
                subst hAq
                have hpt := packed_take hrq
                have hpl := packed_take_le (l.take k) (q + 1)
                have hfw := hRk.few
                have hsx := hs.out
                have hsn : Hid (s + 2 + rr.length = (Jl.packed ((l.take k).take (q + 1))).length) := by
                  refine (?_ : _ = _)
                  rw [hpt, List.length_append, List.length_cons, List.length_cons]; omega
                have hsb := hsn.out
                have b1 : (0 : Int) ≤ (s : Int) + 2 := by omega
                have b2 : (s : Int) + 2 ≤ 300000 := by omega
                have b3 : (0 : Int) ≤ (s : Int) + 2 + (rr.length : Int) := by omega
                have b4 : (s : Int) + 2 + (rr.length : Int) ≤ 300000 := by omega
                obtain ⟨rl, hrl⟩ : ∃ rl, Hid (rr.length = rl) := ⟨_, rfl⟩
                rw [hrl.out] at hcq hsn b3 b4 hq3
                clear hpt hpl hfw hsx hsb hs hrq
                go_wp2
                go_roundw
                case rel => exact ⟨q + 1, s + 2 + rl, by go_num, by go_num, by omega, hsn, hB6⟩
                case measure => simp [intOf]; omega
              · obtain rfl : q = k := by omega
                obtain rfl : s = sz := by rw [hs.out, ← hsz.out, List.take_of_length_le (by rw [List.length_take]; omega)]
                have d3 : decide ((s : Int) ≤ (rm : Int)) = false := by rw [decide_eq_false_iff_not]; omega
                have d4 : decide (s ≤ rm) = false := by rw [decide_eq_false_iff_not]; omega
                have d5 : ¬ s ≤ rm := by omega
                go_wp2
                go_roundw
                case rel =>
                  first
                    | exact ⟨i + 1, M, A', n - q, c - q, us.drop q, l.drop q, by go_num, rfl, by rw [hrm.out], by omega, by omega, hRd.out, hB6⟩
                    | ((repeat apply Exists.intro); refine ⟨?_, rfl⟩; exact ⟨i + 1, M, A', n - q, c - q, us.drop q, l.drop q, by go_num, rfl, by rw [hrm.out], by omega, by omega, hRd.out, hB6⟩)
                case measure => simp [intOf]; omega
    · by_cases hn0 : n = 0
      · subst hn0
        obtain ⟨B, us0, hAll, hBs, -⟩ := hB.out.all
        obtain ⟨Aa, ca, ea, hca, hna, hMa, -⟩ := mat_of_own hAll.own hAll.rows
        have hMl : M.length ≤ 9536 := by have := Jl.packed_len M; have := hroom.out; omega
        obtain ⟨nm, hnm⟩ : ∃ nm, Hid (M.length = nm) := ⟨_, rfl⟩
        rw [hnm.out] at ea hMa hMl
        subst ea
        have HMa : Hid (MatV wr Aa nm us0 M) := hMa
        have HBk : Hid (Bk w z g gj i M (.slice Aa nm ca) M wr) := hB
        have HZ : Hid (∀ u, Bw wr u → u.cell? ⟨z, 0, none⟩ = some (.int .i64 0) ∧ u.cell? ⟨z, 1, none⟩ = some (.int .i64 300)) := fun u ku => by
          obtain ⟨B', lb', gm', S', J', R', v', h', -⟩ := HBk.out.keep ku
          exact ⟨cell_of_row u z 0 _ _ _ h'.zc, cell_of_row u z 1 _ _ _ h'.zc⟩
        obtain ⟨y0, y1⟩ := HZ.out wr (Bw.refl _)
        have HOpn := bk_open HBk.out
        have HRec : ∀ u, Bw wr u → Calls Try.prog 20 #[.pointer (some ⟨gj, 0, none⟩)] u fun e w' => CopyV u nm M e w' := fun u ku => by
          have := bk_records (HBk.out.keep ku)
          rw [hnm.out] at this
          exact this
        have HRoo : ∀ u, Bw wr u → Calls Try.prog 23 #[.pointer (some ⟨gj, 0, none⟩)] u fun e w' => e = .returned (.int .i64 (rm : Int)) ∧ Bw u w' := fun u ku => by
          have := (bk_room (HBk.out.keep ku)).2
          rw [hrm.out] at this
          exact this
        have t1 : Hid (i = i) := rfl
        clear hMa hB hAll hR
        go_wp2_with (first
          | (go_at_call 19; refine HOpn.mono ?_; rintro e w5 ⟨gk, rfl, hjk, hb5⟩; obtain ⟨B5, R5, v5, J5, hj5, hL5, hrc5, hln5⟩ := hjk; have t2 : Hid (i = i) := rfl)
          | (clear t2; go_at_call 20; refine (HRec w5 hb5).mono ?_; rintro e w6 ⟨g6, us6, rfl, ho6, hr6, hi6, hb6⟩; have hM6 := copy_mat ho6 hr6; have t3 : Hid (i = i) := rfl)
          | (clear t3; go_at_call 27; refine (rsame15_any _ _ hM6 (HMa.out.keep (hb5.trans hb6)) (by omega) (by omega)).mono ?_; rintro e w7 ⟨rfl, hb7⟩; rw [decide_eq_true rfl]; have t4 : Hid (i = i) := rfl)
          | (clear t4; go_at_call 20; have hj7 := (hj5.keep hb6).keep hb7; have hrc := jrecords_any hj7; rw [hL5, hnm.out] at hrc; refine hrc.mono ?_; rintro e w8 ⟨g8, us8, rfl, ho8, hr8, hi8, hb8⟩; have hM8 := copy_mat ho8 hr8; have t5 : Hid (i = i) := rfl)
          | (clear t5; go_at_call 27; refine (rsame15_any _ _ hM8 (HMa.out.keep (((hb5.trans hb6).trans hb7).trans hb8)) (by omega) (by omega)).mono ?_; rintro e w9 ⟨rfl, hb9⟩; rw [decide_eq_true rfl]; have t6 : Hid (i = i) := rfl)
          | (clear t6; go_at_call 23; refine (HRoo w9 ((((hb5.trans hb6).trans hb7).trans hb8).trans hb9)).mono ?_; rintro e w10 ⟨rfl, hb10⟩; have t7 : Hid (i = i) := rfl)
          | (clear t7; go_at_call 23; have hj10 := (((hj7.keep hb8).keep hb9).keep hb10); have hro := jroom_any hj10; rw [hrc5, hln5, hrm.out] at hro; refine hro.mono ?_; rintro e w11 ⟨rfl, hb11⟩; have t8 : Hid (i = i) := rfl)
          | (clear t8; go_at_call 9; refine (wakes15_any _).mono ?_; rintro e w12 ⟨rfl, hb12⟩))
        go_ret
        exact ⟨rfl, (((((((((HBk.out.bw).trans hb5).trans hb6).trans hb7).trans hb8).trans hb9).trans hb10).trans hb11).trans hb12)⟩
      · have n1 : (0 : Int) < (n : Int) := by omega
        have i1 : decide ((i : Int) ≤ 40) = false := by rw [decide_eq_false_iff_not]; omega
        have i2 : ¬ (i : Int) ≤ 40 := by omega
        obtain ⟨B, us0, hAll, hBs, -⟩ := hB.out.all
        obtain ⟨Aa, ca, ea, hca, hna, hMa, -⟩ := mat_of_own hAll.own hAll.rows
        have hMl : M.length ≤ 9536 := by have := Jl.packed_len M; have := hroom.out; omega
        obtain ⟨nm, hnm⟩ : ∃ nm, Hid (M.length = nm) := ⟨_, rfl⟩
        rw [hnm.out] at ea hMa hMl
        subst ea
        have HMa : Hid (MatV wr Aa nm us0 M) := hMa
        have HBk : Hid (Bk w z g gj i M (.slice Aa nm ca) M wr) := hB
        have HZ : Hid (∀ u, Bw wr u → u.cell? ⟨z, 0, none⟩ = some (.int .i64 0) ∧ u.cell? ⟨z, 1, none⟩ = some (.int .i64 300)) := fun u ku => by
          obtain ⟨B', lb', gm', S', J', R', v', h', -⟩ := HBk.out.keep ku
          exact ⟨cell_of_row u z 0 _ _ _ h'.zc, cell_of_row u z 1 _ _ _ h'.zc⟩
        obtain ⟨y0, y1⟩ := HZ.out wr (Bw.refl _)
        have HOpn := bk_open HBk.out
        have HRec : ∀ u, Bw wr u → Calls Try.prog 20 #[.pointer (some ⟨gj, 0, none⟩)] u fun e w' => CopyV u nm M e w' := fun u ku => by
          have := bk_records (HBk.out.keep ku)
          rw [hnm.out] at this
          exact this
        have HRoo : ∀ u, Bw wr u → Calls Try.prog 23 #[.pointer (some ⟨gj, 0, none⟩)] u fun e w' => e = .returned (.int .i64 (rm : Int)) ∧ Bw u w' := fun u ku => by
          have := (bk_room (HBk.out.keep ku)).2
          rw [hrm.out] at this
          exact this
        have t1 : Hid (i = i) := rfl
        clear hMa hB hAll hR
        go_wp2_with (first
          | (go_at_call 19; refine HOpn.mono ?_; rintro e w5 ⟨gk, rfl, hjk, hb5⟩; obtain ⟨B5, R5, v5, J5, hj5, hL5, hrc5, hln5⟩ := hjk; have t2 : Hid (i = i) := rfl)
          | (clear t2; go_at_call 20; refine (HRec w5 hb5).mono ?_; rintro e w6 ⟨g6, us6, rfl, ho6, hr6, hi6, hb6⟩; have hM6 := copy_mat ho6 hr6; have t3 : Hid (i = i) := rfl)
          | (clear t3; go_at_call 27; refine (rsame15_any _ _ hM6 (HMa.out.keep (hb5.trans hb6)) (by omega) (by omega)).mono ?_; rintro e w7 ⟨rfl, hb7⟩; rw [decide_eq_true rfl]; have t4 : Hid (i = i) := rfl)
          | (clear t4; go_at_call 20; have hj7 := (hj5.keep hb6).keep hb7; have hrc := jrecords_any hj7; rw [hL5, hnm.out] at hrc; refine hrc.mono ?_; rintro e w8 ⟨g8, us8, rfl, ho8, hr8, hi8, hb8⟩; have hM8 := copy_mat ho8 hr8; have t5 : Hid (i = i) := rfl)
          | (clear t5; go_at_call 27; refine (rsame15_any _ _ hM8 (HMa.out.keep (((hb5.trans hb6).trans hb7).trans hb8)) (by omega) (by omega)).mono ?_; rintro e w9 ⟨rfl, hb9⟩; rw [decide_eq_true rfl]; have t6 : Hid (i = i) := rfl)
          | (clear t6; go_at_call 23; refine (HRoo w9 ((((hb5.trans hb6).trans hb7).trans hb8).trans hb9)).mono ?_; rintro e w10 ⟨rfl, hb10⟩; have t7 : Hid (i = i) := rfl)
          | (clear t7; go_at_call 23; have hj10 := (((hj7.keep hb8).keep hb9).keep hb10); have hro := jroom_any hj10; rw [hrc5, hln5, hrm.out] at hro; refine hro.mono ?_; rintro e w11 ⟨rfl, hb11⟩; have t8 : Hid (i = i) := rfl)
          | (clear t8; go_at_call 9; refine (wakes15_any _).mono ?_; rintro e w12 ⟨rfl, hb12⟩))
        go_ret
        exact ⟨rfl, (((((((((HBk.out.bw).trans hb5).trans hb6).trans hb7).trans hb8).trans hb9).trans hb10).trans hb11).trans hb12)⟩

set_option maxRecDepth 100000 in
theorem lifted (os : Os) (started : os.Started) (H : Type) (enc : TypeId × Value → H) :
    ReturnsInHanded {} Try.checked os 7 .any (Rows.journalBackSpec.pre6 enc Try.prog Try.f7 Rows.journalBackRow.domain false) (Rows.journalBackSpec.post enc Try.prog Try.f7 false true false false) := by
  refine returnsInHanded_of_change_sized (C := Try.checked) own started (by kernel_rfl) Try.func7
    (ChangeSpec.witness6 (enc := enc) (C := Try.checked) false ⟨#[], #[.slice none 0 0, .slice none 0 0], []⟩ 8 (by kernel_rfl) (by kernel_rfl) (by kernel_rfl) (by kernel_rfl)) ?_
  intro W base args ds gs before hval0 hW hcnd hsz0 _
  have hval : ∀ (j : Nat) t v, Try.f7.params[j]? = some t → args[j]? = some v → Value.okWide Try.prog W .any base t v := hval0
  have hW' := hW
  obtain ⟨p, q, hA0, hV, rfl, hfz, hnd⟩ := hW
  have hA : DataW.TrodAll enc Try.prog W 0 (fun _ => true) true Try.f7.params.toList args.toList ds p := hA0
  have hsz : (DataW.weightsEach Try.prog (Try.f7.params.toList ++ Rows.journalBackSpec.plain.varTypes Try.prog) (ds ++ gs)).all (· ≤ reachBytes) = true := hsz0
  rw [Try.params7] at hA hval hsz
  obtain ⟨v0, vs0, d0, ds0, p0, q0, hargs, rfl, rfl, h0, r0⟩ := trodAll_cons hA
  obtain ⟨v1, vs1, d1, ds1, p1, q1, rfl, rfl, rfl, h1, r1⟩ := trodAll_cons r0
  obtain ⟨rfl, rfl, rfl⟩ := trodAll_nil r1
  obtain rfl : args = #[v0, v1] := by cases args; simp_all
  obtain ⟨rfl, rfl⟩ := trodVars_none hV
  obtain ⟨a0, len0, cap0, rfl⟩ := okWide_slice Try.underlying42 (hval 0 42 v0 rfl rfl)
  have k0 := h0
  have lt0 : ∀ x ∈ p0, x.block < W.heap.size := by obtain ⟨m, hm⟩ := k0; exact DataW.trod_lt m _ _ _ hm
  obtain ⟨R0, L0, C0, Z0, w0⟩ := open_rows h0 (fun x hx => by simpa using List.all_eq_true.1 hsz x (DataW.weights_mem_each (j := 0) (t := 42) rfl rfl x hx))
  obtain ⟨a1, len1, cap1, rfl⟩ := okWide_slice Try.underlying36 (hval 1 36 v1 rfl rfl)
  have k1 := h1
  have lt1 : ∀ x ∈ p1, x.block < W.heap.size := by obtain ⟨m, hm⟩ := k1; exact DataW.trod_lt m _ _ _ hm
  obtain ⟨f1, w1⟩ := open_introw h1 (fun x hx => by simpa using List.all_eq_true.1 hsz x (DataW.weights_mem_each (j := 1) (t := 36) rfl rfl x hx))
  clear hA0 hval0
  refine (walk a0 len0 cap0 R0 L0 C0 Z0 a1 len1 cap1 f1 W w0 w1).mono fun e W' ⟨he, bel⟩ => ?_
  subst he
  exact ⟨_, rfl, _, _, _, [], _, [], hW', trodAll_mk1 (shut_bool Try.underlying4 _), (trodAll_cons_mk (Below.trod laidOut (by kernel_rfl) (of_decide_eq_true (by kernel_rfl)) k0 bel lt0) (trodAll_cons_mk (Below.trod laidOut (by kernel_rfl) (of_decide_eq_true (by kernel_rfl)) k1 bel lt1) trodAll_mk0)), rfl, bel.frame _, fun h => by cases h⟩

theorem over : Rows.journalBackRow.holds Try.pinned (OpenSpec.ofChange Rows.journalBackSpec) :=
  OpenClaim.holds_of_wide 7 Try.f7 rfl rfl rfl rfl rfl rfl rfl ⟨rfl, rfl, rfl, rfl, rfl⟩ rfl rfl rfl rfl rfl (by kernel_rfl) Try.func7 (by kernel_rfl)
    (of_decide_eq_true (by kernel_rfl)) (by unfold Func.isWrapper; first | (rw [if_pos (by decide +kernel)]; kernel_rfl) | (rw [if_neg (by decide +kernel)]; exact ⟨rfl, rfl⟩))
    (fun os started H enc _ => lifted os started H enc)

theorem proved : Rows.JournalBackSaid := over
#print axioms proved
end Go.Proofs.Ytppknadflmjefaa.journalBack
