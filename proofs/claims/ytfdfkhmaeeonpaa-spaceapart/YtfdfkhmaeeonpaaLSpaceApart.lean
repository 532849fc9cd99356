/- Proved: for every size and list of acts the statement SpaceApart answers true (the document's P16.5: no cell is taken twice, and with the free runs those that are taken make up all cells), with no condition but the reach. -/
import Derived.Test.YtfdfkhmaeeonpaaRt
import Derived.Deep.CutBlock
import Derived.Test.YtfdfkhmaeeonpaaFd
import Derived.ShutString
import Derived.ChangeOld
namespace Go.Proofs.Ytfdfkhmaeeonpaa.spaceApart
open Go.ChangeShapes Go.WideShapes Go.ChangeAt Go.RowKit
set_option linter.unusedVariables false

theorem mod1024 (x : Int) : ∃ (r : Int) (N : Nat), Int.tmod x 1024 = r ∧ -1024 < r ∧ r < 1024 ∧ Int.tmod (r + 1024) 1024 = (N : Int) ∧ N < 1024 := by
  have h1 : -1024 < Int.tmod x 1024 ∧ Int.tmod x 1024 < 1024 := by
    rcases Int.le_total 0 x with h | h
    · rw [Int.tmod_eq_emod_of_nonneg h]; omega
    · have e : Int.tmod x 1024 = -(Int.tmod (-x) 1024) := by rw [Int.neg_tmod, Int.neg_neg]
      rw [e, Int.tmod_eq_emod_of_nonneg (by omega)]; omega
  refine ⟨_, ((Int.tmod x 1024 + 1024) % 1024).toNat, rfl, h1.1, h1.2, ?_, by omega⟩
  rw [Int.tmod_eq_emod_of_nonneg (by omega)]
  omega
theorem modlen (x : Int) (m : Nat) (hm : 0 < m) : ∃ (r : Int) (k : Nat), Int.tmod x (m : Int) = r ∧ -(m : Int) < r ∧ r < (m : Int) ∧ Int.tmod (r + (m : Int)) (m : Int) = (k : Int) ∧ k < m := by
  have hm' : (0 : Int) < (m : Int) := by omega
  have h1 : -(m : Int) < Int.tmod x (m : Int) ∧ Int.tmod x (m : Int) < (m : Int) := by
    rcases Int.le_total 0 x with h | h
    · rw [Int.tmod_eq_emod_of_nonneg h]
      have := Int.emod_nonneg x (show (m : Int) ≠ 0 by omega)
      have := Int.emod_lt_of_pos x hm'
      omega
    · have e : Int.tmod x (m : Int) = -(Int.tmod (-x) (m : Int)) := by rw [Int.neg_tmod, Int.neg_neg]
      rw [e, Int.tmod_eq_emod_of_nonneg (by omega)]
      have := Int.emod_nonneg (-x) (show (m : Int) ≠ 0 by omega)
      have := Int.emod_lt_of_pos (-x) hm'
      omega
  have h2 := Int.emod_nonneg (Int.tmod x (m : Int) + (m : Int)) (show (m : Int) ≠ 0 by omega)
  have h3 := Int.emod_lt_of_pos (Int.tmod x (m : Int) + (m : Int)) hm'
  refine ⟨_, ((Int.tmod x (m : Int) + (m : Int)) % (m : Int)).toNat, rfl, h1.1, h1.2, ?_, by omega⟩
  rw [Int.tmod_eq_emod_of_nonneg (by omega)]
  omega
theorem wrap_small (m : Nat) (h : m ≤ 1000) : wrap64 (m : Int) = (m : Int) := by unfold wrap64; omega
def CutA (w0 : World) (g N i : Nat) (v : Value) (wx : World) : Prop := ∃ H L, Apt w0 wx g N v H L ∧ H.length ≤ i + 1
theorem rbA_new1 (w : World) (r : Sp.Rn) : RB (w.alloc (.cells #[.int .i64 (r.1 : Int), .int .i64 (r.2 : Int)] 32)) 32 w.heap.size 1 [r] :=
  ⟨_, (Go.MapKept.heap_alloc w _).1, rfl, Nat.le_refl _, by unfold maxLen; omega, rfl⟩
theorem hdE (w : World) (B : Nat) (hB : B ≤ w.heap.size) : Hd16 B (w.alloc (.cells #[] 32)) (.slice (some ⟨w.heap.size, 0, none⟩) 0 0) [] :=
  ⟨rfl, Or.inr ⟨w.heap.size, 0, #[], rfl, hB, heap_alloc_new _ _, Nat.le_refl _, Nat.zero_le _, rfl, rfl⟩⟩
theorem all_apart {H L : List Sp.Rn} {n : Nat} (h1 : ∀ j, j < n → Sp.cov (H ++ L) j = 1) (h2 : ∀ r ∈ H ++ L, 1 ≤ r.2 ∧ r.1 + r.2 ≤ n) {p q : Nat} {r s : Sp.Rn} (hpq : q < p) (hp : (H ++ L)[p]? = some r) (hq : (H ++ L)[q]? = some s) : r.1 + r.2 ≤ s.1 ∨ s.1 + s.2 ≤ r.1 := by
  have a1 := h2 r (List.mem_of_getElem? hp)
  have a2 := h2 s (List.mem_of_getElem? hq)
  rcases Nat.lt_or_ge s.1 (r.1 + r.2) with c1 | c1
  · rcases Nat.lt_or_ge r.1 (s.1 + s.2) with c2 | c2
    · have h3 := Sp.cov_two (j := max r.1 s.1) hpq hq hp ⟨by omega, by omega⟩ ⟨by omega, by omega⟩
      have h4 := h1 (max r.1 s.1) (by omega)
      omega
    · exact .inr c2
  · exact .inl c1
set_option maxRecDepth 100000 in
set_option maxHeartbeats 16000000 in
theorem walk (a0 : Int) (a1 : Option Addr) (len1 cap1 : Nat) (X1 : Nat → Ac16) (w : World) (w0 : (Lit.int .i64 a0).wf = true) (w1 : InActs16 w a1 len1 cap1 X1) :
    Calls Try.prog 5 #[.int .i64 a0, .slice a1 len1 cap1] w fun e w' => e = .returned (.bool true) ∧ Below w.heap.size w w' := by
  obtain ⟨r, N, hr, hr1, hr2, hN, hN2⟩ := mod1024 a0
  have hr3 : (0 : Int) ≤ r + 1024 := by omega
  have hr4 : r + 1024 ≤ 2048 := by omega
  clear hr1 hr2
  have l63 : len1 ≤ 140737488351232 := Nat.le_trans w1.le w1.room
  have HA : Hid (InActs16 w a1 len1 cap1 X1) := w1
  by_cases hgt : 100 < len1
  · have d1 : decide (100 < (len1 : Int)) = true := by rw [decide_eq_true_eq]; omega
    clear w1 hN2
    go_enter Try.func5, Try.ntmps5
    go_wp2_with (go_at_call 7; refine (wakes16_any _).mono ?_; rintro e w1 ⟨rfl, hb1⟩)
    go_ret
    exact ⟨rfl, hb1⟩
  · have d1 : decide (100 < (len1 : Int)) = false := by rw [decide_eq_false_iff_not]; omega
    have H0 : Hid (Calls Try.prog 8 #[.int .i64 (N : Int)] w fun e w' => ∃ g L, e = .returned (.tuple #[.pointer (some ⟨g, 0, none⟩), .int .i64 0]) ∧ Hid (Apt w w' g N (.slice none 0 0) [] L)) := by
      refine (snew_any (N : Int) w).mono ?_
      rintro e w' (⟨h, _⟩ | ⟨h, _⟩ | ⟨N', g, b, c, h1, h2, h3, h4, h5, h6, h7⟩)
      · omega
      · omega
      · obtain rfl : N = N' := by omega
        exact ⟨g, _, h3, ap_new h4 h5 h6 h7⟩
    have hlen : len1 ≤ 100 := by omega
    clear w1 hgt
    go_enter Try.func5, Try.ntmps5
    go_wp2_with (go_at_call 8; refine H0.out.mono ?_; rintro e w1 ⟨g, L0, rfl, h1⟩)
    clear d1 hr hN hr3 hr4 w0 l63
    go_loopw [7, 8] (fun s7 s8 wr => ∃ (i : Nat) (H L : List Sp.Rn), s8 = .int .i64 (i : Int) ∧ i ≤ len1 ∧ H.length ≤ i ∧ Hid (Apt w wr g N s7 H L)) (fun _ s8 _ => len1 - (intOf s8).toNat)
    case atStart => exact ⟨0, [], L0, rfl, Nat.zero_le _, Nat.zero_le _, h1.out⟩
    case round =>
      obtain ⟨i, H, L, rfl, hi, hHl, hap⟩ := hrel
      have i0 : (0 : Int) ≤ (i : Int) := Int.natCast_nonneg _
      by_cases hlt : i < len1
      · have i1 : (i : Int) < (len1 : Int) := by omega
        have hq := HA.out.keep hap.out.sp.bw
        obtain ⟨ab, ao, rfl, hc⟩ : ∃ b off, a1 = some ⟨b, off, none⟩ ∧ ∀ k v, (X1 i).vals[k]? = some v → wr.cell? ⟨b, off + i * 3 + k, none⟩ = some v := by
          rcases hq.at_ with h0 | ⟨b, off, e, h⟩
          · omega
          · exact ⟨b, off, e, h i hlt⟩
        have hact := HA.out.acts i
        obtain ⟨⟨d, x, k⟩, hXi⟩ : ∃ y, Hid (X1 i = y) := ⟨_, rfl⟩
        rw [hXi.out] at hc hact
        have xb := hact.ab
        have kb := hact.cb
        dsimp only at xb kb
        have c0 : wr.cell? ⟨ab, ao + i * 3, none⟩ = some (.int .i64 d) := hc 0 _ rfl
        have c1 : wr.cell? ⟨ab, ao + i * 3 + 1, none⟩ = some (.int .i64 x) := hc 1 _ rfl
        have c2 : wr.cell? ⟨ab, ao + i * 3 + 1 + 1, none⟩ = some (.int .i64 k) := hc 2 _ rfl
        obtain ⟨z, hz⟩ : ∃ z, Hid (wr.heap.size = z) := ⟨_, rfl⟩
        obtain ⟨W, hW⟩ : ∃ W, W = wr.alloc (.cells #[.int .i64 x, .int .i64 k] 32) := ⟨_, rfl⟩
        have kW : Bw wr W := by rw [hW]; exact bw_alloc16 (Bw.refl _) _
        have hg0 : W.heap[z]? = some (.cells #[.int .i64 x, .int .i64 k] 32 (0, 0)) := by rw [hW, ← hz.out]; exact heap_alloc_new _ _
        have HZ : Hid (∀ u, KeepA W u → u.cell? ⟨z, 0, none⟩ = some (.int .i64 x) ∧ u.cell? ⟨z, 1, none⟩ = some (.int .i64 k)) := fun u ku => ⟨cell_of_row u z 0 _ _ _ (ku _ _ _ hg0), cell_of_row u z 1 _ _ _ (ku _ _ _ hg0)⟩
        have hap2 : Hid (Apt w W g N u7 H L) := hap.out.keep kW
        have c0' : W.cell? ⟨ab, ao + i * 3, none⟩ = some (.int .i64 d) := keep_cell16 c0 kW
        obtain ⟨z0, z1⟩ := HZ.out W (KeepA.of_bw (Bw.refl W))
        clear hc hq hlt hact hap
        go_upto_region 12 with fail
        rw [← hW, hz.out]
        clear hW hg0 c0 c1 c2
        go_upto_block 2 with fail
        go_cut [7] from 60 to 60 (fun v wx => CutA w g N i v wx)
        case first =>
          by_cases e0 : d = 0
          · subst e0
            by_cases hk : k < 1 ∨ ∀ y, ¬ Sp.Place L k.toNat y
            · have HT := ap_take_no hap2.out hk
              clear hk
              go_wp2_with (go_at_call 10; refine HT.mono ?_; rintro e w2 ⟨c, rfl, hc0, h2⟩)
              go_meet
              case rel => exact ⟨H, L, h2.out, by omega⟩
            · obtain ⟨K, rfl⟩ : ∃ K : Nat, k = (K : Int) := ⟨k.toNat, by omega⟩
              obtain ⟨y, hy⟩ : ∃ y, Sp.Place L K y := Classical.byContradiction fun h => hk (.inr (fun y hp => h ⟨y, by simpa using hp⟩))
              have HT := ap_take_yes hap2.out (K := K) (by omega) hy
              clear hk hy
              go_wp2_with (first
                | (go_at_call 10; refine HT.mono ?_; rintro e w2 ⟨rfl, M, h2, ka⟩; obtain ⟨u0, u1⟩ := HZ.out w2 ka.out)
                | (at_builtin; refine wpList_app16 (by rfl) _ _ (by rfl) w.heap.size u7 H [(y, K)] 1 rfl (by rfl) (h2.out.held.keep (Bw.alloc16x w2 _)) (some ⟨w2.heap.size, 0, none⟩) 1 (by rfl) (fun e => by cases e) ((rbA_new1 w2 (y, K)).src0) (by omega) (Nat.le_trans h2.out.sp.bw.size (by rw [size_alloc]; omega)) ?_; intro v' w3 hh hg; have hh : Hid _ := hh; have hg : Hid _ := hg))
              go_meet
              case rel => exact ⟨H ++ [(y, K)], M, (h2.out.keep (Bw.alloc16x w2 _)).put hh.out hg.out, by rw [List.length_append]; show H.length + 1 ≤ i + 1; omega⟩
          · have f0 : (d == 0) = false := by rw [beq_eq_false_iff_ne]; exact e0
            by_cases e1 : d = 1
            · subst e1
              by_cases hk : Sp.Right N x k ∧ Sp.AllFree L x.toNat k.toNat
              · obtain ⟨X, rfl⟩ : ∃ X : Nat, x = (X : Int) := ⟨x.toNat, by have := hk.1.2.1; omega⟩
                obtain ⟨K, rfl⟩ : ∃ K : Nat, k = (K : Int) := ⟨k.toNat, by have := hk.1.1; omega⟩
                have HT := ap_hold_yes hap2.out hk.1 (by have := hk.2; simpa using this)
                clear hk
                go_wp2_with (first
                  | (go_at_call 12; refine HT.mono ?_; rintro e w2 ⟨rfl, M, h2, ka⟩; obtain ⟨u0, u1⟩ := HZ.out w2 ka.out)
                  | (at_builtin; refine wpList_app16 (by rfl) _ _ (by rfl) w.heap.size u7 H [(X, K)] 1 rfl (by rfl) (h2.out.held.keep (Bw.alloc16x w2 _)) (some ⟨w2.heap.size, 0, none⟩) 1 (by rfl) (fun e => by cases e) ((rbA_new1 w2 (X, K)).src0) (by omega) (Nat.le_trans h2.out.sp.bw.size (by rw [size_alloc]; omega)) ?_; intro v' w3 hh hg; have hh : Hid _ := hh; have hg : Hid _ := hg))
                go_meet
                case rel => exact ⟨H ++ [(X, K)], M, (h2.out.keep (Bw.alloc16x w2 _)).put hh.out hg.out, by rw [List.length_append]; show H.length + 1 ≤ i + 1; omega⟩
              · have HT := ap_hold_no hap2.out xb kb hk
                clear hk
                go_wp2_with (go_at_call 12; refine HT.mono ?_; rintro e w2 ⟨c, rfl, hc0, h2⟩)
                go_meet
                case rel => exact ⟨H, L, h2.out, by omega⟩
            · have f1 : (d == 1) = false := by rw [beq_eq_false_iff_ne]; exact e1
              by_cases e2 : d = 2
              · subst e2
                clear xb kb
                by_cases hH : H = []
                · subst hH
                  obtain ⟨A, cc, e7, -, -, -⟩ := hap2.out.held.src
                  rw [List.length_nil] at e7
                  subst e7
                  go_wp2
                  go_roundw
                  case rel => exact ⟨i + 1, [], L, by go_num, by omega, Nat.zero_le _, hap2⟩
                  case measure => simp [intOf]; omega
                · obtain ⟨hb, hc, e7, hR, hbB⟩ := hap2.out.held.rb hH
                  obtain ⟨m, hm⟩ : ∃ m, H.length = m + 1 := ⟨H.length - 1, by have := List.length_pos_iff.2 hH; omega⟩
                  obtain ⟨q, hq⟩ : ∃ q, Hid (m + 1 = q) := ⟨_, rfl⟩
                  have hcc := hR.le
                  rw [hm, hq.out] at e7
                  subst e7
                  have hq1 : 0 < q := by have := hq.out; omega
                  obtain ⟨r1, kk, hr1, hr1a, hr1b, hkk, hkq⟩ := modlen x q hq1
                  have hr1h : Hid (Int.tmod x (q : Int) = r1) := hr1
                  have hkkh : Hid (Int.tmod (r1 + (q : Int)) (q : Int) = (kk : Int)) := hkk
                  clear hr1 hkk
                  have q0 : (0 : Int) ≤ r1 + (q : Int) := by omega
                  have q1 : r1 + (q : Int) ≤ 1000 := by have := hq.out; omega
                  have q2 : ((q : Int) == 0) = false := by rw [beq_eq_false_iff_ne]; omega
                  have q3 : ¬ (q : Int) = 0 := by omega
                  have q4 : (kk : Int) < (q : Int) := by omega
                  have q5 : (q : Int) - 1 = (m : Int) := by have := hq.out; omega
                  have q6 : (m : Int) < (q : Int) := by have := hq.out; omega
                  have qm : m ≤ 1000 := by have := hq.out; omega
                  have q7 : (0 : Int) ≤ (kk : Int) := Int.natCast_nonneg _
                  have q8 : (0 : Int) ≤ (m : Int) := Int.natCast_nonneg _
                  have q9 : (m : Int) ≤ (hc : Int) := by omega
                  obtain ⟨rk, hrk⟩ : ∃ rk, Hid (H[kk]? = some rk) := ⟨_, List.getElem?_eq_getElem (by have := hq.out; omega)⟩
                  obtain ⟨rl, hrl⟩ : ∃ rl, Hid (H[m]? = some rl) := ⟨_, List.getElem?_eq_getElem (by omega)⟩
                  have HT := ap_give hap2.out hrk.out hrl.out hm
                  have HR : Hid (∀ u, KeepA W u → RB u 32 hb hc H) := fun u ku => by
                    obtain ⟨cur, h1, h2⟩ := hR
                    exact ⟨cur, ku _ _ _ h1, h2⟩
                  obtain ⟨v0, v1⟩ := hR.cells hrk.out
                  have HM : Hid (H.length = m + 1) := hm
                  have HK : Hid (kk < H.length) := by have := hq.out; exact (by omega : kk < H.length)
                  clear hR hH hr1a hr1b hm
                  go_upto_region 22 with fail
                  have hr1 := hr1h.out
                  have hkk := hkkh.out
                  go_upto_region 23 with fail
                  clear hr1 hkk q0 q1
                  have q10 : wrap64 (m : Int) = (m : Int) := wrap_small m qm
                  clear qm
                  go_wp2_with (go_at_call 14; refine HT.mono ?_; rintro e w2 ⟨rfl, ka, hM⟩; have hR2 := HR.out w2 ka.out; obtain ⟨t0, t1⟩ := hR2.cells hrk.out; obtain ⟨t2, t3⟩ := hR2.cells hrl.out; have g0 := hR2.free (kk * 2); have g1 := hR2.free (kk * 2 + 1); have hput : Hid _ := hR2.put (i := kk) HK.out rl; clear hR2)
                  go_meet
                  case rel =>
                    clear q10
                    obtain ⟨M, h3, h4, h5, h6⟩ := hM.out
                    have hX : Bx (· = hb) w2 ((w2.setCell ⟨hb, kk * 2, none⟩ (.int .i64 (rl.1 : Int))).setCell ⟨hb, kk * 2 + 1, none⟩ (.int .i64 (rl.2 : Int))) := ((Bx.refl (· = hb) w2).put rfl).put rfl
                    have hl2 : ((H.set kk rl).take m).length = m := by rw [List.length_take, List.length_set, HM.out]; omega
                    refine ⟨(H.set kk rl).take m, M, ⟨h3.grown h4 ⟨hX.os, hX.tape, hX.output, hX.size, fun y hy hne => hX.block y hy (fun e => hne (by simp [Value.ownBlock, e]))⟩, ?_, h5, h6⟩, by rw [hl2]; have := HM.out; omega⟩
                    have h7 := RB.own (RB.take (t := 32) (b := hb) (c := hc) (L := H.set kk rl) hput.out m) hbB
                    rw [hl2] at h7
                    unfold Hd16
                    rw [hl2]
                    first | exact h7 | (have e9 : q - 1 = m := by { have := hq.out; omega }; rw [e9]; exact h7)
              · have f2 : (d == 2) = false := by rw [beq_eq_false_iff_ne]; exact e2
                go_wp2
                go_meet
                case rel => exact ⟨H, L, hap2.out, by omega⟩
        case rest =>
          clear HZ hap2 c0' z0 z1 kW xb kb
          obtain ⟨H', L', hA', hl'⟩ := hcut
          obtain ⟨A', cc', e7, hsrc, hnil, hle⟩ := hA'.held.src
          obtain ⟨m, hm⟩ : ∃ m, Hid (H'.length = m) := ⟨_, rfl⟩
          obtain ⟨ml, hml⟩ : ∃ m, Hid (L'.length = m) := ⟨_, rfl⟩
          have hLl := hA'.sp.norm.len
          rw [hml.out] at hLl
          rw [hm.out] at e7 hle hl'
          subst e7
          have HAp : Hid (Apt w wc g N (.slice A' m cc') H' L') := hA'
          have HRn : Hid (∀ u, Bw wc u → Calls Try.prog 19 #[.pointer (some ⟨g, 0, none⟩)] u fun e w' => ∃ b2, e = .returned (.slice (some ⟨b2, 0, none⟩) ml ml) ∧ Hid (RB w' 32 b2 ml L') ∧ Bw u w') := fun u ku => by
            refine (ap_runs (HAp.out.keep ku)).mono ?_
            rintro e w' ⟨b2, rfl, h1, h2⟩
            rw [hml.out] at h1 ⊢
            exact ⟨b2, rfl, h1, h2⟩
          have hone : ∀ j, j < N → Sp.cov (H' ++ L') j = 1 := fun j hj => by rw [Sp.cov_append]; exact hA'.one j hj
          have hok : ∀ r ∈ H' ++ L', 1 ≤ r.2 ∧ r.1 + r.2 ≤ N := fun r hr => (List.mem_append.1 hr).elim (hA'.ok r) (fun h => hA'.sp.norm.ok r h)
          have htot := Sp.tot_one hone (fun r hr => (hok r hr).2)
          have HSrc : Hid (RsAt wc A' H') := hsrc
          have tok1 : Hid (w = w) := rfl
          clear hA' hsrc
          go_upto_region 28 with (first
            | (at_builtin; clear tok1; refine wpList_app16 (by rfl) _ _ (by rfl) wc.heap.size (.slice (some ⟨wc.heap.size, 0, none⟩) 0 0) [] H' m hm.out (by rfl) (hdE wc wc.heap.size (Nat.le_refl _)) A' cc' (by rfl) hnil (HSrc.out.keep (Bw.alloc16x wc _)) (by show 0 + m ≤ _; omega) (by rw [size_alloc]; omega) ?_; intro v1 w2 hh1 hg1; have kb2 : Bw wc w2 := bw_fresh hg1; have hh1 : Hid (Hd16 wc.heap.size w2 v1 H') := hh1; clear hg1)
            | (go_at_call 19; refine (HRn.out w2 kb2).mono ?_; rintro e w3 ⟨b2, rfl, hR2, kb3⟩)
            | (at_builtin; refine wpList_app16 (by rfl) _ _ (by rfl) wc.heap.size v1 H' L' ml hml.out (by rfl) (hh1.out.keep kb3) (some ⟨b2, 0, none⟩) ml (by rfl) (fun e => by cases e) hR2.out.src0 (by rw [hm.out]; omega) (kb2.trans kb3).size ?_; intro v2 w4 hh2 hg2; have kb4 : Bw wc w4 := bw_grow hg2 (kb2.trans kb3) (kb2.trans kb3).size (hh1.out.keep kb3); have hh2 : Hid (Hd16 wc.heap.size w4 v2 (H' ++ L')) := hh2; clear hg2))
          obtain ⟨A2, c2, e2, hs2, -, hle2⟩ := hh2.out.src
          obtain ⟨All, hAll⟩ : ∃ All, Hid (H' ++ L' = All) := ⟨_, rfl⟩
          rw [hAll.out] at hone hok htot hs2 e2 hle2
          have hnl : All.length = m + ml := by rw [← hAll.out, List.length_append, hm.out, hml.out]
          obtain ⟨na, hna⟩ : ∃ m, Hid (All.length = m) := ⟨_, rfl⟩
          rw [hna.out] at e2 hnl hle2
          subst e2
          have HAp4 : Hid (Apt w w4 g N (.slice A' m cc') H' L') := HAp.out.keep kb4
          have HQ : Hid (∀ u, Bw w4 u → RsAt u A2 All) := fun u ku => hs2.keep ku
          have HOne : Hid (∀ (p q : Nat) (r s : Sp.Rn), q < p → All[p]? = some r → All[q]? = some s → r.1 + r.2 ≤ s.1 ∨ s.1 + s.2 ≤ r.1) := fun p q r s hpq hp hq => by
            rw [← hAll.out] at hone hok hp hq
            exact all_apart hone hok hpq hp hq
          have HOk : Hid (∀ r ∈ All, 1 ≤ r.2 ∧ r.1 + r.2 ≤ N) := hok
          have HTot : Hid (Sp.tot All = N) := htot
          have hna2 : na ≤ 1200 := by omega
          clear hone hok htot hs2 HAp HSrc HRn hnil hLl hnl
          go_wp2
          go_loopw [14, 15] (fun s14 s15 wr => ∃ (a s : Nat), s14 = .int .i64 (s : Int) ∧ s15 = .int .i64 (a : Int) ∧ a ≤ na ∧ Hid (s = Sp.tot (All.take a)) ∧ Hid (Bw w4 wr)) (fun _ s15 _ => na - (intOf s15).toNat)
          case atStart => exact ⟨0, 0, rfl, rfl, Nat.zero_le _, by rw [List.take_zero]; rfl, Bw.refl _⟩
          case round =>
            obtain ⟨a, s, rfl, rfl, ha, hs, hbw⟩ := hrel
            have a0' : (0 : Int) ≤ (a : Int) := Int.natCast_nonneg _
            by_cases hlt2 : a < na
            · have a1' : (a : Int) < (na : Int) := by omega
              obtain ⟨ra, hra⟩ : ∃ r, Hid (All[a]? = some r) := ⟨_, List.getElem?_eq_getElem (by rw [hna.out]; exact hlt2)⟩
              obtain ⟨ab2, ao2, rfl⟩ : ∃ b off, A2 = some ⟨b, off, none⟩ := by
                rcases HQ.out _ hbw.out with h0 | ⟨b, o, e, _⟩
                · rw [h0] at hra; exact absurd hra.out (by simp)
                · exact ⟨b, o, e⟩
              obtain ⟨y0, y1⟩ := (HQ.out _ hbw.out).at hra.out
              have hrok := HOk.out ra (List.mem_of_getElem? hra.out)
              have t1 := Sp.tot_le All (a + 1)
              have t2 := Sp.tot_take hra.out
              have t3 := HTot.out
              have t4 := hs.out
              have s0 : (0 : Int) ≤ (s : Int) + (ra.2 : Int) := by omega
              have s1 : (s : Int) + (ra.2 : Int) ≤ 65536 := by omega
              have hsn : Hid (s + ra.2 = Sp.tot (All.take (a + 1))) := by refine (?_ : _ = _); omega
              have d3 : decide ((ra.1 : Int) < 0) = false := by rw [decide_eq_false_iff_not]; omega
              have d4 : decide ((ra.2 : Int) < 1) = false := by rw [decide_eq_false_iff_not]; omega
              have d5 : decide ((N : Int) - (ra.1 : Int) < (ra.2 : Int)) = false := by rw [decide_eq_false_iff_not]; omega
              have hw5 : IntKind.i64.wrap ((N : Int) - (ra.1 : Int)) = (N : Int) - (ra.1 : Int) := by rw [IntKind.wrap_i64]; omega
              clear t1 t2 t3 t4 hs
              go_upto_region 32 with fail
              go_quiet (fail)
              go_upto_region 34 with fail
              obtain ⟨W5, hW5⟩ : ∃ W5, W5 = wr.drewN nq := ⟨_, rfl⟩
              rw [← hW5]
              have kW5 : Bw w4 W5 := by rw [hW5]; exact hbw.out.trans (Bw.drewN _ _)
              clear hW5 y0 y1 d3 d4 d5 hw5
              obtain ⟨y0, y1⟩ := (HQ.out _ kW5).at hra.out
              go_wp2
              clear y0 y1 s0 s1
              go_loopw [16] (fun s16 wr => ∃ b : Nat, s16 = .int .i64 (b : Int) ∧ b ≤ a ∧ Hid (Bw w4 wr)) (fun s16 _ => a - (intOf s16).toNat)
              case atStart => exact ⟨0, rfl, Nat.zero_le _, kW5⟩
              case round =>
                obtain ⟨b, rfl, hb, hbw2⟩ := hrel
                have b0' : (0 : Int) ≤ (b : Int) := Int.natCast_nonneg _
                by_cases hlt3 : b < a
                · have b1' : (b : Int) < (a : Int) := by omega
                  have b2' : (b : Int) < (na : Int) := by omega
                  obtain ⟨rb, hrb⟩ : ∃ r, Hid (All[b]? = some r) := ⟨_, List.getElem?_eq_getElem (by rw [hna.out]; omega)⟩
                  obtain ⟨y0, y1⟩ := (HQ.out _ hbw2.out).at hra.out
                  obtain ⟨y2, y3⟩ := (HQ.out _ hbw2.out).at hrb.out
                  have HOv : Hid (∀ u, Calls Try.prog 21 #[.agg #[.int .i64 (ra.1 : Int), .int .i64 (ra.2 : Int)], .agg #[.int .i64 (rb.1 : Int), .int .i64 (rb.2 : Int)]] u fun e w' => e = .returned (.bool false) ∧ Bw u w') := fun u => over16_any ra rb (by have := HOk.out ra (List.mem_of_getElem? hra.out); omega) (by have := HOk.out rb (List.mem_of_getElem? hrb.out); omega) (HOne.out a b ra rb hlt3 hra.out hrb.out) u
                  go_upto_region 38 with fail
                  go_region_with (go_at_call 21; refine (HOv.out _).mono ?_; rintro e w6 ⟨rfl, hb6⟩)
                  all_goals go_wp2
                  all_goals go_roundw
                  all_goals first
                    | exact ⟨b + 1, by go_num, by omega, hbw2.out.trans (((Bw.refl _).drew).trans hb6)⟩
                    | (simp [intOf]; omega)
                · obtain rfl : b = a := by omega
                  go_wp2
                  go_roundw
                  case rel => exact ⟨b + 1, s + ra.2, by go_num, by go_num, by omega, hsn, hbw2.out⟩
                  case measure => simp [intOf]; omega
            · obtain rfl : a = na := by omega
              obtain rfl : s = N := by rw [hs.out, ← HTot.out, ← hna.out, List.take_length]
              have HAp5 : Hid _ := HAp4.out.keep hbw.out
              have hHm := hm.out
              go_wp2
              go_roundw
              case rel =>
                first
                  | exact ⟨i + 1, H', L', by go_num, by omega, by rw [hHm]; omega, HAp5⟩
                  | ((repeat apply Exists.intro); refine ⟨?_, rfl⟩; exact ⟨i + 1, H', L', by go_num, by omega, by rw [hHm]; omega, HAp5⟩)
              case measure => simp [intOf]; omega
      · obtain rfl : i = len1 := by omega
        go_wp2_with (go_at_call 7; refine (wakes16_any _).mono ?_; rintro e w2 ⟨rfl, hb2⟩)
        go_ret
        exact ⟨rfl, hap.out.sp.bw.trans hb2⟩

set_option maxRecDepth 100000 in
theorem lifted (os : Os) (started : os.Started) (H : Type) (enc : TypeId × Value → H) :
    ReturnsInHanded {} Try.checked os 5 .any (Rows.spaceApartSpec.pre6 enc Try.prog Try.f5 Rows.spaceApartRow.domain false) (Rows.spaceApartSpec.post enc Try.prog Try.f5 false true false false) := by
  refine returnsInHanded_of_change_sized (C := Try.checked) own started (by kernel_rfl) Try.func5
    (ChangeSpec.witness6 (enc := enc) (C := Try.checked) false ⟨#[], #[.int .i64 0, .slice none 0 0], []⟩ 8 (by kernel_rfl) (by kernel_rfl) (by kernel_rfl) (by kernel_rfl)) ?_
  intro W base args ds gs before hval0 hW hcnd hsz0 _
  have hval : ∀ (j : Nat) t v, Try.f5.params[j]? = some t → args[j]? = some v → Value.okWide Try.prog W .any base t v := hval0
  have hW' := hW
  obtain ⟨p, q, hA0, hV, rfl, hfz, hnd⟩ := hW
  have hA : DataW.TrodAll enc Try.prog W 0 (fun _ => true) true Try.f5.params.toList args.toList ds p := hA0
  have hsz : (DataW.weightsEach Try.prog (Try.f5.params.toList ++ Rows.spaceApartSpec.plain.varTypes Try.prog) (ds ++ gs)).all (· ≤ reachBytes) = true := hsz0
  rw [Try.params5] at hA hval hsz
  obtain ⟨v0, vs0, d0, ds0, p0, q0, hargs, rfl, rfl, h0, r0⟩ := trodAll_cons hA
  obtain ⟨v1, vs1, d1, ds1, p1, q1, rfl, rfl, rfl, h1, r1⟩ := trodAll_cons r0
  obtain ⟨rfl, rfl, rfl⟩ := trodAll_nil r1
  obtain rfl : args = #[v0, v1] := by cases args; simp_all
  obtain ⟨rfl, rfl⟩ := trodVars_none hV
  obtain ⟨a0, rfl, rfl, rfl, w0⟩ := open_int Try.underlying3 (hval 0 3 v0 rfl rfl) h0
  obtain ⟨a1, len1, cap1, rfl⟩ := okWide_slice Try.underlying22 (hval 1 22 v1 rfl rfl)
  have k1 := h1
  have lt1 : ∀ x ∈ p1, x.block < W.heap.size := by obtain ⟨m, hm⟩ := k1; exact DataW.trod_lt m _ _ _ hm
  obtain ⟨X1, w1⟩ := open_acts16 h1 (fun x hx => by simpa using List.all_eq_true.1 hsz x (DataW.weights_mem_each (j := 1) (t := 22) rfl rfl x hx))
  clear hA0 hval0
  refine (walk a0 a1 len1 cap1 X1 W w0 w1).mono fun e W' ⟨he, bel⟩ => ?_
  subst he
  exact ⟨_, rfl, _, _, _, [], _, [], hW', trodAll_mk1 (shut_bool Try.underlying4 _), (trodAll_cons_mk (shut_int Try.underlying3 w0) (trodAll_cons_mk (Below.trod laidOut (by kernel_rfl) (of_decide_eq_true (by kernel_rfl)) k1 bel lt1) trodAll_mk0)), rfl, bel.frame _, fun h => by cases h⟩

theorem over : Rows.spaceApartRow.holds Try.pinned (OpenSpec.ofChange Rows.spaceApartSpec) :=
  OpenClaim.holds_of_wide 5 Try.f5 rfl rfl rfl rfl rfl rfl rfl ⟨rfl, rfl, rfl, rfl, rfl⟩ rfl rfl rfl rfl rfl (by kernel_rfl) Try.func5 (by kernel_rfl)
    (of_decide_eq_true (by kernel_rfl)) (by unfold Func.isWrapper; first | (rw [if_pos (by decide +kernel)]; kernel_rfl) | (rw [if_neg (by decide +kernel)]; exact ⟨rfl, rfl⟩))
    (fun os started H enc _ => lifted os started H enc)

theorem proved : Rows.SpaceApartSaid := over
#print axioms proved
end Go.Proofs.Ytfdfkhmaeeonpaa.spaceApart
