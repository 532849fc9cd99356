/- DigestPlays is true for every list of acts: a hash that is written to, asked and twinned in whatever order tells the digest of all bytes so far; the arguments stay as they were. (A tied card: the table k reads as the program's text lays it.) -/
import Derived.Test.YtcpapaceggnaoaaDoorEE
import Derived.Test.YtcpapaceggnaoaaDoorFq
import Derived.Test.YtcpapaceggnaoaaDoorCards
import Derived.Test.YtcpapaceggnaoaaDoorTie
import Derived.ShutString
import Derived.ChangeOld
import Derived.SevenTiedAt
namespace Go.Proofs.YtcpapaceggnaoaaDoor.digestPlays
open Go.ChangeShapes Go.WideShapes Go.ChangeAt Go.RowKit Go.Deep
set_option linter.unusedVariables false

set_option linter.unusedSimpArgs false
attribute [local go_sem] List.getElem?_cons_zero Option.getD_some
theorem acts_at {w wr : World} {A : Option Addr} {n cap : Nat} {D : Nat → Int} {B : Nat → Option Addr} {L C : Nat → Nat} {F : Nat → Nat → Int} (h : InActs w A n cap D B L C F) (hb : Bw w wr) {j : Nat} (hj : j < n) : ∃ b off, A = some ⟨b, off, none⟩ ∧ wr.cell? ⟨b, off + j * 2, none⟩ = some (.int .i64 (D j)) ∧ wr.cell? ⟨b, off + j * 2 + 1, none⟩ = some (.slice (B j) (L j) (C j)) := by
  rcases h.at_ with h0 | ⟨b, off, e, hc⟩
  · omega
  · obtain ⟨h1, h2⟩ := hc j hj
    exact ⟨b, off, e, cell_later hb h1, cell_later hb h2⟩
set_option maxRecDepth 100000 in
set_option maxHeartbeats 4000000 in
theorem walk (a0 : Option Addr) (len0 cap0 : Nat) (D0 : Nat → Int) (B0 : Nat → Option Addr) (L0 C0 : Nat → Nat) (F0 : Nat → Nat → Int) (w : World) (hk : KAt w) (w0 : InActs w a0 len0 cap0 D0 B0 L0 C0 F0) :
    Calls Tryd.prog 4 #[.slice a0 len0 cap0] w fun e w' => e = .returned (.bool true) ∧ Below w.heap.size w w' := by
  have hg := guard32
  go_enter Tryd.func4, Tryd.ntmps4
  go_wp2
  go_loop [3, 4] (fun s i => ∃ j S : Nat, j ≤ len0 ∧ j ≤ 201 ∧ i = .int .i64 (j : Int) ∧ s = .int .i64 (S : Int) ∧ Hid (S = sumL L0 j)) (fun _ i => len0 - (intOf i).toNat)
  case atStart => exact ⟨0, 0, Nat.zero_le _, Nat.zero_le _, rfl, rfl, rfl⟩
  case round =>
    obtain ⟨j, S, hj, hj2, rfl, rfl, hS⟩ := hrel
    have j0 : (0 : Int) ≤ (j : Int) := Int.natCast_nonneg _
    have hSb : S ≤ j * 140737488351232 := by rw [hS.out]; exact sumL_le (fun i hi => Nat.le_trans (w0.rows i hi).le (w0.rows i hi).room) j hj
    by_cases hlt : j < len0
    · have t1 : (j : Int) < (len0 : Int) := by omega
      by_cases h200 : j ≤ 200
      · have t2 : (j : Int) ≤ 200 := by omega
        obtain ⟨b, off, rfl, c1, c2⟩ := acts_at w0 (Bw.refl w) hlt
        have hLj := Nat.le_trans (w0.rows j hlt).le (w0.rows j hlt).room
        have s1 : (S : Int) + (L0 j : Int) < 9223372036854775808 := by omega
        have s2 : (0 : Int) ≤ (S : Int) := Int.natCast_nonneg _
        have s3 : (0 : Int) ≤ (L0 j : Int) := Int.natCast_nonneg _
        go_wp2
        go_round
        case rel => exact ⟨j + 1, S + L0 j, by omega, by omega, by go_num, by go_num, by show _ = _; unfold sumL; rw [hS.out]⟩
        case measure => simp [intOf]; omega
      · have t2 : ¬ (j : Int) ≤ 200 := by omega
        have t3 : (200 : Int) < (len0 : Int) := by omega
        go_wp2_with (go_at_call 9; refine (wakes_any _ hk).mono ?_; rintro e w1 ⟨rfl, hw1⟩)
        go_ret
        exact ⟨rfl, hw1⟩
    · have ej : j = len0 := by omega
      subst ej
      have t1 : ¬ (j : Int) < (j : Int) := by omega
      by_cases h200 : 200 < j
      · have t3 : (200 : Int) < (j : Int) := by omega
        go_wp2_with (go_at_call 9; refine (wakes_any _ hk).mono ?_; rintro e w1 ⟨rfl, hw1⟩)
        go_ret
        exact ⟨rfl, hw1⟩
      · have t3 : ¬ (200 : Int) < (j : Int) := by omega
        by_cases h65 : 65536 < S
        · have t4 : (65536 : Int) < (S : Int) := by omega
          go_wp2_with (go_at_call 9; refine (wakes_any _ hk).mono ?_; rintro e w1 ⟨rfl, hw1⟩)
          go_ret
          exact ⟨rfl, hw1⟩
        · have t4 : ¬ (65536 : Int) < (S : Int) := by omega
          go_wp2_with (go_at_call 14; refine (new_any _).mono ?_; rintro e w1 ⟨rfl, hw1⟩; subst w1)
          have hF : ∀ i : Nat, (0 : Int) ≤ (fun _ : Nat => (0 : Int)) i ∧ (fun _ : Nat => (0 : Int)) i < 256 := fun _ => (by decide : (0 : Int) ≤ 0 ∧ (0 : Int) < 256)
          have hH0 := new_hash w _ hF
          have hal : Bw w (w.alloc (.cells (hcells Sha.iv none 0 0) 47)) := (Below.refl _ _).alloc (Nat.le_refl _) _
          obtain ⟨n, hn⟩ : ∃ n, Hid (n = j) := ⟨_, rfl⟩
          have hn200 : n ≤ 200 := by rw [hn.out]; omega
          have hST : Hid (sumL L0 n ≤ 65536) := by show _ ≤ _; rw [hn.out, ← hS.out]; omega
          rw [← hn.out] at w0 ⊢
          clear hS hSb h65 t4 h200 t3 t1 hlt hj hj2 j0 hn
          go_loopw [2, 5, 6, 7, 8] (fun r hp v qv i wr => ∃ (m g q N cv : Nat) (Av A2 : Option Addr) (G : Nat → Int), m ≤ n ∧ r = .bool false ∧ hp = .pointer (some ⟨g, 0, none⟩) ∧ v = .slice Av N cv ∧ qv = .int .i64 (q : Int) ∧ i = .int .i64 (m : Int) ∧ q ≤ m ∧ Hid (N ≤ sumL L0 m) ∧ w.heap.size ≤ g ∧ HashAt wr g G N A2 ∧ Hid (wr.ownsRow w.heap.size 5 1 (.slice Av N cv) N (cellsU G N)) ∧ Hid (∀ b o, A2 = some ⟨b, o, none⟩ → 0 < N % 64 → ¬ some b = (Value.slice Av N cv).ownBlock) ∧ Bw w wr) (fun _ _ _ _ i _ => n - (intOf i).toNat)
          case atStart => exact ⟨0, w.heap.size, 0, 0, 0, none, none, fun _ => 0, Nat.zero_le _, rfl, rfl, rfl, rfl, rfl, Nat.le_refl _, Nat.zero_le _, Nat.le_refl _, hH0, World.ownsRow_nil _ _ _ _, (fun b o e => by cases e), hal⟩
          case round =>
            clear hH0 hal
            obtain ⟨m, g, q, N, cv, Av, A2, G, hm, rfl, rfl, rfl, rfl, rfl, hq, hN, hgw, hH, hown, hap, hbw⟩ := hrel
            rename World => wo
            have hkr := hk.keep hbw
            have hN6 : N ≤ 65536 := Nat.le_trans hN.out (Nat.le_trans (sumL_mono L0 n hm) hST.out)
            have q0 : (0 : Int) ≤ (q : Int) := Int.natCast_nonneg _
            have q1 : (q : Int) ≤ 200 := by omega
            have m0 : (0 : Int) ≤ (m : Int) := Int.natCast_nonneg _
            have N0 : (0 : Int) ≤ (N : Int) := Int.natCast_nonneg _
            by_cases hlt : m < n
            · have t1 : (m : Int) < (n : Int) := by omega
              obtain ⟨b, off, rfl, ca, cb⟩ := acts_at w0 hbw hlt
              have hrow := w0.rows m hlt
              have hL6 : N + L0 m ≤ 65536 := by have := sumL_mono L0 n (show m + 1 ≤ n by omega); have := hST.out; have := hN.out; have : sumL L0 (m + 1) = sumL L0 m + L0 m := rfl; omega
              have hNs : Hid (N ≤ sumL L0 (m + 1)) := Nat.le_trans hN.out (sumL_mono L0 (m + 1) (by omega))
              -- CASES
              by_cases e0 : D0 m = 0
              · have u0 : (D0 m == 0) = true := by rw [e0]; rfl
                clear e0
                obtain ⟨i0, hi0, hz0, hz1, hz2⟩ := info_parts info_u8
                have hmx : 0 + L0 m ≤ maxLen := by unfold maxLen; omega
                have hlg := hH.at_.lt
                have szw := hbw.size
                have hrB := hrow.row.keep hbw
                have cbx := cell_later ((Below.refl wo.heap.size wo).alloc (Nat.le_refl _) (.cells #[] 5)) cb
                go_wp2_with (first | (at_builtin; refine wpList_append_rowat _ (by rfl) (.tmp 52) (.tmp 57) _ (by rfl) wo.heap.size 5 i0 _ 1 Tryd.underlying22 hi0 hz0 hz1 hz2 rfl _ _ _ (by rfl) (own_empty wo wo.heap.size _ (Nat.le_refl _)) (B0 m) (L0 m) (C0 m) (F0 m) (by rfl) (hrB.keep ((Below.refl _ _).alloc (Nat.le_refl _) _)) hrow.nil hmx (by omega) (by simp) ?_; intro v5 w1 hown5 hgrow5; simp only [Nat.zero_add, List.nil_append] at hown5; have hw1 := bw_fresh hgrow5; obtain ⟨A5, c5, rfl, hc5, hmine5⟩ := mine_of5 hrow.row.2 hown5; clear hown5 hgrow5 cbx) | (go_at_call 15; refine (write_any g G N A2 A5 (L0 m) c5 (F0 m) hmine5.le hc5 (by omega) _ (hH.keep hw1) hmine5.row (hkr.keep hw1)).mono ?_; rintro e w2 ⟨rfl, A3, hH2, hA3, hx2⟩))
                have hb1 := hbw.trans hw1
                have hbw2 : Bw w w2 := Below.trans hb1 (hx2.below hb1.size (fun b' e => by omega))
                have sz1 := hw1.size
                have sz2 := hx2.size
                have hS : Hid (∀ x, (0 < L0 m ∧ A5 = some ⟨x, 0, none⟩) → wo.heap.size ≤ x ∧ x < w1.heap.size) := fun x hx => by
                  obtain ⟨g5, e, hg5, hlt5, ho5⟩ := hmine5.own hx.1
                  rw [hx.2] at e
                  cases e
                  exact ⟨hg5, hlt5⟩
                have hown4 : Hid (0 < L0 m → ∃ g5 F, A5 = some ⟨g5, 0, none⟩ ∧ wo.heap.size ≤ g5 ∧ Own w2 g5 (L0 m) F) := fun hp => by
                  obtain ⟨g5, e, hg5, hlt5, ho5⟩ := hmine5.own hp
                  exact ⟨g5, F0 m, e, hg5, own_keepx5 ho5 hx2 (by show ¬ _ = _; omega)⟩
                have hownv := own_keep hown.out hw1
                have own_ltv : Hid (∀ k, (Value.slice Av N cv).ownBlock = some k → k < wo.heap.size) := own_lt5 hown.out
                have hvg : (Value.slice Av N cv).ownBlock ≠ some g := own_apart5 hown.out hH.at_ (by decide)
                have hown2 := owns_keepx5 hownv hx2 (fun k hk' e => hvg (by rw [hk', e]))
                have hap2 : Hid (∀ x o, A3 = some ⟨x, o, none⟩ → 0 < (N + L0 m) % 64 → (¬ some x = (Value.slice Av N cv).ownBlock) ∧ ¬ (0 < L0 m ∧ A5 = some ⟨x, 0, none⟩)) := fun x o e hp => by
                  rcases hA3 with ⟨h1, h0⟩ | h1
                  · rw [h0, Nat.add_zero] at hp
                    exact ⟨hap.out x o (h1 ▸ e) hp, fun h2 => by have := h2.1; omega⟩
                  · have hx1 := h1 _ e
                    refine ⟨fun h2 => ?_, fun h2 => ?_⟩
                    · have := own_lt5 hown.out x h2.symm
                      simp only at hx1
                      omega
                    · have := (hS.out x h2).2
                      simp only at hx1
                      omega
                have hmz := hmine5.row
                clear hmine5 hA3 hH hown hownv hap
                go_loopw [10] (fun i wr => ∃ y : Nat, y ≤ L0 m ∧ i = .int .i64 (y : Int) ∧ Hid (0 < L0 m → ∃ g5 F, A5 = some ⟨g5, 0, none⟩ ∧ wo.heap.size ≤ g5 ∧ Own wr g5 (L0 m) F) ∧ Bx (fun x => 0 < L0 m ∧ A5 = some ⟨x, 0, none⟩) w2 wr) (fun i _ => L0 m - (intOf i).toNat)
                case atStart => exact ⟨0, Nat.zero_le _, rfl, hown4, Bx.refl _ _⟩
                case round =>
                  obtain ⟨y, hy, rfl, hown5, hx⟩ := hrel
                  by_cases hlt5 : y < L0 m
                  · obtain ⟨g5, F, e1, hg5, ho⟩ := hown5.out (by omega)
                    obtain ⟨d1, d2⟩ := ho.cell hlt5
                    clear hown5 hown4
                    subst e1
                    go_wp2
                    generalize bits BinOp.xor IntKind.u8 (if IntKind.u8.signed = true then -1 else IntKind.u8.max) (F y) = z
                    go_roundw
                    case rel =>
                      refine ⟨y + 1, by omega, by go_num, fun _ => ⟨g5, fun c => if c = y then z else F c, rfl, hg5, ho.set hlt5 (by rw [if_pos rfl]) (fun c _ hc => by rw [if_neg hc])⟩, hx.put ⟨by omega, rfl⟩⟩
                    case measure => simp [intOf]; omega
                  · obtain ⟨yl, hyl⟩ : ∃ yl, Hid (yl = L0 m) := ⟨_, rfl⟩
                    have ey : y = L0 m := by omega
                    have ty : ¬ (y : Int) < (L0 m : Int) := by omega
                    clear hlt5
                    have hbr : Bw w wr := Below.trans hbw2 (hx.below hbw2.size (fun x hxx => by have := (hS.out x hxx).1; omega))
                    have hH3 := hH2.keepx hx (fun e => by have := (hS.out g e).1; omega) (fun x o e hp => (hap2.out x o e hp).2)
                    have hown3 := owns_keepx5 hown2 hx (fun k hk' e => by have := (hS.out k e).1; have := own_lt5 hown2 k hk'; have hk2 := own_ltv.out k hk'; omega)
                    obtain ⟨b', off', e', -, cb3⟩ := acts_at w0 hbr hlt
                    cases e'
                    have hrB3 := hrow.row.keep hbr
                    have szr := hbr.size
                    have hNs2 : Hid (N + L0 m ≤ sumL L0 (m + 1)) := by show _ ≤ _; have := hN.out; have e3 : sumL L0 (m + 1) = sumL L0 m + L0 m := rfl; omega
                    clear hown5 hown4 hx hown2 hH2
                    go_wp2_with (at_builtin; refine wpList_append_all (by rfl) (.tmp 76) (.tmp 81) (by rfl) w.heap.size Av N cv G (by rfl) hown3 (B0 m) (L0 m) (C0 m) (F0 m) (by rfl) hrB3 (by omega) szr ?_; intro A6 c6 w6 hown6 hgrow6 hat6)
                    have hx6 := bx_grown5 hgrow6
                    have hH6 := hH3.keepx hx6 (fun e => hvg e.symm) (fun x o e hp => (hap2.out x o e hp).1)
                    have hbw6 : Bw w w6 := Below.trans hbr (hx6.below hbr.size (fun x e => own_ge hown3 x e.symm))
                    have hap6 : Hid (∀ x o, A3 = some ⟨x, o, none⟩ → 0 < (N + L0 m) % 64 → ¬ some x = (Value.slice A6 (N + L0 m) c6).ownBlock) := fun x o e hp h2 => by
                      rcases hat6 with h3 | h3
                      · exact (hap2.out x o e hp).1 (h2.trans h3)
                      · have h4 := h3 x h2.symm
                        have := RowAt.lt (e ▸ hH3.row) (k := 0) hp
                        omega
                    go_roundw
                    case rel => exact ⟨m + 1, g, q, N + L0 m, c6, A6, A3, joinF G N (F0 m), by omega, rfl, rfl, rfl, by go_num, by go_num, by omega, hNs2, by omega, hH6, hown6, hap6, hbw6⟩
                    case measure => simp [intOf]; omega
              · skip
                by_cases e1 : D0 m = 1
                · have u0 : (D0 m == 0) = false := by rw [e1]; rfl
                  have u1 : (D0 m == 1) = true := by rw [e1]; rfl
                  clear e1
                  by_cases h20 : q + 1 ≤ 20
                  · have v1 : (q : Int) + 1 ≤ 20 := by omega
                    obtain ⟨Ar, cr, er, hler, -, hrr, -⟩ := row_of_own hH.bd hown.out
                    cases er
                    have hnilr := own_nil5 hown.out
                    go_wp2_with (first | (go_at_call 16; refine (sum_any g G N A2 (by omega) _ hH hkr).mono ?_; rintro e w2 ⟨T, rfl, hTs, hT, hw2⟩; have hT32 : In32 T (Sha.dig (nbD G) N) := In32.mk hTs (Sha.dig_lt _ _) hT; clear hT hTs) | (go_at_call 11; refine (of_any Av N cv G (by omega) _ (hrr.keep hw2) hnilr).mono ?_; rintro e w3 ⟨U, rfl, hUs, hU, hw3⟩; have heq : ∀ W', (Op.equalIn 10000 23 (.agg T) (.agg U)).run Tryd.prog W' = .ok true W' := (fun W' => by rw [equal32 hT32 (In32.mk hUs (Sha.dig_lt _ _) hU) W', same32_rfl rfl]); clear hU hUs))
                    go_roundw
                    case rel => exact ⟨m + 1, g, q + 1, N, cv, Av, A2, G, by omega, rfl, rfl, rfl, by go_num, by go_num, by omega, hNs, by omega, hH.keep (hw2.trans hw3), own_keep hown.out (hw2.trans hw3), hap, hbw.trans (hw2.trans hw3)⟩
                    case measure => simp [intOf]; omega
                  · have v1 : ¬ (q : Int) + 1 ≤ 20 := by omega
                    go_wp2
                    go_roundw
                    case rel => exact ⟨m + 1, g, q + 1, N, cv, Av, A2, G, by omega, rfl, rfl, rfl, by go_num, by go_num, by omega, hNs, by omega, hH, hown, hap, hbw⟩
                    case measure => simp [intOf]; omega
                · skip
                  by_cases e2 : D0 m = 2
                  · have u0 : (D0 m == 0) = false := by rw [e2]; rfl
                    have u1 : (D0 m == 1) = false := by rw [e2]; rfl
                    have u2 : (D0 m == 2) = true := by rw [e2]; rfl
                    clear e2
                    go_wp2_with (go_at_call 17; refine (len_any g _ A2 _ N _ hH.at_).mono ?_; rintro e w' ⟨rfl, hw'⟩; subst w')
                    go_roundw
                    case rel => exact ⟨m + 1, g, q, N, cv, Av, A2, G, by omega, rfl, rfl, rfl, by go_num, by go_num, by omega, hNs, by omega, hH, hown, hap, hbw⟩
                    case measure => simp [intOf]; omega
                  · skip
                    by_cases e3 : D0 m = 3
                    · have u0 : (D0 m == 0) = false := by rw [e3]; rfl
                      have u1 : (D0 m == 1) = false := by rw [e3]; rfl
                      have u2 : (D0 m == 2) = false := by rw [e3]; rfl
                      have u3 : (D0 m == 3) = true := by rw [e3]; rfl
                      clear e3
                      have hlg := hH.at_.lt
                      obtain ⟨wt, hwt⟩ : ∃ wt, wt = wo.alloc (.cells (hcells (Sha.after (nbD G) (N / 64)) A2 (N % 64) N) 47) := ⟨_, rfl⟩
                      have hbt : Bw wo wt := by rw [hwt]; exact (Below.refl _ _).alloc (Nat.le_refl _) _
                      have hHt : HashAt wt wo.heap.size G N A2 := ⟨by rw [hwt]; exact heap_alloc_new _ _, hH.row.keep hbt, hH.bd⟩
                      have szw := hbw.size
                      go_wp2_with (go_at_call 18; refine (twin_any g _ A2 _ N _ hH.at_).mono ?_; rintro e w' ⟨rfl, hw'⟩; subst w'; rw [← hwt]; clear hwt)
                      go_roundw
                      case rel => exact ⟨m + 1, wo.heap.size, q, N, cv, Av, A2, G, by omega, rfl, rfl, rfl, by go_num, by go_num, by omega, hNs, by omega, hHt, own_keep hown.out hbt, hap, hbw.trans hbt⟩
                      case measure => simp [intOf]; omega
                    · skip
                      by_cases e4 : D0 m = 4
                      · have u0 : (D0 m == 0) = false := by rw [e4]; rfl
                        have u1 : (D0 m == 1) = false := by rw [e4]; rfl
                        have u2 : (D0 m == 2) = false := by rw [e4]; rfl
                        have u3 : (D0 m == 3) = false := by rw [e4]; rfl
                        have u4 : (D0 m == 4) = true := by rw [e4]; rfl
                        clear e4
                        have hlg := hH.at_.lt
                        obtain ⟨wt, hwt⟩ : ∃ wt, wt = wo.alloc (.cells (hcells (Sha.after (nbD G) (N / 64)) A2 (N % 64) N) 47) := ⟨_, rfl⟩
                        have hbt : Bw wo wt := by rw [hwt]; exact (Below.refl _ _).alloc (Nat.le_refl _) _
                        have hHt0 : HashAt wt wo.heap.size G N A2 := ⟨by rw [hwt]; exact heap_alloc_new _ _, hH.row.keep hbt, hH.bd⟩
                        have szw := hbw.size
                        have cbt := cell_later hbt cb
                        have hwr : IntKind.i64.wrap ((N : Int) + (L0 m : Int)) = ((N + L0 m : Nat) : Int) := by rw [IntKind.wrap_i64]; omega
                        go_wp2_with (first | (go_at_call 18; refine (twin_any g _ A2 _ N _ hH.at_).mono ?_; rintro e w' ⟨rfl, hw'⟩; subst w'; rw [← hwt]; clear hwt) | (go_at_call 15; refine (write_any wo.heap.size G N A2 (B0 m) (L0 m) (C0 m) (F0 m) hrow.le (Nat.le_trans hrow.room (by decide)) (by omega) _ hHt0 ((hrow.row.keep hbw).keep hbt) (hkr.keep hbt)).mono ?_; rintro e w2 ⟨rfl, A3, hHt, hA3, hx2⟩))
                        have hbw2 : Bw w w2 := Below.trans (hbw.trans hbt) (hx2.below (hbw.trans hbt).size (fun b e => by omega))
                        have hH2 := (hH.keep hbt).keepx hx2 (fun e => by omega) (fun b' o' e hp => by have := RowAt.lt (e ▸ hH.row) (k := 0) hp; show ¬ _ = _; omega)
                        have hown2 := owns_keepx5 (own_keep hown.out hbt) hx2 (fun k hk' => by have := own_lt5 hown.out k hk'; show ¬ _ = _; omega)
                        have cb2 : w2.cell? ⟨b, off + m * 2 + 1, none⟩ = some (.slice (B0 m) (L0 m) (C0 m)) := by obtain ⟨b', off', e, -, h2⟩ := acts_at w0 hbw2 hlt; cases e; exact h2
                        clear hHt0 cbt
                        refine wp_region_held_drew (S := fun w' => Bw w2 w') (by kernel_rfl) ((Below.refl _ _).drew) (fun hHeld => ?_)
                        refine wpAnyH_take (i := 0) (oi := { dst := some 118, op := Op.move (Operand.tmp 11), type := 31, pos := "law.go:63", after := #[], guard := none }) (v := ?_) rfl (by kernel_rfl) (by kernel_rfl) (by kernel_rfl) (fun _ _ _ h => h) (Or.inl ⟨by rfl, ?_⟩) (by assumption) ?_
                        rotate_left
                        · intro w hSw; (try dsimp only at hSw); go_simp; all_goals (with_reducible rfl)
                        try simp only [Act.put, List.setIfInBounds_toArray, List.set_cons_zero, List.set_cons_succ]
                        refine wpAnyH_take (i := 2) (oi := { dst := some 120, op := Op.move (Operand.tmp 6), type := 22, pos := "law.go:63", after := #[], guard := none }) (v := ?_) rfl (by kernel_rfl) (by kernel_rfl) (by kernel_rfl) (fun _ _ _ h => h) (Or.inl ⟨by rfl, ?_⟩) (by assumption) ?_
                        rotate_left
                        · intro w hSw; (try dsimp only at hSw); go_simp; all_goals (with_reducible rfl)
                        try simp only [Act.put, List.setIfInBounds_toArray, List.set_cons_zero, List.set_cons_succ]
                        refine wpAnyH_take (i := 3) (oi := { dst := some 121, op := Op.call { callee := Callee.builtin Builtin.len, args := #[Operand.tmp 120], argTypes := #[22] }, type := 3, pos := "law.go:63", after := #[{ on := 2, ground := Ground.data }], guard := none }) (v := ?_) rfl (by kernel_rfl) (by kernel_rfl) (by kernel_rfl) (fun _ _ _ h => h) (Or.inl ⟨by rfl, ?_⟩) (by assumption) ?_
                        rotate_left
                        · intro w hSw; (try dsimp only at hSw); go_simp; all_goals (with_reducible rfl)
                        try simp only [Act.put, List.setIfInBounds_toArray, List.set_cons_zero, List.set_cons_succ]
                        refine wpAnyH_take (i := 4) (oi := { dst := some 122, op := Op.move (Operand.tmp 0), type := 28, pos := "law.go:63", after := #[], guard := none }) (v := ?_) rfl (by kernel_rfl) (by kernel_rfl) (by kernel_rfl) (fun _ _ _ h => h) (Or.inl ⟨by rfl, ?_⟩) (by assumption) ?_
                        rotate_left
                        · intro w hSw; (try dsimp only at hSw); go_simp; all_goals (with_reducible rfl)
                        try simp only [Act.put, List.setIfInBounds_toArray, List.set_cons_zero, List.set_cons_succ]
                        refine wpAnyH_take (i := 5) (oi := { dst := some 123, op := Op.move (Operand.tmp 8), type := 3, pos := "law.go:63", after := #[], guard := none }) (v := ?_) rfl (by kernel_rfl) (by kernel_rfl) (by kernel_rfl) (fun _ _ _ h => h) (Or.inl ⟨by rfl, ?_⟩) (by assumption) ?_
                        rotate_left
                        · intro w hSw; (try dsimp only at hSw); go_simp; all_goals (with_reducible rfl)
                        try simp only [Act.put, List.setIfInBounds_toArray, List.set_cons_zero, List.set_cons_succ]
                        refine wpAnyH_take (i := 6) (oi := { dst := some 124, op := Op.indexAddr 28 (Operand.tmp 122) (Operand.tmp 123), type := 0, pos := "law.go:63", after := #[{ on := 4, ground := Ground.data }, { on := 5, ground := Ground.data }], guard := none }) (v := ?_) rfl (by kernel_rfl) (by kernel_rfl) (by kernel_rfl) (fun _ _ _ h => h) (Or.inl ⟨by rfl, ?_⟩) (by assumption) ?_
                        rotate_left
                        · intro w hSw; (try dsimp only at hSw); go_simp; all_goals (with_reducible rfl)
                        try simp only [Act.put, List.setIfInBounds_toArray, List.set_cons_zero, List.set_cons_succ]
                        refine wpAnyH_take (i := 7) (oi := { dst := some 125, op := Op.fieldAddr 30 (Operand.tmp 124) 1, type := 0, pos := "law.go:63", after := #[{ on := 6, ground := Ground.data }], guard := none }) (v := ?_) rfl (by kernel_rfl) (by kernel_rfl) (by kernel_rfl) (fun _ _ _ h => h) (Or.inl ⟨by rfl, ?_⟩) (by assumption) ?_
                        rotate_left
                        · intro w hSw; (try dsimp only at hSw); go_simp; all_goals (with_reducible rfl)
                        try simp only [Act.put, List.setIfInBounds_toArray, List.set_cons_zero, List.set_cons_succ]
                        refine wpAnyH_take (i := 8) (oi := { dst := some 126, op := Op.load 22 (Operand.tmp 125), type := 22, pos := "law.go:63", after := #[{ on := 7, ground := Ground.data }], guard := none }) (v := ?_) rfl (by kernel_rfl) (by kernel_rfl) (by kernel_rfl) (fun _ _ _ h => h) (Or.inl ⟨by rfl, ?_⟩) (by assumption) ?_
                        rotate_left
                        · intro w hSw; (try dsimp only at hSw); have cq := cell_later hSw cb2; go_simp; all_goals (with_reducible rfl)
                        try simp only [Act.put, List.setIfInBounds_toArray, List.set_cons_zero, List.set_cons_succ]
                        refine wpAnyH_take (i := 9) (oi := { dst := some 127, op := Op.call { callee := Callee.builtin Builtin.len, args := #[Operand.tmp 126], argTypes := #[22] }, type := 3, pos := "law.go:63", after := #[{ on := 8, ground := Ground.data }], guard := none }) (v := ?_) rfl (by kernel_rfl) (by kernel_rfl) (by kernel_rfl) (fun _ _ _ h => h) (Or.inl ⟨by rfl, ?_⟩) (by assumption) ?_
                        rotate_left
                        · intro w hSw; (try dsimp only at hSw); go_simp; all_goals (with_reducible rfl)
                        try simp only [Act.put, List.setIfInBounds_toArray, List.set_cons_zero, List.set_cons_succ]
                        refine wpAnyH_take (i := 10) (oi := { dst := some 128, op := Op.binOp BinOp.add 3 (Operand.tmp 121) (Operand.tmp 127) 3, type := 3, pos := "law.go:63", after := #[{ on := 3, ground := Ground.data }, { on := 9, ground := Ground.data }], guard := none }) (v := ?_) rfl (by kernel_rfl) (by kernel_rfl) (by kernel_rfl) (fun _ _ _ h => h) (Or.inl ⟨by rfl, ?_⟩) (by assumption) ?_
                        rotate_left
                        · intro w hSw; (try dsimp only at hSw); go_simp; all_goals (with_reducible rfl)
                        try simp only [Act.put, List.setIfInBounds_toArray, List.set_cons_zero, List.set_cons_succ]
                        refine wpAnyH_ready (rs := [1]) (by kernel_rfl) (by simp) ?_
                        refine AllReadyH.cons (o := { dst := some 119, op := Op.call { callee := Callee.value (Operand.func 17), args := #[Operand.tmp 118], argTypes := #[31] }, type := 3, pos := "law.go:63", after := #[{ on := 0, ground := Ground.data }], guard := none }) rfl (fun K hK => ?_) AllReadyH.nil
                        go_simp
                        refine (len_any wo.heap.size _ A3 _ (N + L0 m) _ (hHt.at_.keep (Bw.refl w2).drew)).mono ?_
                        rintro e w' ⟨rfl, hw'⟩; subst w'
                        refine hK.out _ _ hHeld (fun hHeld => ?_)
                        clear hK K
                        try simp only [Act.put, List.setIfInBounds_toArray, List.set_cons_zero, List.set_cons_succ]
                        refine wpAnyH_take (i := 11) (oi := { dst := some 129, op := Op.binOp BinOp.neq 3 (Operand.tmp 119) (Operand.tmp 128) 3, type := 4, pos := "law.go:63", after := #[{ on := 1, ground := Ground.data }, { on := 10, ground := Ground.data }], guard := none }) (v := ?_) rfl (by kernel_rfl) (by kernel_rfl) (by kernel_rfl) (fun _ _ _ h => h) (Or.inl ⟨by rfl, ?_⟩) (by assumption) ?_
                        rotate_left
                        · intro w hSw; (try dsimp only at hSw); have hnn : (((N + L0 m : Nat) : Int) != ((N + L0 m : Nat) : Int)) = false := (by rw [bne_eq_false_iff_eq]); go_simp; all_goals (with_reducible rfl)
                        try simp only [Act.put, List.setIfInBounds_toArray, List.set_cons_zero, List.set_cons_succ]
                        refine wpAnyH_done (by kernel_rfl) ?_ _
                        go_wp2
                        go_roundw
                        case rel => exact ⟨m + 1, g, q, N, cv, Av, A2, G, by omega, rfl, rfl, rfl, by go_num, by go_num, by omega, hNs, by omega, hH2.keep (Bw.refl w2).drew, own_keep hown2 (Bw.refl w2).drew, hap, hbw2.drew⟩
                        case measure => simp [intOf]; omega
                      · skip
                        have u0 : (D0 m == 0) = false := by rw [beq_eq_false_iff_ne]; exact e0
                        have u1 : (D0 m == 1) = false := by rw [beq_eq_false_iff_ne]; exact e1
                        have u2 : (D0 m == 2) = false := by rw [beq_eq_false_iff_ne]; exact e2
                        have u3 : (D0 m == 3) = false := by rw [beq_eq_false_iff_ne]; exact e3
                        have u4 : (D0 m == 4) = false := by rw [beq_eq_false_iff_ne]; exact e4
                        clear e0 e1 e2 e3 e4
                        go_wp2
                        go_roundw
                        case rel => exact ⟨m + 1, g, q, N, cv, Av, A2, G, by omega, rfl, rfl, rfl, by go_num, by go_num, by omega, hNs, by omega, hH, hown, hap, hbw⟩
                        case measure => simp [intOf]; omega
            · have em : m = n := by omega
              subst em
              obtain ⟨Ar, cr, er, hler, -, hrr, -⟩ := row_of_own hH.bd hown.out
              cases er
              have hnilr := own_nil5 hown.out
              have t1 : ¬ (m : Int) < (m : Int) := by omega
              have hNN : ((N : Int) == (N : Int)) = true := by rw [beq_iff_eq]
              go_wp2_with (first
                | (go_at_call 17; refine (len_any g _ A2 _ N _ hH.at_).mono ?_; rintro e w' ⟨rfl, hw'⟩; subst w')
                | (go_at_call 16; refine (sum_any g G N A2 (by omega) _ hH hkr).mono ?_; rintro e w2 ⟨T, rfl, hTs, hT, hw2⟩; have hT32 : In32 T (Sha.dig (nbD G) N) := In32.mk hTs (Sha.dig_lt _ _) hT; clear hT hTs)
                | (go_at_call 11; refine (of_any Av N cv G (by omega) _ (hrr.keep hw2) hnilr).mono ?_; rintro e w3 ⟨U, rfl, hUs, hU, hw3⟩; have heq : ∀ W', (Op.equalIn 10000 23 (.agg T) (.agg U)).run Tryd.prog W' = .ok true W' := (fun W' => by rw [equal32 hT32 (In32.mk hUs (Sha.dig_lt _ _) hU) W', same32_rfl rfl]); clear hU hUs)
                | (go_at_call 9; refine (wakes_any _ ((hkr.keep hw2).keep hw3)).mono ?_; rintro e w4 ⟨rfl, hw4⟩))
              go_ret
              exact ⟨rfl, hbw.trans (hw2.trans (hw3.trans hw4))⟩

set_option maxRecDepth 100000 in
theorem lifted (os : Os) (started : os.Started) (H : Type) (enc : TypeId × Value → H) :
    ReturnsInHanded {} Tryd.checked os 4 .any (fun w args => (Rows.digestPlaysSpec.pre enc Tryd.prog Tryd.f4 [] false w args ∧ laidMetH Tryd.prog laidK w) ∧ sizedMet enc Tryd.prog Tryd.f4 (OpenSpec.ofChange Rows.digestPlaysSpec) false w args)
      (Rows.digestPlaysSpec.post enc Tryd.prog Tryd.f4 false true false false) := by
  refine returnsInHanded_of_change_and (C := Tryd.checked) (X := fun w _ => laidMetH Tryd.prog laidK w) (fun _ _ _ hh h => h.of_heap hh) own started (by kernel_rfl) Tryd.func4
    (ChangeSpec.witness_shaped (enc := enc) (C := Tryd.checked) (os := os) (X := fun w _ => laidMetH Tryd.prog laidK w) false (World.doorLaid Tryd.prog 400 os) #[.slice none 0 0] 8 rfl (World.shaped_of_RefB (by kernel_rfl) (by kernel_rfl)) (by kernel_rfl) (by kernel_rfl) (by kernel_rfl) (door_met os _)) ?_
  intro W base args ds gs before hval0 hW hcnd hsz0 hL _
  have hval : ∀ (j : Nat) t v, Tryd.f4.params[j]? = some t → args[j]? = some v → Value.okWide Tryd.prog W .any base t v := hval0
  have hW' := hW
  obtain ⟨p, q, hA0, hV, rfl, hfz, hnd⟩ := hW
  have hA : DataW.TrodAll enc Tryd.prog W 0 (fun _ => true) true Tryd.f4.params.toList args.toList ds p := hA0
  have hsz : (DataW.weightsEach Tryd.prog (Tryd.f4.params.toList ++ Rows.digestPlaysSpec.plain.varTypes Tryd.prog) (ds ++ gs)).all (· ≤ reachBytes) = true := hsz0
  have hkat := kat_of_laid hL
  rw [Tryd.params4] at hA hval hsz
  obtain ⟨v0, vs0, d0, ds0, p0, q0, hargs, rfl, rfl, h0, r0⟩ := trodAll_cons hA
  obtain ⟨rfl, rfl, rfl⟩ := trodAll_nil r0
  obtain rfl : args = #[v0] := by cases args; simp_all
  obtain ⟨rfl, rfl⟩ := trodVars_none hV
  obtain ⟨a0, len0, cap0, rfl⟩ := okWide_slice Tryd.underlying28 (hval 0 28 v0 rfl rfl)
  have k0 := h0
  have lt0 : ∀ x ∈ p0, x.block < W.heap.size := by obtain ⟨m, hm⟩ := k0; exact DataW.trod_lt m _ _ _ hm
  obtain ⟨D0, B0, L0, C0, F0, w0⟩ := open_acts h0 (fun x hx => by simpa using List.all_eq_true.1 hsz x (DataW.weights_mem_each (j := 0) (t := 28) rfl rfl x hx))
  clear hA0 hval0
  refine (walk a0 len0 cap0 D0 B0 L0 C0 F0 W hkat w0).mono fun e W' ⟨he, bel⟩ => ?_
  subst he
  exact ⟨_, rfl, _, _, _, [], _, [], hW', trodAll_mk1 (shut_bool Tryd.underlying4 _), (trodAll_cons_mk (Below.trod laidOut (by kernel_rfl) (of_decide_eq_true (by kernel_rfl)) k0 bel lt0) trodAll_mk0), rfl, bel.frame _, fun h => by cases h⟩

theorem over : Rows.digestPlaysRow.holds Tryd.pinned (OpenSpec.ofChange Rows.digestPlaysSpec) :=
  OpenClaim.holds_of_wide 4 Tryd.f4 rfl rfl rfl rfl rfl rfl rfl ⟨rfl, rfl, rfl, rfl, rfl⟩ rfl rfl rfl rfl rfl (by kernel_rfl) Tryd.func4 (by kernel_rfl)
    (of_decide_eq_true (by kernel_rfl)) (by unfold Func.isWrapper; first | (rw [if_pos (by decide +kernel)]; kernel_rfl) | (rw [if_neg (by decide +kernel)]; exact ⟨rfl, rfl⟩))
    (fun os started H enc _ => lifted os started H enc)

theorem proved : Rows.DigestPlaysCardSaid :=
  Claim7.holds_tied_plain_at .later [] [.data] true (true, "dfd591aa29c56175f19a07ad5d69340116d5ff8aa6883449b7bcc9a4d873338d") false
    over (fun _ h => by cases h) (by kernel_rfl) (fun _ h => by cases h) digestPlays_row_tie rfl ⟨rfl, rfl⟩ (by kernel_rfl) rfl
    (fun f fn hf hfn => by
      obtain rfl : f = 4 := Option.some.inj ((show Tryd.prog.funcNamed "tabulary/tabularylaw05.DigestPlays" = some 4 by kernel_rfl).symm.trans hf) |>.symm
      obtain rfl : fn = Tryd.f4 := (Option.some.inj (Tryd.func4.symm.trans hfn)).symm
      exact ⟨by kernel_rfl, fun j t ht => by
        rw [Tryd.params4] at ht
        have hm : t ∈ [28] := by simpa using Array.mem_of_getElem? ht
        have hall : ([28].all fun u => !Tryd.prog.wantsStandIn u) = true := by kernel_rfl
        exact (show Tryd.prog.wantsStandIn t = false by simpa using List.all_eq_true.1 hall t hm)⟩)
    (by kernel_rfl)
#print axioms proved
end Go.Proofs.YtcpapaceggnaoaaDoor.digestPlays
