/- Texts of mine, put together. -/
import Derived.Test.YtbhbdhkifkmkbaaB4
import Derived.Deep.Slices
import Derived.Laws.CopyOwn

set_option linter.unusedVariables false

/- Words of unlike data differ in many shards: the statement CodeFar, out of what Encode answers. -/
namespace Go.Proofs.Ytbhbdhkifkmkbaa
open Go.RowKit

/-- what is to be shown of the program's Encode -/
def EncSpec : Prop := ∀ (A : Option Addr) (k cap : Nat) (R : Nat → Option Addr) (L C : Nat → Nat) (Z : Nat → Nat → Int) (N : Int) (w : World), MatAt w A k R L C Z → k ≤ 140737488355328 →
  Calls Try.prog 14 #[.slice A k cap, .int .i64 N] w fun e w' => ∃ v x kk, e = .returned (.tuple #[v, .int .i64 x]) ∧ MatVal3 w' v kk (fun _ => L 0) (wordI k Z) ∧ EncSays k L N x kk ∧ Bw w w'
/-- .. and of the statements' wakes -/
def WakeSpec : Prop := ∀ w : World, Calls Try.prog 10 #[] w fun e w' => e = .returned (.bool true) ∧ Bw w w'

theorem enc_some (k : Nat) (L : Nat → Nat) (N : Int) : ∃ x kk, EncSays k L N x kk := by
  obtain ⟨x, hx⟩ := kn_some (k : Int) N
  by_cases h0 : x = 0
  · subst h0
    obtain ⟨y, hy⟩ := rows_some k L
    by_cases h1 : y = 0
    · subst h1
      have := kn_ok hx
      exact ⟨0, N.toNat, Or.inr (Or.inr ⟨hx, hy, rfl, by omega⟩)⟩
    · exact ⟨y, 0, Or.inr (Or.inl ⟨hx, hy, h1, rfl⟩)⟩
  · exact ⟨x, 0, Or.inl ⟨hx, h0, rfl⟩⟩
theorem encsays_ok {k kk : Nat} {L : Nat → Nat} {N : Int} (h : EncSays k L N 0 kk) : KnWrong (k : Int) N 0 ∧ RowsWrong k L 0 ∧ (kk : Int) = N := by
  rcases h with ⟨_, h, _⟩ | ⟨_, _, h, _⟩ | ⟨a, b, _, d⟩
  · exact absurd rfl h
  · exact absurd rfl h
  · exact ⟨a, b, d⟩

theorem rsame_q (A B : Option Addr) (n m ca cb : Nat) (R S : Nat → Option Addr) (L C M D : Nat → Nat) (Z Y : Nat → Nat → Int) (hn : n ≤ 9223372036854775807) (w : World) (ha : MatAt w A n R L C Z) (hb : MatAt w B m S M D Y) (b : Bool) (h : b = true ↔ SameM n m L M Z Y) :
    Calls Try.prog 15 #[.slice A n ca, .slice B m cb] w fun e w' => e = .returned (.bool b) ∧ ∃ q, w' = w.drewN q := by
  refine (rsame_quiet A B n m ca cb R S L C M D Z Y hn w ha hb).mono ?_
  rintro e w' ⟨x, rfl, hx, hq⟩
  obtain rfl : x = b := by
    cases x <;> cases b
    · rfl
    · exact absurd (hx.2 (h.1 rfl)) (by decide)
    · exact absurd (h.2 (hx.1 rfl)) (by decide)
    · rfl
  exact ⟨rfl, hq⟩

theorem far_great (hwk : WakeSpec) (A B : Option Addr) (n m ca cb : Nat) (R S : Nat → Option Addr) (L C M E : Nat → Nat) (Z Y : Nat → Nat → Int) (N : Int) (w : World) (ha : InMat w A n ca R L C Z) (hb : InMat w B m cb S M E Y)
    (hg : great3 n L = true ∨ (great3 n L = false ∧ great3 m M = true)) :
    Calls Try.prog 7 #[.slice A n ca, .slice B m cb, .int .i64 N] w fun e w' => e = .returned (.bool true) ∧ Bw w w' := by
  have a1 := ha.le
  have a2 := ha.room
  have b1 := hb.le
  have b2 := hb.room
  have al : ∀ r, r < n → L r ≤ 140737488355328 := fun r hr => by have := ha.rows r hr; omega
  have bl : ∀ r, r < m → M r ≤ 140737488355328 := fun r hr => by have := hb.rows r hr; omega
  have AL : Hid (∀ r, r < n → L r ≤ 140737488355328) := al
  have BL : Hid (∀ r, r < m → M r ≤ 140737488355328) := bl
  clear al bl
  rcases hg with h1 | ⟨h1, h2⟩
  · go_enter Try.func7, Try.ntmps7
    go_wp2_with (first
      | (go_at_call 9; refine (great3_any A n ca R L C Z AL.out (by omega) _ ha.mat).mono ?_; rintro e w' ⟨rfl, hw'⟩; subst w'; rw [h1])
      | (go_at_call 10; refine (hwk _).mono ?_; rintro e w1 ⟨rfl, hw1⟩))
    go_ret
    exact ⟨rfl, hw1⟩
  · go_enter Try.func7, Try.ntmps7
    go_wp2_with (first
      | (go_at_call_of 9 (Value.slice A n ca); refine (great3_any A n ca R L C Z AL.out (by omega) _ ha.mat).mono ?_; rintro e w' ⟨rfl, hw'⟩; subst w'; rw [h1])
      | (go_at_call_of 9 (Value.slice B m cb); refine (great3_any B m cb S M E Y BL.out (by omega) _ hb.mat).mono ?_; rintro e w' ⟨rfl, hw'⟩; subst w'; rw [h2])
      | (go_at_call 10; refine (hwk _).mono ?_; rintro e w1 ⟨rfl, hw1⟩))
    go_ret
    exact ⟨rfl, hw1⟩

set_option maxRecDepth 100000 in
set_option maxHeartbeats 2000000 in
theorem far_err (henc : EncSpec) (hwk : WakeSpec) (A B : Option Addr) (n m ca cb : Nat) (R S : Nat → Option Addr) (L C M E : Nat → Nat) (Z Y : Nat → Nat → Int) (N : Int) (w : World) (ha : InMat w A n ca R L C Z) (hb : InMat w B m cb S M E Y)
    (h1 : great3 n L = false) (h2 : great3 m M = false) (x y : Int) (k1 k2 : Nat) (hx : EncSays n L N x k1) (hy : EncSays m M N y k2)
    (hc : (x != 0) = true ∨ ((x != 0) = false ∧ (y != 0) = true) ∨ ((x != 0) = false ∧ (y != 0) = false ∧ ((n : Int) != (m : Int)) = true)) :
    Calls Try.prog 7 #[.slice A n ca, .slice B m cb, .int .i64 N] w fun e w' => e = .returned (.bool true) ∧ Bw w w' := by
  have hn := (great3_no h1).1
  have hm := (great3_no h2).1
  have AL : Hid (∀ r, r < n → L r ≤ 140737488355328) := fun r hr => by have := (great3_no h1).2 r hr; omega
  have BL : Hid (∀ r, r < m → M r ≤ 140737488355328) := fun r hr => by have := (great3_no h2).2 r hr; omega
  rcases hc with c1 | ⟨c1, c2⟩ | ⟨c1, c2, c3⟩
  all_goals
    go_enter Try.func7, Try.ntmps7
    go_wp2_with (first
      | (go_at_call_of 9 (Value.slice A n ca); refine (great3_any A n ca R L C Z AL.out (by omega) _ ha.mat).mono ?_; rintro e w' ⟨rfl, hw'⟩; subst w'; rw [h1])
      | (go_at_call_of 9 (Value.slice B m cb); refine (great3_any B m cb S M E Y BL.out (by omega) _ hb.mat).mono ?_; rintro e w' ⟨rfl, hw'⟩; subst w'; rw [h2])
      | (go_at_call_of 14 (Value.slice A n ca); refine (henc A n ca R L C Z N _ ha.mat (by omega)).mono ?_; rintro e w1 ⟨v, x', kk, rfl, hv1, hs, hw1⟩; obtain ⟨e1, -⟩ := encsays_unique hx hs; subst e1; have hb1 := hb.mat.keep hw1; clear hs)
      | (go_at_call_of 14 (Value.slice B m cb); refine (henc B m cb S M E Y N _ hb1 (by omega)).mono ?_; rintro e w2 ⟨v2, y', kk2, rfl, hv2, hs, hw2⟩; obtain ⟨e1, -⟩ := encsays_unique hy hs; subst e1; clear hs))
    go_quiet (fail)
    go_wp2_with (go_at_call 10; refine (hwk _).mono ?_; rintro e w3 ⟨rfl, hw3⟩)
    go_ret
    exact ⟨rfl, hw1.trans (hw2.trans ((Bw.drewN _ _).trans hw3))⟩

/-- two data of one shape: their words differ enough -/
theorem far_math {k n q : Nat} {Z Y : Nat → Nat → Int} (hk : k ≤ 32) (hn : n ≤ 32) (hkn : k ≤ n) (hZ : ∀ r, r < k → ∀ c, 0 ≤ Z r c ∧ Z r c < 256) (hY : ∀ r, r < k → ∀ c, 0 ≤ Y r c ∧ Y r c < 256) (hne : ¬ ∀ r, r < k → ∀ c, c < q → Z r c = Y r c)
    (like : Nat → Bool) (hl : ∀ i, i < n → like i = true → ∀ c, c < q → wordI k Z i c = wordI k Y i c) : n - k + 1 ≤ cntB (fun i => !like i) n := by
  have ⟨r, hr, c, hc, h⟩ : ∃ r, r < k ∧ ∃ c, c < q ∧ Z r c ≠ Y r c := Classical.byContradiction fun e => hne fun r hr c hc => Classical.byContradiction fun h => e ⟨r, hr, c, hc, h⟩
  have h1 := word_far (k := k) (n := n) (c := c) (by omega) (by omega) (fun j hj => hZ j hj c) (fun j hj => hY j hj c) hr h like (fun i hi h2 => hl i hi h2 c hc)
  have h2 := cntB_not like n
  omega

attribute [local go_sem] List.getElem?_cons_zero Option.getD_some

set_option maxRecDepth 100000 in
set_option maxHeartbeats 4000000 in
theorem far_main (henc : EncSpec) (hwk : WakeSpec) (A B : Option Addr) (k ca cb : Nat) (R S : Nat → Option Addr) (L C M E : Nat → Nat) (Z Y : Nat → Nat → Int) (n : Nat) (w : World) (ha : InMat w A k ca R L C Z) (hb : InMat w B k cb S M E Y)
    (h1 : great3 k L = false) (h2 : great3 k M = false) (hx : EncSays k L (n : Int) 0 n) (hy : EncSays k M (n : Int) 0 n)
    (hc : ((L 0 : Int) != (M 0 : Int)) = true ∨ (((L 0 : Int) != (M 0 : Int)) = false ∧ SameM k k L M Z Y) ∨ (L 0 = M 0 ∧ ¬ SameM k k L M Z Y)) :
    Calls Try.prog 7 #[.slice A k ca, .slice B k cb, .int .i64 (n : Int)] w fun e w' => e = .returned (.bool true) ∧ Bw w w' := by
  have hk := (great3_no h1).1
  have AL : Hid (∀ r, r < k → L r ≤ 140737488355328) := fun r hr => by have := (great3_no h1).2 r hr; omega
  have BL : Hid (∀ r, r < k → M r ≤ 140737488355328) := fun r hr => by have := (great3_no h2).2 r hr; omega
  obtain ⟨hkn, hra, -⟩ := encsays_ok hx
  obtain ⟨-, hrb, -⟩ := encsays_ok hy
  obtain ⟨n1, n2, n3⟩ := kn_ok hkn
  have c3 : ((k : Int) != (k : Int)) = false := by simp
  have c4 : ((n : Int) != (n : Int)) = false := by simp
  have k0 : (0 : Int) < (k : Int) := by omega
  obtain ⟨b1, o1, rfl, hc1⟩ := ha.mat.at (k := 0) (by omega)
  obtain ⟨b2, o2, rfl, hc2⟩ := hb.mat.at (k := 0) (by omega)
  have g1 := hc1 0 (by omega)
  have g2 := hc2 0 (by omega)
  rw [Nat.add_zero] at g1 g2
  have am := ha.mat
  have bm := hb.mat
  clear hc1 hc2 ha hb
  rcases hc with d1 | ⟨d1, d2⟩ | ⟨d1, d2⟩
  · go_enter Try.func7, Try.ntmps7
    go_wp2_with (first
      | (go_at_call_of 9 ca; refine (great3_any _ k ca R L C Z AL.out (by omega) _ am).mono ?_; rintro e w' ⟨rfl, hw'⟩; subst w'; rw [h1])
      | (go_at_call_of 9 cb; refine (great3_any _ k cb S M E Y BL.out (by omega) _ bm).mono ?_; rintro e w' ⟨rfl, hw'⟩; subst w'; rw [h2])
      | (go_at_call_of 14 ca; refine (henc _ k ca R L C Z n _ am (by omega)).mono ?_; rintro e w1 ⟨v, x', kk, rfl, hv1, hs, hw1⟩; obtain ⟨e1, -⟩ := encsays_unique hx hs; subst e1; have bm1 := bm.keep hw1; clear hs)
      | (go_at_call_of 14 cb; refine (henc _ k cb S M E Y n _ bm1 (by omega)).mono ?_; rintro e w2 ⟨v2, y', kk2, rfl, hv2, hs, hw2⟩; obtain ⟨e1, -⟩ := encsays_unique hy hs; subst e1; clear hs; have g1' := cell_bw (hw1.trans hw2) g1; have g2' := cell_bw (hw1.trans hw2) g2))
    go_quiet (fail)
    go_wp2_with (go_at_call 10; refine (hwk _).mono ?_; rintro e w3 ⟨rfl, hw3⟩)
    go_ret
    exact ⟨rfl, hw1.trans (hw2.trans ((Bw.drewN _ _).trans hw3))⟩
  · go_enter Try.func7, Try.ntmps7
    go_wp2_with (first
      | (go_at_call_of 9 ca; refine (great3_any _ k ca R L C Z AL.out (by omega) _ am).mono ?_; rintro e w' ⟨rfl, hw'⟩; subst w'; rw [h1])
      | (go_at_call_of 9 cb; refine (great3_any _ k cb S M E Y BL.out (by omega) _ bm).mono ?_; rintro e w' ⟨rfl, hw'⟩; subst w'; rw [h2])
      | (go_at_call_of 14 ca; refine (henc _ k ca R L C Z n _ am (by omega)).mono ?_; rintro e w1 ⟨v, x', kk, rfl, hv1, hs, hw1⟩; obtain ⟨e1, e2⟩ := encsays_unique hx hs; subst e1; subst e2; obtain ⟨X, xc, RX, CX, rfl, hX⟩ := hv1; have bm1 := bm.keep hw1; clear hs)
      | (go_at_call_of 14 cb; refine (henc _ k cb S M E Y n _ bm1 (by omega)).mono ?_; rintro e w2 ⟨v2, y', kk2, rfl, hv2, hs, hw2⟩; obtain ⟨e1, e2⟩ := encsays_unique hy hs; subst e1; subst e2; obtain ⟨U, uc, RU, CU, rfl, hU⟩ := hv2; clear hs; have g1' := cell_bw (hw1.trans hw2) g1; have g2' := cell_bw (hw1.trans hw2) g2; have am2 := am.keep (hw1.trans hw2); have bm2 := bm1.keep hw2; have hX2 := hX.keep hw2))
    go_quiet ((go_at_call 15; exact Calls.quiet_of (rsame_q _ _ k k _ _ R S L C M E Z Y (by omega) _ (am2.keep (Bw.drewN _ _)) (bm2.keep (Bw.drewN _ _)) true ⟨fun _ => d2, fun _ => rfl⟩)))
    go_wp2_with (go_at_call 10; refine (hwk _).mono ?_; rintro e w3 ⟨rfl, hw3⟩)
    go_ret
    exact ⟨rfl, hw1.trans (hw2.trans ((Bw.drewN _ _).trans hw3))⟩
  · have d1' : ((L 0 : Int) != (M 0 : Int)) = false := by rw [d1]; simp
    have hne : ¬ ∀ r, r < k → ∀ c, c < L 0 → Z r c = Y r c := fun h => d2 ⟨rfl, fun r hr => ⟨by rw [(rows_ok hra).2 r hr, (rows_ok hrb).2 r hr, d1], fun i hi => h r hr i (by rw [(rows_ok hra).2 r hr] at hi; exact hi)⟩⟩
    have hfar : Hid (n - k + 1 ≤ cntB (fun i => !((str (wordI k Z i) (L 0)).toList == (str (wordI k Y i) (L 0)).toList)) n) := far_math (q := L 0) (by omega) (by omega) (by omega) (fun r hr => (am.2 r hr).2) (fun r hr => (bm.2 r hr).2) hne (fun i => ((str (wordI k Z i) (L 0)).toList == (str (wordI k Y i) (L 0)).toList)) (fun i _ h c hc => ((str_inj (fun c => wordI_bd k Z i c) (fun c => wordI_bd k Y i c)).1 (by simpa using h)).2 c hc)
    generalize hun : (fun i => !((str (wordI k Z i) (L 0)).toList == (str (wordI k Y i) (L 0)).toList)) = un at hfar
    have HU : Hid (∀ i, un i = !((str (wordI k Z i) (L 0)).toList == (str (wordI k Y i) (L 0)).toList)) := fun i => by rw [← hun]
    have HD : Hid (L 0 = M 0) := d1
    clear hun hne d1
    go_enter Try.func7, Try.ntmps7
    go_wp2_with (first
      | (go_at_call_of 9 ca; refine (great3_any _ k ca R L C Z AL.out (by omega) _ am).mono ?_; rintro e w' ⟨rfl, hw'⟩; subst w'; rw [h1])
      | (go_at_call_of 9 cb; refine (great3_any _ k cb S M E Y BL.out (by omega) _ bm).mono ?_; rintro e w' ⟨rfl, hw'⟩; subst w'; rw [h2])
      | (go_at_call_of 14 ca; refine (henc _ k ca R L C Z n _ am (by omega)).mono ?_; rintro e w1 ⟨v, x', kk, rfl, hv1, hs, hw1⟩; obtain ⟨e1, e2⟩ := encsays_unique hx hs; subst e1; subst e2; obtain ⟨X, xc, RX, CX, rfl, hX⟩ := hv1; have bm1 := bm.keep hw1; clear hs)
      | (go_at_call_of 14 cb; refine (henc _ k cb S M E Y n _ bm1 (by omega)).mono ?_; rintro e w2 ⟨v2, y', kk2, rfl, hv2, hs, hw2⟩; obtain ⟨e1, e2⟩ := encsays_unique hy hs; subst e1; subst e2; obtain ⟨U, uc, RU, CU, rfl, hU⟩ := hv2; clear hs; have g1' := cell_bw (hw1.trans hw2) g1; have g2' := cell_bw (hw1.trans hw2) g2; have am2 := am.keep (hw1.trans hw2); have bm2 := bm1.keep hw2; have hX2 := hX.keep hw2))
    go_quiet ((go_at_call 15; exact Calls.quiet_of (rsame_q _ _ k k _ _ R S L C M E Z Y (by omega) _ (am2.keep (Bw.drewN _ _)) (bm2.keep (Bw.drewN _ _)) false ⟨fun h => (by cases h), fun h => absurd h d2⟩)))
    go_wp2
    go_loopw [11, 12] (fun u i wr => ∃ t : Nat, t ≤ n ∧ i = .int .i64 t ∧ u = .int .i64 (cntB un t : Int) ∧ ∃ p, wr = w2.drewN p) (fun _ i _ => n - (intOf i).toNat)
    case atStart => exact ⟨0, Nat.zero_le _, rfl, rfl, nq, rfl⟩
    case round =>
      obtain ⟨t, ht, rfl, rfl, p0, rfl⟩ := hrel
      by_cases hlt : t < n
      · obtain ⟨b3, o3, rfl, hc3⟩ := hX2.at hlt
        obtain ⟨b4, o4, rfl, hc4⟩ := hU.at hlt
        have i3 : w2.cell? ⟨b3, o3 + t, none⟩ = some (.slice (RX t) (L 0) (CX t)) := hc3 t hlt
        have i4 : w2.cell? ⟨b4, o4 + t, none⟩ = some (.slice (RU t) (M 0) (CU t)) := hc4 t hlt
        have r3 := hX2.2 t hlt
        have r4 := hU.2 t hlt
        have hcb := cntB_le un t
        have cv3 : ∀ q, (convert 37 9 (.slice (RX t) (L 0) (CX t))).run Try.prog (w2.drewN q) = .ok (.string (str (wordI k Z t) (L 0))) (w2.drewN q) := fun q => conv_row (r3.keep (Bw.drewN _ q))
        have cv4 : ∀ q, (convert 37 9 (.slice (RU t) (M 0) (CU t))).run Try.prog (w2.drewN q) = .ok (.string (str (wordI k Y t) (M 0))) (w2.drewN q) := fun q => conv_row (r4.keep (Bw.drewN _ q))
        have t0 : (0 : Int) ≤ (t : Int) := Int.natCast_nonneg _
        have t1 : (t : Int) < (n : Int) := by omega
        rw [← HD.out] at i4 cv4
        have hut := HU.out t
        clear hc3 hc4 r3 r4
        by_cases he : (str (wordI k Z t) (L 0)).toList = (str (wordI k Y t) (L 0)).toList
        · have he2 : ((str (wordI k Z t) (L 0)).toList == (str (wordI k Y t) (L 0)).toList) = true := by simpa using he
          have hs : Hid (cntB un (t + 1) = cntB un t) := show cntB un t + (if un t then 1 else 0) = cntB un t by rw [hut, he2]; rfl
          clear hut he
          go_wp2
          go_quiet (fail)
          go_wp2
          go_roundw
          case rel => exact ⟨t + 1, by omega, by go_num, by rw [hs.out], by first | exact ⟨_, World.drewN_drewN _ _ _⟩ | exact ⟨_, rfl⟩⟩
          case measure => simp [intOf]; omega
        · have he2 : ((str (wordI k Z t) (L 0)).toList == (str (wordI k Y t) (L 0)).toList) = false := by simpa using he
          have hs : Hid (cntB un (t + 1) = cntB un t + 1) := show cntB un t + (if un t then 1 else 0) = cntB un t + 1 by rw [hut, he2]; rfl
          clear hut he
          go_wp2
          go_quiet (fail)
          go_wp2
          go_roundw
          case rel => exact ⟨t + 1, by omega, by go_num, by rw [hs.out]; go_num, by first | exact ⟨_, World.drewN_drewN _ _ _⟩ | exact ⟨_, rfl⟩⟩
          case measure => simp [intOf]; omega
      · have ek : n = t := by omega
        subst ek
        have hf := hfar.out
        have hf2 : (n : Int) - (k : Int) + 1 ≤ (cntB un n : Int) := by omega
        go_wp2_with (go_at_call 10; refine (hwk _).mono ?_; rintro e w3 ⟨rfl, hw3⟩)
        go_ret
        exact ⟨rfl, hw1.trans (hw2.trans ((Bw.drewN _ _).trans hw3))⟩

end Go.Proofs.Ytbhbdhkifkmkbaa

/- Contracts of the program's own calls that multiply by one number. -/
namespace Go.Proofs.Ytbhbdhkifkmkbaa
open Go.RowKit

/-- the blocks of S alone may have turned, and new ones may have come -/
structure Bx (S : Nat → Prop) (w w' : World) : Prop where
  os : w'.os = w.os
  tape : w'.tape = w.tape
  output : w'.output = w.output
  size : w.heap.size ≤ w'.heap.size
  block : ∀ b, b < w.heap.size → ¬ S b → w'.heap[b]? = w.heap[b]?

theorem Bx.of_bw {S : Nat → Prop} {w w' : World} (h : Bw w w') : Bx S w w' := ⟨h.os, h.tape, h.output, h.size, fun b hb _ => h.block b hb⟩
theorem Bx.refl (S : Nat → Prop) (w : World) : Bx S w w := ⟨rfl, rfl, rfl, Nat.le_refl _, fun _ _ _ => rfl⟩
theorem Bx.trans {S : Nat → Prop} {a b c : World} (h : Bx S a b) (k : Bx S b c) : Bx S a c :=
  ⟨k.os.trans h.os, k.tape.trans h.tape, k.output.trans h.output, Nat.le_trans h.size k.size, fun x hx hs => (k.block x (Nat.lt_of_lt_of_le hx h.size) hs).trans (h.block x hx hs)⟩
theorem Bx.more {S T : Nat → Prop} {w w' : World} (h : Bx S w w') (k : ∀ b, S b → T b) : Bx T w w' := ⟨h.os, h.tape, h.output, h.size, fun b hb hs => h.block b hb (fun e => hs (k b e))⟩
/-- what turned alone lies from lo on: what was below lo stays -/
theorem Bx.below {S : Nat → Prop} {lo : Nat} {w w' : World} (h : Bx S w w') (hlo : lo ≤ w.heap.size) (k : ∀ b, S b → lo ≤ b) : Below lo w w' :=
  ⟨h.os, h.tape, h.output, h.size, fun b hb => h.block b (Nat.lt_of_lt_of_le hb hlo) (fun e => by have := k b e; omega)⟩
theorem Bx.put {S : Nat → Prop} {w w' : World} (h : Bx S w w') {g j : Nat} {v : Value} (hg : S g) : Bx S w (w'.setCell ⟨g, j, none⟩ v) :=
  ⟨h.os, h.tape, h.output, by have := h.size; simp only [World.size_setCell]; exact this, fun b hb hs => (heap_setCell_other w' ⟨g, j, none⟩ b v (fun e => hs (by simp only at e; rw [e]; exact hg))).trans (h.block b hb hs)⟩
theorem Bx.drew {S : Nat → Prop} {w w' : World} (h : Bx S w w') : Bx S w w'.drew := ⟨h.os, h.tape, h.output, h.size, h.block⟩

theorem RowAt.keepx {S : Nat → Prop} {w w' : World} {A : Option Addr} {L : Nat} {f : Nat → Int} (h : RowAt w A L f) (k : Bx S w w') (hA : ∀ b o, A = some ⟨b, o, none⟩ → 0 < L → ¬ S b) : RowAt w' A L f := by
  refine ⟨?_, h.2⟩
  rcases h.1 with h0 | ⟨b, off, e, hc⟩
  · exact Or.inl h0
  · by_cases h0 : L = 0
    · exact Or.inl h0
    · refine Or.inr ⟨b, off, e, fun i hi => ?_⟩
      have h1 := hc i hi
      rw [World.cell?_of_block (w := w) (k.block b (block_lt_of_cell h1) (hA b off e (by omega)))]
      exact h1

/-- a call that multiplies by c -/
def FnMul (w : World) (f : Value) (g : Nat) (c : Int) : Prop :=
  (f = .func (.func 59) #[] #[.pointer (some ⟨g, 0, none⟩)] ∧ w.heap[g]? = some (.cells #[.int .u8 c] 5 (0, 0))) ∨
  (f = .func (.func 60) #[] #[.pointer (some ⟨g, 0, none⟩)] ∧ ∃ cur, w.heap[g]? = some (.cells cur 79 (0, 0)) ∧ ∀ b : Nat, b < 256 → cur[b]? = some (.int .u8 (mulI c (b : Int))))

theorem fn1_any (c b : Int) (g : Nat) (c0 : 0 ≤ c) (c1 : c < 256) (b0 : 0 ≤ b) (b1 : b < 256) (w : World) (h : w.heap[g]? = some (.cells #[.int .u8 c] 5 (0, 0))) :
    Calls Try.prog 59 #[.int .u8 b, .pointer (some ⟨g, 0, none⟩)] w fun e w' => e = .returned (.int .u8 (mulI c b)) ∧ w' = w := by
  have hc := cell_of_one h
  go_enter Try.func59, Try.ntmps59
  go_wp2_with (go_at_call 38; refine (mul_any _ _ (by omega) (by omega) (by omega) (by omega) _).mono ?_; rintro e w' ⟨rfl, rfl⟩)
  go_ret
  exact ⟨rfl, rfl⟩

theorem fn2_any (c b : Int) (g : Nat) (b0 : 0 ≤ b) (b1 : b < 256) (w : World) (cur : Array Value) (h : w.heap[g]? = some (.cells cur 79 (0, 0))) (hc : ∀ b : Nat, b < 256 → cur[b]? = some (.int .u8 (mulI c (b : Int)))) :
    Calls Try.prog 60 #[.int .u8 b, .pointer (some ⟨g, 0, none⟩)] w fun e w' => e = .returned (.int .u8 (mulI c b)) ∧ w' = w := by
  obtain ⟨k, rfl⟩ := Int.eq_ofNat_of_zero_le b0
  have hx : w.cell? ⟨g, k, none⟩ = some (.int .u8 (mulI c (k : Int))) := (cell_of_row w g k cur _ _ h).trans (hc k (by omega))
  go_enter Try.func60, Try.ntmps60
  go_wp2
  go_ret
  exact ⟨rfl, rfl⟩

theorem fnz (w : World) : (zeroValue 79).run Try.prog w = .ok (.agg (Array.replicate 256 (.int .u8 0))) w := by kernel_rfl

set_option maxRecDepth 100000 in
theorem times_any (c n : Int) (c0 : 0 ≤ c) (c1 : c < 256) (w : World) :
    Calls Try.prog 54 #[.int .u8 c, .int .i64 n] w fun e w' => ∃ f g, e = .returned f ∧ FnMul w' f g c ∧ w.heap.size ≤ g ∧ Bw w w' := by
  have hz := fnz
  by_cases hn : n ≤ 256
  · go_enter Try.func54, Try.ntmps54
    go_wp2
    go_ret
    exact ⟨_, _, rfl, Or.inl ⟨rfl, heap_alloc_new _ _⟩, Nat.le_refl _, (Below.refl _ _).alloc (Nat.le_refl _) _⟩
  · go_enter Try.func54, Try.ntmps54
    go_wp2
    go_loopw [10] (fun i wr => ∃ k : Nat, k ≤ 256 ∧ i = .int .i64 k ∧ wr.heap[w.heap.size]? = some (.cells #[.int .u8 c] 5 (0, 0)) ∧ (∃ cur, wr.heap[w.heap.size + 1]? = some (.cells cur 79 (0, 0)) ∧ cur.size = 256 ∧ ∀ b : Nat, b < k → cur[b]? = some (.int .u8 (mulI c (b : Int)))) ∧ Bw w wr) (fun i _ => 256 - (intOf i).toNat)
    case atStart => exact ⟨0, Nat.zero_le _, rfl, heap_alloc2_old _ _ _, ⟨_, heap_alloc2_new _ _ _, by simp, fun b hb => by omega⟩, ((Below.refl _ _).alloc (Nat.le_refl _) _).alloc (by rw [size_alloc]; omega) _⟩
    case round =>
      obtain ⟨k, hk, rfl, hc, ⟨cur, hcur, hs, hv⟩, hb⟩ := hrel
      have cc := cell_of_one hc
      by_cases hlt : k < 256
      · obtain ⟨v1, hv1⟩ : ∃ v, cur[k]? = some v := ⟨_, Array.getElem?_eq_getElem (by omega)⟩
        have hx : wr.cell? ⟨w.heap.size + 1, k, none⟩ = some v1 := (cell_of_row wr (w.heap.size + 1) k cur _ _ hcur).trans hv1
        have hf : wr.frozen? ⟨w.heap.size + 1, k, none⟩ = false := frozen_of_row wr (w.heap.size + 1) k cur _ hcur
        go_wp2_with (go_at_call 38; refine (mul_any _ _ (by omega) (by omega) (by omega) (by omega) _).mono ?_; rintro e w' ⟨rfl, hw'⟩; subst w')
        go_roundw
        case rel =>
          refine ⟨k + 1, by omega, by go_num, (heap_setCell_other wr _ _ _ (by simp only; omega)).trans hc, ⟨_, heap_setCell_same wr _ k cur _ _ hcur, by simpa using hs, fun b hb' => ?_⟩, Bw.put hb (by omega) _ _⟩
          by_cases e : b = k
          · subst e; rw [Array.getElem?_setIfInBounds_self_of_lt (by omega)]
          · rw [Array.getElem?_setIfInBounds_ne (Ne.symm e), hv b (by omega)]
        case measure => simp [intOf]; omega
      · have e8 : k = 256 := by omega
        subst e8
        go_wp2
        go_ret
        exact ⟨_, _, rfl, Or.inr ⟨rfl, cur, hcur, hv⟩, by omega, hb⟩

end Go.Proofs.Ytbhbdhkifkmkbaa

/- Contracts of the program's own add and scale: a row of a work space turned in its place. -/
namespace Go.Proofs.Ytbhbdhkifkmkbaa
open Go.RowKit

attribute [local go_sem ↓] Go.wp_at_zero Go.wp_at_succ

/-- a block with a row's multiple added at o -/
def addF (F : Nat → Int) (o n : Nat) (c : Int) (f : Nat → Int) (k : Nat) : Int := if o ≤ k ∧ k < o + n then addI (F k) (mulI c (f (k - o))) else F k
/-- a block with a row multiplied at o -/
def sclF (F : Nat → Int) (o n : Nat) (c : Int) (k : Nat) : Int := if o ≤ k ∧ k < o + n then mulI c (F k) else F k

theorem mulI_zero (x : Int) (x0 : 0 ≤ x) (x1 : x < 256) : mulI 0 x = 0 := by
  apply fi_inj (mulI_bd 0 x (by omega)) (by omega)
  rw [fi_mul (by omega) ⟨x0, x1⟩, fi_zero, La.zero_mul]
theorem addI_zero (x : Int) (x0 : 0 ≤ x) (x1 : x < 256) : addI x 0 = x := by
  apply fi_inj (addI_bd x 0 x1 (by omega)) ⟨x0, x1⟩
  rw [fi_add ⟨x0, x1⟩ (by omega), fi_zero, La.add_zero]

theorem FnMul.keepx {S : Nat → Prop} {w w' : World} {f : Value} {g : Nat} {c : Int} (h : FnMul w f g c) (k : Bx S w w') (hg : ¬ S g) : FnMul w' f g c := by
  rcases h with ⟨h1, h2⟩ | ⟨h1, cur, h2, h3⟩
  · exact Or.inl ⟨h1, (k.block g (Array.getElem?_eq_some_iff.1 h2).1 hg).trans h2⟩
  · exact Or.inr ⟨h1, cur, (k.block g (Array.getElem?_eq_some_iff.1 h2).1 hg).trans h2, h3⟩

theorem cell_other' {w : World} {a b : Addr} {v : Value} (h : a ≠ b) : (w.setCell a v).cell? b = w.cell? b := by
  first | exact World.cell?_setCell_other h | exact World.cell?_setCell_other w h | exact World.cell?_setCell_other w a v h | exact World.cell?_setCell_other w a b v h | exact World.cell?_setCell_other _ _ _ _ h

theorem RowAt.put {w : World} {A : Option Addr} {n : Nat} {f : Nat → Int} (h : RowAt w A n f) {g o k : Nat} {v : Value} (hk : k < n) (hd : ∀ a, A = some a → a.block ≠ g ∨ a.off + n ≤ o ∨ o + n ≤ a.off) : RowAt (w.setCell ⟨g, o + k, none⟩ v) A n f := by
  refine ⟨?_, h.2⟩
  rcases h.1 with h0 | ⟨b, off, e, hc⟩
  · exact Or.inl h0
  · refine Or.inr ⟨b, off, e, fun i hi => ?_⟩
    have h1 := hd _ e
    simp only at h1
    exact (cell_other' (fun e => by simp only [Addr.mk.injEq] at e; omega)).trans (hc i hi)

theorem RowAt.drew {w : World} {A : Option Addr} {n : Nat} {f : Nat → Int} (h : RowAt w A n f) : RowAt w.drew A n f := h
theorem BlockIs.drew {w : World} {g n : Nat} {f : Nat → Int} (h : BlockIs w g n f) : BlockIs w.drew g n f := h
theorem FnMul.drew {w : World} {f : Value} {g : Nat} {c : Int} (h : FnMul w f g c) : FnMul w.drew f g c := h

theorem addF_bd {F : Nat → Int} {o n : Nat} {c : Int} {f : Nat → Int} (hF : ∀ i, 0 ≤ F i ∧ F i < 256) (c1 : c < 256) (k : Nat) : 0 ≤ addF F o n c f k ∧ addF F o n c f k < 256 := by
  unfold addF; split
  · exact addI_bd _ _ (hF k).2 (mulI_bd _ _ c1).2
  · exact hF k
theorem sclF_bd {F : Nat → Int} {o n : Nat} {c : Int} (hF : ∀ i, 0 ≤ F i ∧ F i < 256) (c1 : c < 256) (k : Nat) : 0 ≤ sclF F o n c k ∧ sclF F o n c k < 256 := by
  unfold sclF; split
  · exact mulI_bd _ _ c1
  · exact hF k

set_option maxRecDepth 100000 in
theorem add_any' (g o n N cap cb : Nat) (F f : Nat → Int) (B : Option Addr) (c : Int) (c0 : 0 ≤ c) (c1 : c < 256) (w : World) (hb : BlockIs w g N F) (hN : o + n ≤ N) (hn : n ≤ 1048576) (hF : ∀ i, 0 ≤ F i ∧ F i < 256)
    (hB : RowAt w B n f) (hd : ∀ a, B = some a → a.block ≠ g ∨ a.off + n ≤ o ∨ o + n ≤ a.off) :
    Calls Try.prog 43 #[.slice (some ⟨g, o, none⟩) n cap, .slice B n cb, .int .u8 c] w fun e w' => e = .returned (.tuple #[]) ∧ BlockIs w' g N (addF F o n c f) ∧ Bx (· = g) w w' := by
  by_cases hc : c = 0
  · subst hc
    go_enter Try.func43, Try.ntmps43
    go_wp2
    refine bodyPost_ret (results_none rfl _ _ _) rfl ?_
    refine ⟨rfl, hb.congr (fun k hk => ?_), Bx.refl _ _⟩
    unfold addF; split
    · rw [mulI_zero _ (hB.2 _).1 (hB.2 _).2, addI_zero _ (hF k).1 (hF k).2]
    · rfl
  · have hcb : (c == 0) = false := by simpa using hc
    go_enter Try.func43, Try.ntmps43
    go_wp2_with (go_at_call 54; refine (times_any _ _ (by omega) (by omega) _).mono ?_; rintro e w1 ⟨fv, gf, rfl, hfn, hgf, hb1⟩)
    go_loopw [17] (fun i wr => ∃ k : Nat, k ≤ n ∧ i = .int .i64 k ∧ BlockIs wr g N (addF F o k c f) ∧ RowAt wr B n f ∧ FnMul wr fv gf c ∧ Bx (· = g) w wr) (fun i _ => n - (intOf i).toNat)
    case atStart => exact ⟨0, Nat.zero_le _, rfl, (hb.keep hb1).congr (fun k hk => by unfold addF; rw [if_neg (by omega)]), hB.keep hb1, hfn, Bx.of_bw hb1⟩
    case round =>
      obtain ⟨k, hk, rfl, hbk, hBk, hfk, hw⟩ := hrel
      have hgl : g < w.heap.size := by obtain ⟨cur, hcur, _⟩ := hb; exact (Array.getElem?_eq_some_iff.1 hcur).1
      by_cases hlt : k < n
      · obtain ⟨b2, o2, e2, hc2⟩ := hBk.at hlt
        have h2 := hc2 k hlt
        have z2 := hB.2 k
        obtain ⟨h3, h4⟩ := hbk.cell (c := o + k) (by omega)
        have z3 := hF (o + k)
        have e3 : addF F o k c f (o + k) = F (o + k) := by unfold addF; rw [if_neg (by omega)]
        rw [e3] at h3
        have m3 := mulI_bd c (f k) c1
        have k0 : (0 : Int) ≤ (k : Int) := Int.natCast_nonneg _
        have k1 : (k : Int) < (n : Int) := by omega
        have hset : BlockIs (wr.setCell ⟨g, o + k, none⟩ (.int .u8 (addI (F (o + k)) (mulI c (f k))))) g N (addF F o (k + 1) c f) := hbk.set (by omega) (by unfold addF; rw [if_pos (by omega), Nat.add_sub_cancel_left]) (fun j hj hne => by unfold addF; (by_cases h : o ≤ j ∧ j < o + k); rw [if_pos h, if_pos (by omega)]; rw [if_neg h, if_neg (by omega)])
        have hrow : RowAt (wr.setCell ⟨g, o + k, none⟩ (.int .u8 (addI (F (o + k)) (mulI c (f k))))) B n f := hBk.put hlt hd
        have hwx : Bx (· = g) w (wr.setCell ⟨g, o + k, none⟩ (.int .u8 (addI (F (o + k)) (mulI c (f k))))) := hw.put rfl
        have hfx : FnMul (wr.setCell ⟨g, o + k, none⟩ (.int .u8 (addI (F (o + k)) (mulI c (f k))))) fv gf c := hfk.keepx ((Bx.refl (· = g) wr).put (j := o + k) rfl) (by omega)
        subst e2
        clear hc2 e3 hbk hBk hw
        rcases hfk with ⟨rfl, hcell⟩ | ⟨rfl, cur, hcur, hv⟩
        · go_wp2
          go_region_with (first | (go_at_call 59; refine (fn1_any c _ _ (by omega) (by omega) (by omega) (by omega) _ ?_).mono ?_; exact hcell; rintro e w' ⟨rfl, hw'⟩; subst w') | (go_at_call 51; refine (add_any _ _ (by omega) (by omega) (by omega) (by omega) _).mono ?_; rintro e w' ⟨rfl, hw'⟩; subst w'))
          all_goals
            go_wp2
            go_roundw
            case rel => exact ⟨k + 1, by omega, by go_num, hset.drew, hrow.drew, hfx.drew, hwx.drew⟩
            case measure => simp [intOf]; omega
        · go_wp2
          go_region_with (first | (go_at_call 60; refine (fn2_any c _ _ (by omega) (by omega) _ cur ?_ hv).mono ?_; exact hcur; rintro e w' ⟨rfl, hw'⟩; subst w') | (go_at_call 51; refine (add_any _ _ (by omega) (by omega) (by omega) (by omega) _).mono ?_; rintro e w' ⟨rfl, hw'⟩; subst w'))
          all_goals
            go_wp2
            go_roundw
            case rel => exact ⟨k + 1, by omega, by go_num, hset.drew, hrow.drew, hfx.drew, hwx.drew⟩
            case measure => simp [intOf]; omega
      · have ek : n = k := by omega
        subst ek
        go_wp2
        go_end0
        exact ⟨rfl, hbk, hw⟩

/-- the row's numbers, multiplied -/
theorem sclF_at {F : Nat → Int} {o k : Nat} {c : Int} : sclF F o (k + 1) c (o + k) = mulI c (F (o + k)) := by unfold sclF; rw [if_pos (by omega)]
theorem sclF_ne {F : Nat → Int} {o k j : Nat} {c : Int} (h : j ≠ o + k) : sclF F o (k + 1) c j = sclF F o k c j := by
  unfold sclF
  by_cases h' : o ≤ j ∧ j < o + k
  · rw [if_pos h', if_pos (by omega)]
  · rw [if_neg h', if_neg (by omega)]

set_option maxRecDepth 100000 in
theorem scale_any (g o n N cap : Nat) (F : Nat → Int) (c : Int) (c0 : 0 ≤ c) (c1 : c < 256) (w : World) (hb : BlockIs w g N F) (hN : o + n ≤ N) (hn : n ≤ 1048576) (hF : ∀ i, 0 ≤ F i ∧ F i < 256) :
    Calls Try.prog 53 #[.slice (some ⟨g, o, none⟩) n cap, .int .u8 c] w fun e w' => e = .returned (.tuple #[]) ∧ BlockIs w' g N (sclF F o n (invR c)) ∧ Bx (· = g) w w' := by
  have hi := invR_bd c
  go_enter Try.func53, Try.ntmps53
  go_wp2_with (first | (go_at_call 58; refine (inv_all _ (by omega) (by omega) _).mono ?_; rintro e w1 ⟨rfl, hw1⟩) | (go_at_call 54; refine (times_any _ _ (by omega) (by omega) _).mono ?_; rintro e w2 ⟨fv, gf, rfl, hfn, hgf, hb2⟩))
  have hgl : g < w.heap.size := by obtain ⟨cur, hcur, _⟩ := hb; exact (Array.getElem?_eq_some_iff.1 hcur).1
  have hb1 : Bw w w1 := hw1.1
  have hs1 := hb1.size
  go_loopw [20] (fun i wr => ∃ k : Nat, k ≤ n ∧ i = .int .i64 k ∧ BlockIs wr g N (sclF F o k (invR c)) ∧ FnMul wr fv gf (invR c) ∧ Bx (· = g) w wr) (fun i _ => n - (intOf i).toNat)
  case atStart => exact ⟨0, Nat.zero_le _, rfl, ((hb.keep hb1).keep hb2).congr (fun k hk => by unfold sclF; rw [if_neg (by omega)]), hfn, Bx.of_bw (hb1.trans hb2)⟩
  case round =>
    obtain ⟨k, hk, rfl, hbk, hfk, hw⟩ := hrel
    by_cases hlt : k < n
    · obtain ⟨h3, h4⟩ := hbk.cell (c := o + k) (by omega)
      have z3 := hF (o + k)
      have e3 : sclF F o k (invR c) (o + k) = F (o + k) := by unfold sclF; rw [if_neg (by omega)]
      rw [e3] at h3
      have k0 : (0 : Int) ≤ (k : Int) := Int.natCast_nonneg _
      have k1 : (k : Int) < (n : Int) := by omega
      have hset : BlockIs (wr.setCell ⟨g, o + k, none⟩ (.int .u8 (mulI (invR c) (F (o + k))))) g N (sclF F o (k + 1) (invR c)) := hbk.set (by omega) sclF_at (fun j hj hne => sclF_ne hne)
      have hwx : Bx (· = g) w (wr.setCell ⟨g, o + k, none⟩ (.int .u8 (mulI (invR c) (F (o + k))))) := hw.put rfl
      have hfx : FnMul (wr.setCell ⟨g, o + k, none⟩ (.int .u8 (mulI (invR c) (F (o + k))))) fv gf (invR c) := hfk.keepx ((Bx.refl (· = g) wr).put (j := o + k) rfl) (by omega)
      clear e3 hbk hw
      rcases hfk with ⟨rfl, hcell⟩ | ⟨rfl, cur, hcur, hv⟩
      · go_wp2_with (go_at_call 59; refine (fn1_any (invR c) _ _ (by omega) (by omega) (by omega) (by omega) _ ?_).mono ?_; exact hcell; rintro e w' ⟨rfl, hw'⟩; subst w')
        go_roundw
        case rel => exact ⟨k + 1, by omega, by go_num, hset, hfx, hwx⟩
        case measure => simp [intOf]; omega
      · go_wp2_with (go_at_call 60; refine (fn2_any (invR c) _ _ (by omega) (by omega) _ cur ?_ hv).mono ?_; exact hcur; rintro e w' ⟨rfl, hw'⟩; subst w')
        go_roundw
        case rel => exact ⟨k + 1, by omega, by go_num, hset, hfx, hwx⟩
        case measure => simp [intOf]; omega
    · have ek : n = k := by omega
      subst ek
      go_wp2
      go_end0
      exact ⟨rfl, hbk, hw⟩

end Go.Proofs.Ytbhbdhkifkmkbaa

/- The program's work space: rows cut out of one block. -/
namespace Go.Proofs.Ytbhbdhkifkmkbaa
open Go.RowKit

theorem made_rows (n : Nat) (h : n ≤ 1048576) : ∃ M : Array Value, M.size = n ∧
    ∀ w, (Instr.makeSlice 22 (.int .i64 (n : Int)) (.int .i64 (n : Int))).run Try.prog w = .ok (.slice (some ⟨w.heap.size, 0, none⟩) n n) (w.alloc (.cells M 37)) := by
  refine ⟨madeCells #[.slice none 0 0] n, ?_, fun w => run_make_row' 22 37 (.slice none 0 0) 24 Try.underlying22 info_row rfl .i64 .i64 n (by omega) (by omega) w⟩
  simp [madeCells]

/-- n rows of m numbers, cut out of the block g (row r is the one at P r), their heads in the block h -/
structure Grid (W : World) (g h n m : Nat) (P : Nat → Nat) (Z : Nat → Nat → Int) : Prop where
  heads : ∃ cur, W.heap[h]? = some (.cells cur 37 (0, 0)) ∧ cur.size = n ∧ ∀ r, r < n → cur[r]? = some (.slice (some ⟨g, P r * m, none⟩) m m)
  cells : ∃ F, BlockIs W g (n * m) F ∧ (∀ i, 0 ≤ F i ∧ F i < 256) ∧ ∀ r c, r < n → c < m → F (P r * m + c) = Z r c
  lt : ∀ r, r < n → P r < n
  inj : ∀ r s, r < n → s < n → P r = P s → r = s
  ne : g ≠ h
  bd : ∀ r c, 0 ≤ Z r c ∧ Z r c < 256

set_option maxRecDepth 100000 in
theorem space_any (n m : Nat) (hn : n ≤ 131072) (hm : n * m ≤ 8388608) (hm' : m ≤ 8388608) (w : World) :
    Calls Try.prog 41 #[.int .i64 n, .int .i64 m] w fun e w' => ∃ g h, e = .returned (.slice (some ⟨h, 0, none⟩) n n) ∧ Grid w' g h n m (fun r => r) (fun _ _ => 0) ∧ w.heap.size ≤ g ∧ w.heap.size ≤ h ∧ Bw w w' := by
  obtain ⟨M0, hM, hM0, hmk⟩ := made_bytes (n * m) (by omega)
  obtain ⟨H0, hH, hmh⟩ := made_rows n (by omega)
  obtain ⟨N, hN⟩ : ∃ N, N = n * m := ⟨_, rfl⟩
  have e1 : ((n * m : Nat) : Int) = (n : Int) * (m : Int) := Int.natCast_mul n m
  rw [e1, ← hN] at hmk
  rw [← hN] at hM0 hM
  have b1 : (0 : Int) ≤ (n : Int) * (m : Int) := by omega
  have b2 : (n : Int) * (m : Int) ≤ 8388608 := by omega
  have HM : Hid (∀ i, i < N → M0[i]? = some (.int .u8 0)) := hM0
  have HN : Hid (N = n * m) := hN
  clear e1 hM0 hN hm
  go_enter Try.func41, Try.ntmps41
  go_wp2
  go_loopw [16] (fun i wr => ∃ k : Nat, k ≤ n ∧ i = .int .i64 k ∧ wr.heap[w.heap.size]? = some (.cells M0 5 (0, 0)) ∧ (∃ cur, wr.heap[w.heap.size + 1]? = some (.cells cur 37 (0, 0)) ∧ cur.size = n ∧ ∀ r : Nat, r < k → cur[r]? = some (.slice (some ⟨w.heap.size, r * m, none⟩) m m)) ∧ Bw w wr) (fun i _ => n - (intOf i).toNat)
  case atStart => exact ⟨0, Nat.zero_le _, rfl, heap_alloc2_old _ _ _, ⟨_, heap_alloc2_new _ _ _, hH, fun b hb => by omega⟩, ((Below.refl _ _).alloc (Nat.le_refl _) _).alloc (by rw [size_alloc]; omega) _⟩
  case round =>
    obtain ⟨k, hk, rfl, hc, ⟨cur, hcur, hs, hv⟩, hb⟩ := hrel
    by_cases hlt : k < n
    · obtain ⟨v1, hv1⟩ : ∃ v, cur[k]? = some v := ⟨_, Array.getElem?_eq_getElem (by omega)⟩
      have hx : wr.cell? ⟨w.heap.size + 1, k, none⟩ = some v1 := (cell_of_row wr (w.heap.size + 1) k cur _ _ hcur).trans hv1
      have hf : wr.frozen? ⟨w.heap.size + 1, k, none⟩ = false := frozen_of_row wr (w.heap.size + 1) k cur _ hcur
      have k0 : (0 : Int) ≤ (k : Int) := Int.natCast_nonneg _
      have k1 : (k : Int) < (n : Int) := by omega
      have p1 : (k : Int) * (m : Int) = ((k * m : Nat) : Int) := (Int.natCast_mul k m).symm
      have p2 : ((k : Int) + 1) * (m : Int) = (((k + 1) * m : Nat) : Int) := by rw [Int.natCast_mul]; rfl
      have p3 : (k + 1) * m = k * m + m := Nat.succ_mul k m
      have p4 : (k + 1) * m ≤ N := by rw [HN.out]; exact Nat.mul_le_mul_right m hlt
      have p5 : N ≤ 8388608 := by have := HN.out; have e1 : ((n * m : Nat) : Int) = (n : Int) * (m : Int) := Int.natCast_mul n m; omega
      have q1 : (0 : Int) ≤ (k : Int) * (m : Int) := by omega
      have q2 : (k : Int) * (m : Int) ≤ ((k : Int) + 1) * (m : Int) := by omega
      have q3 : ((k : Int) + 1) * (m : Int) ≤ (N : Int) := by omega
      have q4 : (N : Int) ≤ 8388608 := by omega
      have t1 : ((k : Int) * (m : Int)).toNat = k * m := by rw [p1, Int.toNat_natCast]
      have t2 : (((k : Int) + 1) * (m : Int)).toNat = k * m + m := by rw [p2, Int.toNat_natCast, p3]
      clear p1 p2 p3 p4 p5
      go_wp2
      have hif : (if m = 0 then some (⟨w.heap.size, 0, none⟩ : Addr) else some ⟨w.heap.size, k * m, none⟩) = some ⟨w.heap.size, k * m, none⟩ := by
        by_cases e : m = 0
        · subst e; rw [if_pos rfl, Nat.mul_zero]
        · rw [if_neg e]
      go_roundw
      case rel =>
        rw [hif]
        refine ⟨k + 1, by omega, by go_num, (heap_setCell_other wr _ _ _ (by simp only; omega)).trans hc, ⟨_, heap_setCell_same wr _ k cur _ _ hcur, by simpa using hs, fun b hb' => ?_⟩, Bw.put hb (by omega) _ _⟩
        by_cases e : b = k
        · subst e; rw [Array.getElem?_setIfInBounds_self_of_lt (by omega)]
        · rw [Array.getElem?_setIfInBounds_ne (Ne.symm e), hv b (by omega)]
      case measure => simp [intOf]; omega
    · have ek : n = k := by omega
      subst ek
      go_wp2
      go_ret
      refine ⟨_, _, rfl, ⟨⟨cur, hcur, hs, hv⟩, ⟨fun _ => 0, ⟨M0, hc, by rw [hM]; exact HN.out, fun c hc' => HM.out c (by rw [HN.out]; exact hc')⟩, fun _ => ⟨Int.le_refl 0, show (0 : Int) < 256 by decide⟩, fun _ _ _ _ => rfl⟩, fun r hr => hr, fun r s _ _ e => e, by omega, fun _ _ => ⟨Int.le_refl 0, show (0 : Int) < 256 by decide⟩⟩, Nat.le_refl _, by omega, hb⟩

theorem cut_apart {a b c m : Nat} (h : a ≠ b) (hc : c < m) : ¬ (b * m ≤ a * m + c ∧ a * m + c < b * m + m) := by
  intro ⟨h1, h2⟩
  rcases Nat.lt_or_gt_of_ne h with h | h
  · have := Nat.mul_le_mul_right m (show a + 1 ≤ b from h)
    rw [Nat.succ_mul] at this; omega
  · have := Nat.mul_le_mul_right m (show b + 1 ≤ a from h)
    rw [Nat.succ_mul] at this; omega

theorem cut_le {a n c m : Nat} (h : a < n) (hc : c ≤ m) : a * m + c ≤ n * m := by
  have := Nat.mul_le_mul_right m (show a + 1 ≤ n from h)
  rw [Nat.succ_mul] at this; omega

theorem Grid.row {W : World} {g h n m : Nat} {P : Nat → Nat} {Z : Nat → Nat → Int} (d : Grid W g h n m P Z) {r : Nat} (hr : r < n) : RowAt W (some ⟨g, P r * m, none⟩) m (Z r) := by
  obtain ⟨F, hb, _, hF⟩ := d.cells
  refine ⟨Or.inr ⟨g, P r * m, rfl, fun i hi => ?_⟩, d.bd r⟩
  rw [← hF r i hr hi]
  have := cut_le (m := m) (c := i + 1) (d.lt r hr) (by omega)
  exact (hb.cell (by omega)).1

theorem Grid.head {W : World} {g h n m : Nat} {P : Nat → Nat} {Z : Nat → Nat → Int} (d : Grid W g h n m P Z) {r : Nat} (hr : r < n) : W.cell? ⟨h, r, none⟩ = some (.slice (some ⟨g, P r * m, none⟩) m m) ∧ W.frozen? ⟨h, r, none⟩ = false := by
  obtain ⟨cur, h1, _, h2⟩ := d.heads
  exact ⟨(cell_of_row W h r cur _ _ h1).trans (h2 r hr), frozen_of_row W h r cur _ h1⟩

theorem Grid.cell {W : World} {g h n m : Nat} {P : Nat → Nat} {Z : Nat → Nat → Int} (d : Grid W g h n m P Z) {r c : Nat} (hr : r < n) (hc : c < m) : W.cell? ⟨g, P r * m + c, none⟩ = some (.int .u8 (Z r c)) ∧ W.frozen? ⟨g, P r * m + c, none⟩ = false := by
  obtain ⟨F, hb, _, hF⟩ := d.cells
  rw [← hF r c hr hc]
  have := cut_le (m := m) (c := c + 1) (d.lt r hr) (by omega)
  exact hb.cell (by omega)

theorem Grid.glt {W : World} {g h n m : Nat} {P : Nat → Nat} {Z : Nat → Nat → Int} (d : Grid W g h n m P Z) : g < W.heap.size := by
  obtain ⟨F, ⟨cur, hcur, _⟩, _⟩ := d.cells
  exact (Array.getElem?_eq_some_iff.1 hcur).1
theorem Grid.hlt {W : World} {g h n m : Nat} {P : Nat → Nat} {Z : Nat → Nat → Int} (d : Grid W g h n m P Z) : h < W.heap.size := by
  obtain ⟨cur, hcur, _⟩ := d.heads
  exact (Array.getElem?_eq_some_iff.1 hcur).1

theorem Grid.keepx {S : Nat → Prop} {W W' : World} {g h n m : Nat} {P : Nat → Nat} {Z : Nat → Nat → Int} (d : Grid W g h n m P Z) (k : Bx S W W') (hg : ¬ S g) (hh : ¬ S h) : Grid W' g h n m P Z := by
  obtain ⟨cur, h1, h2⟩ := d.heads
  obtain ⟨F, ⟨cu, c1, c2⟩, h3⟩ := d.cells
  exact ⟨⟨cur, (k.block h d.hlt hh).trans h1, h2⟩, ⟨F, ⟨cu, (k.block g d.glt hg).trans c1, c2⟩, h3⟩, d.lt, d.inj, d.ne, d.bd⟩

theorem Grid.keep {W W' : World} {g h n m : Nat} {P : Nat → Nat} {Z : Nat → Nat → Int} (d : Grid W g h n m P Z) (k : Bw W W') : Grid W' g h n m P Z := d.keepx (Bx.of_bw (S := fun _ => False) k) id id

theorem Grid.congr {W : World} {g h n m : Nat} {P : Nat → Nat} {Z Z' : Nat → Nat → Int} (d : Grid W g h n m P Z) (hb : ∀ r c, 0 ≤ Z' r c ∧ Z' r c < 256) (e : ∀ r c, r < n → c < m → Z' r c = Z r c) : Grid W g h n m P Z' := by
  obtain ⟨F, h1, h2, h3⟩ := d.cells
  exact ⟨d.heads, ⟨F, h1, h2, fun r c hr hc => (h3 r c hr hc).trans (e r c hr hc).symm⟩, d.lt, d.inj, d.ne, hb⟩

theorem Grid.mat {W : World} {g h n m : Nat} {P : Nat → Nat} {Z : Nat → Nat → Int} (d : Grid W g h n m P Z) : MatAt W (some ⟨h, 0, none⟩) n (fun r => some ⟨g, P r * m, none⟩) (fun _ => m) (fun _ => m) Z :=
  ⟨Or.inr ⟨h, 0, rfl, fun r hr => by rw [Nat.zero_add]; exact (d.head hr).1⟩, fun r hr => d.row hr⟩

/-- a row that was turned -/
theorem Grid.turned {W W' : World} {g h n m : Nat} {P : Nat → Nat} {Z : Nat → Nat → Int} (d : Grid W g h n m P Z) (k : Bx (· = g) W W') {F F' : Nat → Int} {r : Nat} {z : Nat → Int} (hr : r < n)
    (hF : ∀ r c, r < n → c < m → F (P r * m + c) = Z r c) (hb : BlockIs W' g (n * m) F') (hF' : ∀ i, 0 ≤ F' i ∧ F' i < 256) (hz : ∀ i, 0 ≤ z i ∧ z i < 256)
    (h1 : ∀ c, c < m → F' (P r * m + c) = z c) (h2 : ∀ i, ¬ (P r * m ≤ i ∧ i < P r * m + m) → F' i = F i) : Grid W' g h n m P (upd Z r z) := by
  obtain ⟨cur, c1, c2⟩ := d.heads
  refine ⟨⟨cur, (k.block h d.hlt (fun e => d.ne e.symm)).trans c1, c2⟩, ⟨F', hb, hF', fun s c hs hc => ?_⟩, d.lt, d.inj, d.ne, fun s c => ?_⟩
  · by_cases e : s = r
    · subst e; rw [upd_at]; exact h1 c hc
    · rw [upd_ne _ _ e, h2 _ (cut_apart (fun e' => e (d.inj s r hs hr e')) hc)]; exact hF s c hs hc
  · by_cases e : s = r
    · subst e; rw [upd_at]; exact hz c
    · rw [upd_ne _ _ e]; exact d.bd s c

theorem add_grid {g h n m r cb : Nat} {P : Nat → Nat} {Z : Nat → Nat → Int} {f : Nat → Int} {B : Option Addr} {c : Int} (c0 : 0 ≤ c) (c1 : c < 256) {w : World} (d : Grid w g h n m P Z) (hr : r < n) (hm : m ≤ 1048576)
    (hB : RowAt w B m f) (hd : ∀ a, B = some a → a.block ≠ g ∨ a.off + m ≤ P r * m ∨ P r * m + m ≤ a.off) :
    Calls Try.prog 43 #[.slice (some ⟨g, P r * m, none⟩) m m, .slice B m cb, .int .u8 c] w fun e w' => e = .returned (.tuple #[]) ∧ Grid w' g h n m P (upd Z r (fun l => addI (Z r l) (mulI c (f l)))) ∧ Bx (· = g) w w' := by
  obtain ⟨F, hb, hF, hZ⟩ := d.cells
  refine (add_any' g (P r * m) m (n * m) m cb F f B c c0 c1 w hb (cut_le (d.lt r hr) (Nat.le_refl _)) hm hF hB hd).mono ?_
  rintro e w' ⟨rfl, hb', hx⟩
  refine ⟨rfl, d.turned hx hr hZ hb' (addF_bd hF c1) (fun i => addI_bd _ _ (d.bd r i).2 (mulI_bd _ _ c1).2) (fun i hi => ?_) (fun i hi => ?_), hx⟩
  · unfold addF; rw [if_pos (by omega), Nat.add_sub_cancel_left, hZ r i hr hi]
  · unfold addF; rw [if_neg hi]

theorem scale_grid {g h n m r : Nat} {P : Nat → Nat} {Z : Nat → Nat → Int} {c : Int} (c0 : 0 ≤ c) (c1 : c < 256) {w : World} (d : Grid w g h n m P Z) (hr : r < n) (hm : m ≤ 1048576) :
    Calls Try.prog 53 #[.slice (some ⟨g, P r * m, none⟩) m m, .int .u8 c] w fun e w' => e = .returned (.tuple #[]) ∧ Grid w' g h n m P (upd Z r (fun l => mulI (invR c) (Z r l))) ∧ Bx (· = g) w w' := by
  obtain ⟨F, hb, hF, hZ⟩ := d.cells
  refine (scale_any g (P r * m) m (n * m) m F c c0 c1 w hb (cut_le (d.lt r hr) (Nat.le_refl _)) hm hF).mono ?_
  rintro e w' ⟨rfl, hb', hx⟩
  refine ⟨rfl, d.turned hx hr hZ hb' (sclF_bd hF (invR_bd c).2) (fun i => mulI_bd _ _ (invR_bd c).2) (fun i hi => ?_) (fun i hi => ?_), hx⟩
  · unfold sclF; rw [if_pos (by omega), hZ r i hr hi]
  · unfold sclF; rw [if_neg hi]

/-- two heads changed about -/
theorem Grid.swap {W : World} {g h n m : Nat} {P : Nat → Nat} {Z : Nat → Nat → Int} (d : Grid W g h n m P Z) {r q : Nat} (hr : r < n) (hq : q < n) :
    Grid ((W.setCell ⟨h, r, none⟩ (.slice (some ⟨g, P q * m, none⟩) m m)).setCell ⟨h, q, none⟩ (.slice (some ⟨g, P r * m, none⟩) m m)) g h n m (upd (upd P r (P q)) q (P r)) (upd (upd Z r (Z q)) q (Z r)) := by
  obtain ⟨cur, c1, c2, c3⟩ := d.heads
  obtain ⟨F, ⟨cu, b1, b2⟩, hF, hZ⟩ := d.cells
  have hx : Bx (· = h) W ((W.setCell ⟨h, r, none⟩ (.slice (some ⟨g, P q * m, none⟩) m m)).setCell ⟨h, q, none⟩ (.slice (some ⟨g, P r * m, none⟩) m m)) := Bx.put (Bx.put (Bx.refl (· = h) W) rfl) rfl
  have hP : ∀ s, upd (upd P r (P q)) q (P r) s = P (if s = q then r else if s = r then q else s) := by
    intro s; unfold upd; split
    · rfl
    · split <;> rfl
  have hZ' : ∀ s, upd (upd Z r (Z q)) q (Z r) s = Z (if s = q then r else if s = r then q else s) := by
    intro s; unfold upd; split
    · rfl
    · split <;> rfl
  refine ⟨⟨_, heap_setCell_same _ h q _ _ _ (heap_setCell_same W h r cur _ _ c1), by simpa using c2, fun s hs => ?_⟩, ⟨F, ⟨cu, (hx.block g d.glt d.ne).trans b1, b2⟩, hF, fun s c hs hc => ?_⟩, fun s hs => ?_, fun s t hs ht e => ?_, d.ne, fun s c => ?_⟩
  · by_cases e : s = q
    · subst e; rw [Array.getElem?_setIfInBounds_self_of_lt (by simp only [Array.size_setIfInBounds]; omega), upd_at]
    · rw [Array.getElem?_setIfInBounds_ne (Ne.symm e), upd_ne _ _ e]
      by_cases e' : s = r
      · subst e'; rw [Array.getElem?_setIfInBounds_self_of_lt (by omega), upd_at]
      · rw [Array.getElem?_setIfInBounds_ne (Ne.symm e'), upd_ne _ _ e', c3 s hs]
  · rw [hP, hZ']; exact hZ _ c (by split; exact hr; split; exact hq; exact hs) hc
  · rw [hP]; exact d.lt _ (by split; exact hr; split; exact hq; exact hs)
  · rw [hP, hP] at e
    have := d.inj _ _ (by split; exact hr; split; exact hq; exact hs) (by split; exact hr; split; exact hq; exact ht) e
    revert this; split <;> split <;> (try split) <;> (try split) <;> omega
  · rw [hZ']; exact d.bd _ c

end Go.Proofs.Ytbhbdhkifkmkbaa

/- Contracts of the program's own tests of a matrix; copies; Dot, Plus, One. -/
namespace Go.Proofs.Ytbhbdhkifkmkbaa
open Go.RowKit

/-- a block with a row laid over it at o -/
def cpyF (F : Nat → Int) (o n : Nat) (f : Nat → Int) (k : Nat) : Int := if o ≤ k ∧ k < o + n then f (k - o) else F k

theorem cpyF_bd {F : Nat → Int} {o n : Nat} {f : Nat → Int} (hF : ∀ i, 0 ≤ F i ∧ F i < 256) (hf : ∀ i, 0 ≤ f i ∧ f i < 256) (k : Nat) : 0 ≤ cpyF F o n f k ∧ cpyF F o n f k < 256 := by
  unfold cpyF; split
  · exact hf _
  · exact hF k

theorem u8_one : (Try.prog.info? 5).map (·.size) = some 1 := by kernel_rfl

theorem copy_ok (g o m cap N L cb : Nat) (ty : TypeId) (F f : Nat → Int) (B : Option Addr) (w : World) (hb : BlockIs w g N F) (ho : o + L ≤ N) (hm : L ≤ m) (hB : RowAt w B L f) :
    ∃ w', (Builtin.copy_ #[37, 37] ty #[.slice (some ⟨g, o, none⟩) m cap, .slice B L cb]).run Try.prog w = .ok (goInt L) w' ∧ BlockIs w' g N (cpyF F o L f) ∧ Bx (· = g) w w' := by
  by_cases h0 : L = 0
  · subst h0
    refine ⟨w, run_copy_none w 37 37 ty 5 _ _ m cap 0 cb Try.underlying37 u8_one (Nat.zero_min _), hb.congr (fun k hk => by unfold cpyF; rw [if_neg (by omega)]), Bx.refl _ _⟩
  · obtain ⟨b, off, rfl, hc⟩ := hB.at (k := 0) (by omega)
    obtain ⟨cur, h1, h2, h3⟩ := hb
    have hl : (cellsU f L).length = L := by simp [cellsU]
    have hrun := run_copy_row Try.prog w 37 37 ty 5 g o m cap ⟨b, off, none⟩ L cb cur 5 (cellsU f L) Try.underlying37 u8_one h1 (by rw [hl]; exact (Nat.min_eq_left hm).symm) (rowat_news hB) (by rw [hl]; omega) (fun v hv => by simp only [cellsU, List.mem_map] at hv; obtain ⟨i, _, rfl⟩ := hv; rfl)
    rw [hl] at hrun
    refine ⟨_, hrun, ⟨_, setRow_heap w g cur _ _ _ h1, ?_, fun c hc' => ?_⟩, ⟨rfl, rfl, rfl, by simp [World.setRow], fun k _ hk => setRow_other w g k _ (by omega)⟩⟩
    · simp [hl]; omega
    · rw [List.getElem?_toArray]
      unfold cpyF
      by_cases e : o ≤ c ∧ c < o + L
      · rw [if_pos e, List.append_assoc, List.getElem?_append_right (by simp; omega), List.getElem?_append_left (by simp [hl]; omega)]
        simp only [List.length_take, Array.length_toList, cellsU, List.getElem?_map]
        rw [Nat.min_eq_left (by omega), List.getElem?_range (by omega)]; rfl
      · rw [if_neg e]
        by_cases e2 : c < o
        · rw [List.append_assoc, List.getElem?_append_left (by simp; omega), List.getElem?_take, if_pos e2, Array.getElem?_toList, h3 c hc']
        · rw [List.getElem?_append_right (by simp [hl]; omega), List.getElem?_drop]
          simp only [List.length_append, List.length_take, Array.length_toList, hl]
          rw [Nat.min_eq_left (by omega), show o + L + (c - (o + L)) = c by omega, Array.getElem?_toList, h3 c hc']

theorem columns_any (A : Option Addr) (n cap : Nat) (R : Nat → Option Addr) (L C : Nat → Nat) (Z : Nat → Nat → Int) (w : World) (h : MatAt w A n R L C Z) :
    Calls Try.prog 40 #[.slice A n cap] w fun e w' => e = .returned (.int .i64 (colsI n L)) ∧ w' = w := by
  by_cases h0 : n = 0
  · have e : colsI n L = 0 := by unfold colsI; rw [if_pos h0]
    rw [e]
    subst h0
    go_enter Try.func40, Try.ntmps40
    go_wp2
    go_ret
    exact ⟨rfl, rfl⟩
  · have e : colsI n L = (L 0 : Int) := by unfold colsI; rw [if_neg h0]
    rw [e]
    obtain ⟨b, off, rfl, hc⟩ := h.at (k := 0) (by omega)
    have h1 := hc 0 (by omega)
    rw [Nat.add_zero] at h1
    have hn : ((n : Int) == 0) = false := by simpa using h0
    have hn2 : (0 : Int) < (n : Int) := by omega
    go_enter Try.func40, Try.ntmps40
    go_wp2
    go_ret
    exact ⟨rfl, rfl⟩

theorem wrong_some (A : Option Addr) (n cap : Nat) (R : Nat → Option Addr) (L C : Nat → Nat) (Z : Nat → Nat → Int) (hn : n ≤ 32) (w : World) (h : MatAt w A n R L C Z) :
    Calls Try.prog 39 #[.slice A n cap] w fun e w' => ∃ x, e = .returned (.int .i64 x) ∧ Wrong n L x ∧ w' = w := by
  go_enter Try.func39, Try.ntmps39
  go_wp2
  go_loopw [3, 11] (fun b i wr => ∃ (k : Nat) (ev : Bool), k ≤ n ∧ i = .int .i64 k ∧ b = .bool ev ∧ Hid (∀ r, r < k → L r ≤ 131072) ∧ Hid (ev = true ↔ ∀ r, r < k → L r = L 0) ∧ wr = w) (fun _ i _ => n - (intOf i).toNat)
  case atStart => exact ⟨0, true, Nat.zero_le _, rfl, rfl, (fun r hr => by omega), (show _ ↔ _ from ⟨fun _ r hr => by omega, fun _ => rfl⟩), rfl⟩
  case round =>
    obtain ⟨k, ev, hk, rfl, rfl, hno, hev, e⟩ := hrel
    subst e
    by_cases hlt : k < n
    · obtain ⟨b, off, rfl, hc⟩ := h.at hlt
      have h1 := hc k hlt
      have h2 := hc 0 (by omega)
      rw [Nat.add_zero] at h2
      have hk2 : (0 : Int) < (n : Int) := by omega
      clear hc
      by_cases hl : 131072 < L k
      · go_wp2
        go_ret
        exact ⟨2, rfl, Or.inl ⟨rfl, Or.inr ⟨k, hlt, hl⟩⟩, rfl⟩
      · have hno' : Hid (∀ r, r < k + 1 → L r ≤ 131072) := fun r hr => by by_cases e : r = k; (subst e; omega); exact hno r (by omega)
        cases ev with
        | false =>
          go_wp2
          go_roundw
          case rel =>
            refine ⟨k + 1, false, by omega, by go_num, rfl, hno', (show _ ↔ _ from ⟨fun e => by (cases e), fun e => hev.out.2 (fun r hr => e r (by omega))⟩), by first | rfl | trivial⟩
          case measure => simp [intOf]; omega
        | true =>
          by_cases hl3 : L k = L 0
          · have hl2 : ((L k : Int) == (L 0 : Int)) = true := by rw [hl3]; simp
            go_wp2
            go_roundw
            case rel =>
              refine ⟨k + 1, true, by omega, by go_num, rfl, hno', (show _ ↔ _ from ⟨fun _ r hr => by by_cases e : r = k; (subst e; exact hl3); exact hev.out.1 rfl r (by omega), fun _ => rfl⟩), by first | rfl | trivial⟩
            case measure => simp [intOf]; omega
          · have hl2 : ((L k : Int) == (L 0 : Int)) = false := by simp; omega
            go_wp2
            go_roundw
            case rel =>
              refine ⟨k + 1, false, by omega, by go_num, rfl, hno', (show _ ↔ _ from ⟨fun e => by (cases e), fun e => absurd (e k (by omega)) hl3⟩), by first | rfl | trivial⟩
            case measure => simp [intOf]; omega
    · have ek : n = k := by omega
      subst ek
      cases ev with
      | false =>
        go_wp2
        go_ret
        refine ⟨6, rfl, Or.inr (Or.inl ⟨rfl, hn, hno.out, ?_⟩), rfl⟩
        apply Classical.byContradiction
        intro hne
        have := hev.out.2 (fun r hr => Classical.byContradiction fun e => hne ⟨r, hr, e⟩)
        cases this
      | true =>
        go_wp2
        go_ret
        exact ⟨0, rfl, Or.inr (Or.inr ⟨rfl, hn, hno.out, fun r hr => hev.out.1 (by first | rfl | trivial) r hr⟩), rfl⟩

theorem wrong_long (A : Option Addr) (n cap : Nat) (h : 32 < n) (w : World) :
    Calls Try.prog 39 #[.slice A n cap] w fun e w' => e = .returned (.int .i64 2) ∧ w' = w := by
  go_enter Try.func39, Try.ntmps39
  go_wp2
  go_ret
  exact ⟨rfl, rfl⟩

theorem wrong_any (A : Option Addr) (n cap : Nat) (R : Nat → Option Addr) (L C : Nat → Nat) (Z : Nat → Nat → Int) (w : World) (h : MatAt w A n R L C Z) :
    Calls Try.prog 39 #[.slice A n cap] w fun e w' => ∃ x, e = .returned (.int .i64 x) ∧ Wrong n L x ∧ w' = w := by
  by_cases hn : 32 < n
  · exact (wrong_long A n cap hn w).mono fun e w' ⟨he, hw⟩ => ⟨2, he, Or.inl ⟨rfl, Or.inl hn⟩, hw⟩
  · exact wrong_some A n cap R L C Z (by omega) w h

end Go.Proofs.Ytbhbdhkifkmkbaa

/- Contracts of the program's Dot and Plus. -/
namespace Go.Proofs.Ytbhbdhkifkmkbaa
open Go.RowKit

/-- two rows' heads beside one another -/
theorem mat_two (w : World) (A B : Option Addr) (la ca lb cb : Nat) (f g : Nat → Int) (ha : RowAt w A la f) (hb : RowAt w B lb g) :
    MatAt (w.alloc (.cells #[.slice A la ca, .slice B lb cb] 37)) (some ⟨w.heap.size, 0, none⟩) 2 (fun r => if r = 0 then A else B) (fun r => if r = 0 then la else lb) (fun r => if r = 0 then ca else cb) (fun r => if r = 0 then f else g) := by
  have hbw : Bw w (w.alloc (.cells #[.slice A la ca, .slice B lb cb] 37)) := (Below.refl _ _).alloc (Nat.le_refl _) _
  refine ⟨Or.inr ⟨w.heap.size, 0, rfl, fun r hr => ?_⟩, fun r hr => ?_⟩
  · rw [Nat.zero_add, World.cell?_alloc_at _ _ _ r rfl]
    rcases (show r = 0 ∨ r = 1 by omega) with rfl | rfl <;> rfl
  · rcases (show r = 0 ∨ r = 1 by omega) with rfl | rfl
    · exact ha.keep hbw
    · exact hb.keep hbw

theorem wrong_two {L : Nat → Nat} {x : Int} (h : Wrong 2 L x) : x = twoE (L 0) (L 1) := by
  unfold twoE
  rcases h with ⟨rfl, h | ⟨r, hr, h⟩⟩ | ⟨rfl, _, h1, r, hr, h⟩ | ⟨rfl, _, h1, h⟩
  · omega
  · rcases (show r = 0 ∨ r = 1 by omega) with rfl | rfl
    · rw [if_pos (Or.inl h)]
    · rw [if_pos (Or.inr h)]
  · have a0 := h1 0 (by omega)
    have a1 := h1 1 (by omega)
    rcases (show r = 0 ∨ r = 1 by omega) with rfl | rfl
    · exact absurd rfl h
    · rw [if_neg (by omega), if_pos (fun e => h e.symm)]
  · have a0 := h1 0 (by omega)
    have a1 := h1 1 (by omega)
    rw [if_neg (by omega), if_neg (fun e => e (h 1 (by omega)).symm)]

def dotE (la lb : Nat) (f g : Nat → Int) : Int := if twoE la lb = 0 then dotU f g la else 0

/-- a row that was made since the block base -/
structure NewRow (w : World) (base : Nat) (A : Option Addr) (n : Nat) (f : Nat → Int) : Prop where
  row : RowAt w A n f
  new : n = 0 ∨ ∃ g o, A = some ⟨g, o, none⟩ ∧ base ≤ g ∧ g < w.heap.size

theorem row_none (w : World) : RowAt w none 0 (fun _ => 0) := ⟨Or.inl rfl, fun _ => ⟨Int.le_refl 0, show (0 : Int) < 256 by decide⟩⟩

end Go.Proofs.Ytbhbdhkifkmkbaa
