/- Proved: for every matrix of bytes, every whole number and every list of whole numbers the statement CodeSpoilt answers true (the document's P3.5: a word some shards of which are changed, at most n - k of them, is told to be none), with no condition but the reach; arguments may share memory. -/
import Derived.Test.YtbhbdhkifkmkbaaB10
import Derived.ShutString
import Derived.ChangeOld
namespace Go.Proofs.Ytbhbdhkifkmkbaa.codeSpoilt
open Go.ChangeShapes Go.WideShapes Go.ChangeAt Go.RowKit
set_option linter.unusedVariables false

theorem sp_early (A B : Option Addr) (k ca l cb : Nat) (R : Nat → Option Addr) (L C : Nat → Nat) (Z : Nat → Nat → Int) (N : Int) (w : World) (ha : InMat w A k ca R L C Z)
    (hc : great3 k L = true ∨ (great3 k L = false ∧ k = 0) ∨ (great3 k L = false ∧ 0 < k ∧ L 0 = 0)) :
    Calls Try.prog 6 #[.slice A k ca, .int .i64 N, .slice B l cb] w fun e w' => e = .returned (.bool true) ∧ Bw w w' := by
  have a1 := ha.le
  have a2 := ha.room
  have al : ∀ r, r < k → L r ≤ 140737488355328 := fun r hr => by have := ha.rows r hr; omega
  have AL : Hid (∀ r, r < k → L r ≤ 140737488355328) := al
  have am := ha.mat
  clear al ha
  rcases hc with h1 | ⟨h1, h2⟩ | ⟨h1, h2, h3⟩
  · go_enter Try.func6, Try.ntmps6
    go_wp2_with (first
      | (go_at_call 9; refine (great3_any A k ca R L C Z AL.out (by omega) _ am).mono ?_; rintro e w' ⟨rfl, hw'⟩; subst w'; rw [h1])
      | (go_at_call 10; refine (wakes3_any _).mono ?_; rintro e w1 ⟨rfl, hw1⟩))
    go_ret
    exact ⟨rfl, hw1⟩
  · subst h2
    go_enter Try.func6, Try.ntmps6
    go_wp2_with (first
      | (go_at_call 9; refine (great3_any A 0 ca R L C Z AL.out (by omega) _ am).mono ?_; rintro e w' ⟨rfl, hw'⟩; subst w'; rw [h1])
      | (go_at_call 10; refine (wakes3_any _).mono ?_; rintro e w1 ⟨rfl, hw1⟩))
    go_ret
    exact ⟨rfl, hw1⟩
  · obtain ⟨b1, o1, rfl, hc1⟩ := am.at (k := 0) (by omega)
    have g1 := hc1 0 (by omega)
    rw [Nat.add_zero, h3] at g1
    have e1 : ((k : Int) == 0) = false := by simp; omega
    have e2 : (0 : Int) < (k : Int) := by omega
    clear hc1
    go_enter Try.func6, Try.ntmps6
    go_wp2_with (first
      | (go_at_call 9; refine (great3_any _ k ca R L C Z AL.out (by omega) _ am).mono ?_; rintro e w' ⟨rfl, hw'⟩; subst w'; rw [h1])
      | (go_at_call 10; refine (wakes3_any _).mono ?_; rintro e w1 ⟨rfl, hw1⟩))
    go_ret
    exact ⟨rfl, hw1⟩

set_option maxRecDepth 100000 in
set_option maxHeartbeats 1000000 in
theorem sp_enc (A B : Option Addr) (k ca l cb : Nat) (R : Nat → Option Addr) (L C : Nat → Nat) (Z : Nat → Nat → Int) (N : Int) (w : World) (ha : InMat w A k ca R L C Z) (h1 : great3 k L = false) (h2 : 0 < k) (h3 : 0 < L 0) (x : Int) (kk : Nat) (hx : EncSays k L N x kk)
    (hc : (x != 0) = true ∨ ((x != 0) = false ∧ (N == (k : Int)) = true) ∨ ((x != 0) = false ∧ (N == (k : Int)) = false ∧ l = 0)) :
    Calls Try.prog 6 #[.slice A k ca, .int .i64 N, .slice B l cb] w fun e w' => e = .returned (.bool true) ∧ Bw w w' := by
  have hk := (great3_no h1).1
  have AL : Hid (∀ r, r < k → L r ≤ 140737488355328) := fun r hr => by have := (great3_no h1).2 r hr; omega
  have am := ha.mat
  obtain ⟨b1, o1, rfl, hc1⟩ := am.at (k := 0) (by omega)
  have g1 := hc1 0 (by omega)
  rw [Nat.add_zero] at g1
  have e1 : ((k : Int) == 0) = false := by simp; omega
  have e2 : (0 : Int) < (k : Int) := by omega
  have e3 : ((L 0 : Int) == 0) = false := by simp; omega
  clear hc1 ha
  rcases hc with c1 | ⟨c1, c2⟩ | ⟨c1, c2, c3⟩
  · go_enter Try.func6, Try.ntmps6
    go_wp2_with (first
      | (go_at_call 9; refine (great3_any _ k ca R L C Z AL.out (by omega) _ am).mono ?_; rintro e w' ⟨rfl, hw'⟩; subst w'; rw [h1])
      | (go_at_call 14; refine (enc_res _ k ca R L C Z N _ am).mono ?_; rintro e w1 ⟨v, x', kk', rfl, hr1, hs, hw1⟩; obtain ⟨e4, -⟩ := encsays_unique hx hs; subst x'; clear hs)
      | (go_at_call 10; refine (wakes3_any _).mono ?_; rintro e w2 ⟨rfl, hw2⟩))
    go_ret
    exact ⟨rfl, hw1.trans hw2⟩
  · go_enter Try.func6, Try.ntmps6
    go_wp2_with (first
      | (go_at_call 9; refine (great3_any _ k ca R L C Z AL.out (by omega) _ am).mono ?_; rintro e w' ⟨rfl, hw'⟩; subst w'; rw [h1])
      | (go_at_call 14; refine (enc_res _ k ca R L C Z N _ am).mono ?_; rintro e w1 ⟨v, x', kk', rfl, hr1, hs, hw1⟩; obtain ⟨e4, -⟩ := encsays_unique hx hs; subst x'; clear hs)
      | (go_at_call 10; refine (wakes3_any _).mono ?_; rintro e w2 ⟨rfl, hw2⟩))
    go_ret
    exact ⟨rfl, hw1.trans hw2⟩
  · subst c3
    go_enter Try.func6, Try.ntmps6
    go_wp2_with (first
      | (go_at_call 9; refine (great3_any _ k ca R L C Z AL.out (by omega) _ am).mono ?_; rintro e w' ⟨rfl, hw'⟩; subst w'; rw [h1])
      | (go_at_call 14; refine (enc_res _ k ca R L C Z N _ am).mono ?_; rintro e w1 ⟨v, x', kk', rfl, hr1, hs, hw1⟩; obtain ⟨e4, -⟩ := encsays_unique hx hs; subst x'; clear hs)
      | (go_at_call 10; refine (wakes3_any _).mono ?_; rintro e w2 ⟨rfl, hw2⟩))
    go_ret
    exact ⟨rfl, hw1.trans hw2⟩

attribute [local go_sem] List.getElem?_cons_zero Option.getD_some

set_option maxRecDepth 100000 in
set_option maxHeartbeats 4000000 in
theorem sp_main (A B : Option Addr) (k ca l cb : Nat) (R : Nat → Option Addr) (L C : Nat → Nat) (Z : Nat → Nat → Int) (f : Nat → Int) (n : Nat) (w : World) (ha : InMat w A k ca R L C Z) (hb : InInts w B l cb f) (h1 : great3 k L = false) (h2 : 0 < k) (h3 : 0 < L 0) (hx : EncSays k L (n : Int) 0 n) (hnk : k < n) (hl0 : 0 < l) :
    Calls Try.prog 6 #[.slice A k ca, .int .i64 (n : Int), .slice B l cb] w fun e w' => e = .returned (.bool true) ∧ Bw w w' := by
  obtain ⟨i0, hi0, hz0, hz1, hz2⟩ := info_parts info_int
  have hk := (great3_no h1).1
  have AL : Hid (∀ r, r < k → L r ≤ 140737488355328) := fun r hr => by have := (great3_no h1).2 r hr; omega
  obtain ⟨hkn, hra, -⟩ := encsays_ok hx
  obtain ⟨n1, n2, n3⟩ := kn_ok hkn
  have hbl : l ≤ 140737488355328 := by have := hb.le; have := hb.room; omega
  have HF : Hid (∀ i, -9223372036854775808 ≤ f i ∧ f i ≤ 9223372036854775807) := hb.bd
  have bi := hb.row
  have am := ha.mat
  have hq : L 0 ≤ 131072 := (rows_ok hra).1 0 (by omega)
  have HZ : Hid (∀ j, j < k → ∀ c, 0 ≤ Z j c ∧ Z j c < 256) := fun j hj => (am.2 j hj).2
  have HK : Hid (KnWrong (k : Int) (n : Int) 0) := hkn
  have HR : Hid (RowsWrong k L 0) := hra
  have c4 : ((n : Int) != (n : Int)) = false := by simp
  have c5 : ((n : Int) == (k : Int)) = false := by simp; omega
  have c6 : ((l : Int) == 0) = false := by simp; omega
  obtain ⟨b1, o1, rfl, hc1⟩ := am.at (k := 0) (by omega)
  have g1 := hc1 0 (by omega)
  rw [Nat.add_zero] at g1
  have e1 : ((k : Int) == 0) = false := by simp; omega
  have e2 : (0 : Int) < (k : Int) := by omega
  have e3 : ((L 0 : Int) == 0) = false := by simp; omega
  obtain ⟨b2, o2, rfl, hc2⟩ := bi.resolve_left (by omega)
  have g2 := hc2 0 (by omega)
  rw [Nat.add_zero] at g2
  clear hb ha hra hc1 hc2
  generalize hq0 : L 0 = q at *
  obtain ⟨r0, hr0, hrn⟩ := tmod_nat (a := (l : Int)) (n := n - k) (by omega) (by omega)
  rw [show ((n - k : Nat) : Int) = (n : Int) - (k : Int) by omega] at hr0
  obtain ⟨b, hbe⟩ : ∃ b : Nat, b = 1 + r0 := ⟨_, rfl⟩
  have hb1 : (1 : Int) + (r0 : Int) = (b : Int) := by omega
  have hb0 : 0 < b := by omega
  have hbn : b ≤ n - k := by omega
  clear hbe
  obtain ⟨z, hz⟩ : ∃ z, (f 0).tmod (q : Int) = z := ⟨_, rfl⟩
  have hzb := tmod_bd (f 0) (n := q) h3
  rw [hz] at hzb
  obtain ⟨p, hp, hpq⟩ := tmod_nat (a := z + (q : Int)) (n := q) (by omega) h3
  have nk1 : (n : Int) - (k : Int) ≠ 0 := by omega
  have q1 : (q : Int) ≠ 0 := by omega
  have p0 : (0 : Int) ≤ (p : Int) := Int.natCast_nonneg _
  have p1 : (p : Int) < (q : Int) := by omega
  go_enter Try.func6, Try.ntmps6
  go_wp2_with (first
    | (go_at_call 9; refine (great3_any _ k ca R L C Z AL.out (by omega) _ am).mono ?_; rintro e w' ⟨rfl, hw'⟩; subst w'; rw [h1])
    | (go_at_call 14; refine (enc_ok2 _ k n ca R L C Z _ am HK.out HR.out).mono ?_; rintro e w1 ⟨bX, RX, CX, rfl, hX0, hw1⟩; rw [hq0] at hX0; have hX := hX0.mat; have hXr := hX0.rows; clear hX0)
    | (go_at_call 22; (try rw [hb1]); refine (chosen_any _ l cb n b f _ (bi.keep hw1) HF (by omega) (by omega) (by omega) hbl).mono ?_; rintro e w2 ⟨A2, cap2, g, rfl, hi2, hg2, hw2⟩; have HG : Hid (Good b (n : Int) g) := hg2; have hX2 := hX.keep hw2; clear hg2)
    | (go_at_call 13; refine (rcopied_apart _ n _ RX _ CX _ _ hX2 (fun r hr e => by rcases hXr r hr with h0 | ⟨g, o, e', _⟩; (exact absurd h0 (by omega)); rw [e] at e'; cases e') (fun r hr => by omega) (by omega)).mono ?_; rintro e w3 ⟨v, R3, C3, rfl, ho3, hf3, ha3, hw3⟩; obtain ⟨A3, cap3, rfl, -, -⟩ := matw_of ho3 hf3; obtain ⟨ob, oo, rfl, hob, hsp3⟩ := SpW.of_own ho3 hf3 ha3 (by omega); have hri := rows_in ho3; have HRI : Hid (∀ b, RowsOf n R3 b → w2.heap.size ≤ b ∧ b < w3.heap.size) := hri; clear ho3 hf3 ha3 hri))
  have hsd : Hid (ShWrong (k : Int) (n : Int) n n (fun _ => q) (fun i => (i : Int)) 0) := show ShWrong (k : Int) (n : Int) n n (fun _ => q) (fun i => (i : Int)) 0 from Or.inr (Or.inr (Or.inr (Or.inr ⟨HK.out, rfl, fun i hi => ⟨show (0 : Int) ≤ (i : Int) ∧ (i : Int) < (n : Int) by omega, fun j hj => show (j : Int) ≠ (i : Int) by omega⟩, by omega, Or.inr (Or.inr ⟨rfl, fun _ _ => hq, fun _ _ => rfl⟩)⟩)))
  have g2' : w2.cell? ⟨b2, o2, none⟩ = some (.int .i64 (f 0)) := cell_bw (hw1.trans hw2) g2
  clear hX hX2 hXr
  go_loopw [12] (fun i wr => ∃ (t : Nat) (Y : Nat → Nat → Int), t ≤ b ∧ i = .int .i64 t ∧ SpW wr ob oo n q R3 C3 Y ∧ Hid (∀ i, i < n → (∀ s, s < t → g s ≠ (i : Int)) → Y i = wordI k Z i) ∧ Hid (∀ s, s < t → Y (g s).toNat p ≠ wordI k Z (g s).toNat p) ∧ Bw w2 wr) (fun i _ => b - (intOf i).toNat)
  case atStart => exact ⟨0, _, Nat.zero_le _, rfl, hsp3, (fun i _ _ => rfl), (fun s hs => by omega), hw3⟩
  case round =>
    rename World => w4
    obtain ⟨t, Y, htb, rfl, hsp, hun, hto, hw4⟩ := hrel
    by_cases hlt : t < b
    · obtain ⟨y, hy⟩ : ∃ y : Nat, g t = (y : Int) := ⟨(g t).toNat, by have := (HG.out t hlt).1; omega⟩
      have hyn : y < n := by have := (HG.out t hlt).1; omega
      have HYu : Hid (Y y = wordI k Z y) := hun.out y hyn (fun s hs e => (HG.out t hlt).2 s hs (by rw [e, hy]))
      have HY : Hid (g t = (y : Int)) := hy
      obtain ⟨rb, ro, hrb, m1, m2⟩ := hsp.row hyn hpq
      have hge := (HRI.out rb ⟨y, _, hyn, hrb, rfl⟩).1
      obtain ⟨b5, o5, e5, hc5⟩ := hsp.mat.at hyn
      cases e5
      have h5 := hc5 y hyn
      rw [hrb] at h5
      obtain ⟨b6, o6, rfl, hc6⟩ := (hi2.keep hw4).resolve_left (by omega)
      have h6 := hc6 t hlt
      rw [hy] at h6
      have g3 := cell_bw hw4 g2'
      have hYb := (hsp.mat.2 y hyn).2 p
      have hx1 := addI_bd (Y y p) (1 + (t : Int)) hYb.2 (by omega)
      have r1 : bits .xor .u8 (Y y p) (1 + (t : Int)) = addI (Y y p) (1 + (t : Int)) := u8_xor _ _ hYb.1 hYb.2 (by omega) (by omega)
      have hand := and127 t (by omega)
      have hput := hsp.put hyn hpq hrb hx1
      have HP : Hid (SpW (w4.setCell ⟨rb, ro + p, none⟩ (.int .u8 (addI (Y y p) (1 + (t : Int))))) ob oo n q R3 C3 (upd Y y (upd (Y y) p (addI (Y y p) (1 + (t : Int)))))) := hput
      have HN : Hid (addI (Y y p) (1 + (t : Int)) ≠ Y y p) := add_ne hYb (by omega)
      have t0 : (0 : Int) ≤ (t : Int) := Int.natCast_nonneg _
      have t1 : (t : Int) < (b : Int) := by omega
      have y0 : (0 : Int) ≤ (y : Int) := Int.natCast_nonneg _
      have y1 : (y : Int) < (n : Int) := by omega
      have l0 : (0 : Int) < (l : Int) := by omega
      clear hc5 hc6 hy hput
      go_wp2
      go_roundw
      case rel =>
        refine ⟨t + 1, _, by omega, by go_num, HP.out, (fun i hi hno => ?_), (fun s hs => ?_), Bw.put hw4 hge _ _⟩
        · have hne : i ≠ y := fun e => hno t (by omega) (by rw [HY.out, e])
          rw [upd_ne _ _ hne]
          exact hun.out i hi (fun s hs => hno s (by omega))
        · by_cases e : s = t
          · subst e
            rw [HY.out, Int.toNat_natCast, upd_at, upd_at, ← HYu.out]
            exact HN.out
          · have hs' : s < t := by omega
            have hgs := (HG.out s (by omega)).1
            have hne : (g s).toNat ≠ y := fun e2 => (HG.out t hlt).2 s hs' (by rw [HY.out, ← e2]; omega)
            rw [upd_ne _ _ hne]
            exact hto.out s hs'
      case measure => simp [intOf]; omega
    · have ek : b = t := by omega
      subst ek
      have hnone : Hid (¬ ∃ D, WordOf k D n q (fun i => (i : Int)) Y) := spoilt_none (by omega) (by omega) (by omega) hpq hb0 hbn HZ.out HG.out (fun i hi h => by rw [hun.out i hi h]) hto.out
      have hds : Hid (DecSays (k : Int) (n : Int) n n (fun _ => q) (fun i => (i : Int)) Y 31 0 Y) := show DecSays (k : Int) (n : Int) n n (fun _ => q) (fun i => (i : Int)) Y 31 0 Y from Or.inr (Or.inl ⟨hsd.out, rfl, rfl, by rw [Int.toNat_natCast]; exact hnone.out⟩)
      have hmm := hsp.mat
      clear hsp hun hto
      go_wp2
      go_loopw [15, 16] (fun v i wr => ∃ t : Nat, t ≤ n ∧ i = .int .i64 t ∧ wr.ownsRow w4.heap.size 3 1 v t (intsU (fun i => (i : Int)) t) ∧ Bw w4 wr) (fun _ i _ => n - (intOf i).toNat)
      case atStart => exact ⟨0, Nat.zero_le _, rfl, World.ownsRow_nil _ _ _ _, Bw.refl _⟩
      case round =>
        obtain ⟨u, hu, rfl, hown, hwu⟩ := hrel
        by_cases hun : u < n
        · have hmx : u + 1 ≤ maxLen := by unfold maxLen; omega
          have hsz := hwu.size
          have ha5 : Bw w4 (wr.alloc (.cells #[.int .i64 (u : Int)] 3)) := hwu.alloc hsz _
          have u1 : (u : Int) < (n : Int) := by omega
          go_wp2_with (at_builtin; refine wpList_append_lies _ (by rfl) (.tmp 116) (.tmp 118) _ (by rfl) w4.heap.size 3 i0 _ 1 8 Try.underlying33 hi0 hz0 hz1 hz2 rfl (by omega) _ _ _ (by rfl) (hown.alloc _) ⟨wr.heap.size, 0, none⟩ 1 1 [.int .i64 (u : Int)] (by rfl) (by rfl) (World.news_of_block (cs := #[.int .i64 (u : Int)]) (t := 3) (fr := (0, 0)) (heap_alloc_new wr _)) (by simp [Value.oneCell']) (by omega) hmx (by omega) (by simp; omega) (wr.heap.size + 1) (by simp) ?_; intro gg cc w6 hown6 hgrow6 hat hlt')
          have hb6 : Bw w4 w6 := bw_grow hgrow6 ha5 ha5.size (hown.alloc _)
          rw [← intsU_succ (fun i => (i : Int)) u] at hown6
          go_roundw
          case rel => exact ⟨u + 1, by omega, by go_num, hown6, hb6⟩
          case measure => simp [intOf]; omega
        · have ek : n = u := by omega
          subst ek
          obtain ⟨A7, cap7, rfl, hi7, -, -⟩ := ints_of_own hown
          have u1 : ¬ (n : Int) < (n : Int) := by omega
          go_wp2_with (first
            | (go_at_call 18; refine (dec_all (k : Int) (n : Int) _ A7 n n cap3 cap7 R3 _ C3 Y (fun i => (i : Int)) _ (hmm.keep hwu) hi7 (by omega) (by omega)).mono ?_; rintro e w8 ⟨v, x', kk, D, rfl, hr8, hs8, hw8⟩; obtain ⟨e1', e2', -⟩ := decsays_unique hds.out hs8; subst x'; subst kk; obtain ⟨A8, cap8, R8, C8, rfl, hn8⟩ := hr8; clear hs8 hn8)
            | (go_at_call 10; refine (wakes3_any _).mono ?_; rintro e w9 ⟨rfl, hw9⟩))
          go_ret
          exact ⟨rfl, hw1.trans (hw2.trans (hw4.trans (hwu.trans (hw8.trans hw9))))⟩

theorem walk (a0 : Option Addr) (len0 cap0 : Nat) (R0 : Nat → Option Addr) (L0 C0 : Nat → Nat) (Z0 : Nat → Nat → Int) (a1 : Int) (a2 : Option Addr) (len2 cap2 : Nat) (f2 : Nat → Int) (w : World) (w0 : InMat w a0 len0 cap0 R0 L0 C0 Z0) (w1 : (Lit.int .i64 a1).wf = true) (w2 : InInts w a2 len2 cap2 f2) :
    Calls Try.prog 6 #[.slice a0 len0 cap0, .int .i64 a1, .slice a2 len2 cap2] w fun e w' => e = .returned (.bool true) ∧ Below w.heap.size w w' := by
  cases g1 : great3 len0 L0 with
  | true => exact sp_early _ _ _ _ _ _ _ _ _ _ _ w w0 (Or.inl g1)
  | false =>
    by_cases hk0 : len0 = 0
    · exact sp_early _ _ _ _ _ _ _ _ _ _ _ w w0 (Or.inr (Or.inl ⟨g1, hk0⟩))
    · by_cases hq0 : L0 0 = 0
      · exact sp_early _ _ _ _ _ _ _ _ _ _ _ w w0 (Or.inr (Or.inr ⟨g1, by omega, hq0⟩))
      · obtain ⟨x, k1, hx⟩ := enc_some len0 L0 a1
        by_cases hx0 : x = 0
        · by_cases hnk : a1 = (len0 : Int)
          · exact sp_enc _ _ _ _ _ _ _ _ _ _ _ w w0 g1 (by omega) (by omega) x k1 hx (Or.inr (Or.inl ⟨by simp [hx0], by simp [hnk]⟩))
          · by_cases hl0 : len2 = 0
            · exact sp_enc _ _ _ _ _ _ _ _ _ _ _ w w0 g1 (by omega) (by omega) x k1 hx (Or.inr (Or.inr ⟨by simp [hx0], by simpa using hnk, hl0⟩))
            · subst hx0
              obtain ⟨hkn, -, ex⟩ := encsays_ok hx
              have hk := kn_ok hkn
              subst ex
              exact sp_main _ _ _ _ _ _ _ _ _ _ _ _ w w0 w2 g1 (by omega) (by omega) hx (by omega) (by omega)
        · exact sp_enc _ _ _ _ _ _ _ _ _ _ _ w w0 g1 (by omega) (by omega) x k1 hx (Or.inl (by simpa using hx0))

set_option maxRecDepth 100000 in
theorem lifted (os : Os) (started : os.Started) (H : Type) (enc : TypeId × Value → H) :
    ReturnsInHanded {} Try.checked os 6 .any (Rows.codeSpoiltSpec.pre6 enc Try.prog Try.f6 Rows.codeSpoiltRow.domain false) (Rows.codeSpoiltSpec.post enc Try.prog Try.f6 false true false false) := by
  refine returnsInHanded_of_change_sized (C := Try.checked) own started (by kernel_rfl) Try.func6
    (ChangeSpec.witness6 (enc := enc) (C := Try.checked) false ⟨#[], #[.slice none 0 0, .int .i64 0, .slice none 0 0], []⟩ 8 (by kernel_rfl) (by kernel_rfl) (by kernel_rfl) (by kernel_rfl)) ?_
  intro W base args ds gs before hval0 hW hcnd hsz0 _
  have hval : ∀ (j : Nat) t v, Try.f6.params[j]? = some t → args[j]? = some v → Value.okWide Try.prog W .any base t v := hval0
  have hW' := hW
  obtain ⟨p, q, hA0, hV, rfl, hfz, hnd⟩ := hW
  have hA : DataW.TrodAll enc Try.prog W 0 (fun _ => true) true Try.f6.params.toList args.toList ds p := hA0
  have hsz : (DataW.weightsEach Try.prog (Try.f6.params.toList ++ Rows.codeSpoiltSpec.plain.varTypes Try.prog) (ds ++ gs)).all (· ≤ reachBytes) = true := hsz0
  rw [Try.params6] at hA hval hsz
  obtain ⟨v0, vs0, d0, ds0, p0, q0, hargs, rfl, rfl, h0, r0⟩ := trodAll_cons hA
  obtain ⟨v1, vs1, d1, ds1, p1, q1, rfl, rfl, rfl, h1, r1⟩ := trodAll_cons r0
  obtain ⟨v2, vs2, d2, ds2, p2, q2, rfl, rfl, rfl, h2, r2⟩ := trodAll_cons r1
  obtain ⟨rfl, rfl, rfl⟩ := trodAll_nil r2
  obtain rfl : args = #[v0, v1, v2] := by cases args; simp_all
  obtain ⟨rfl, rfl⟩ := trodVars_none hV
  obtain ⟨a0, len0, cap0, rfl⟩ := okWide_slice Try.underlying22 (hval 0 22 v0 rfl rfl)
  have k0 := h0
  have lt0 : ∀ x ∈ p0, x.block < W.heap.size := by obtain ⟨m, hm⟩ := k0; exact DataW.trod_lt m _ _ _ hm
  obtain ⟨R0, L0, C0, Z0, w0⟩ := open_rows h0 (fun x hx => by simpa using List.all_eq_true.1 hsz x (DataW.weights_mem_each (j := 0) (t := 22) rfl rfl x hx))
  obtain ⟨a1, rfl, rfl, rfl, w1⟩ := open_int Try.underlying3 (hval 1 3 v1 rfl rfl) h1
  obtain ⟨a2, len2, cap2, rfl⟩ := okWide_slice Try.underlying33 (hval 2 33 v2 rfl rfl)
  have k2 := h2
  have lt2 : ∀ x ∈ p2, x.block < W.heap.size := by obtain ⟨m, hm⟩ := k2; exact DataW.trod_lt m _ _ _ hm
  obtain ⟨f2, w2⟩ := open_introw h2 (fun x hx => by simpa using List.all_eq_true.1 hsz x (DataW.weights_mem_each (j := 2) (t := 33) rfl rfl x hx))
  clear hA0 hval0
  refine (walk a0 len0 cap0 R0 L0 C0 Z0 a1 a2 len2 cap2 f2 W w0 w1 w2).mono fun e W' ⟨he, bel⟩ => ?_
  subst he
  exact ⟨_, rfl, _, _, _, [], _, [], hW', trodAll_mk1 (shut_bool Try.underlying4 _), (trodAll_cons_mk (Below.trod laidOut (by kernel_rfl) (of_decide_eq_true (by kernel_rfl)) k0 bel lt0) (trodAll_cons_mk (shut_int Try.underlying3 w1) (trodAll_cons_mk (Below.trod laidOut (by kernel_rfl) (of_decide_eq_true (by kernel_rfl)) k2 bel lt2) trodAll_mk0))), rfl, bel.frame _, fun h => by cases h⟩

theorem over : Rows.codeSpoiltRow.holds Try.pinned (OpenSpec.ofChange Rows.codeSpoiltSpec) :=
  OpenClaim.holds_of_wide 6 Try.f6 rfl rfl rfl rfl rfl rfl rfl ⟨rfl, rfl, rfl, rfl, rfl⟩ rfl rfl rfl rfl rfl (by kernel_rfl) Try.func6 (by kernel_rfl)
    (of_decide_eq_true (by kernel_rfl)) (by unfold Func.isWrapper; first | (rw [if_pos (by decide +kernel)]; kernel_rfl) | (rw [if_neg (by decide +kernel)]; exact ⟨rfl, rfl⟩))
    (fun os started H enc _ => lifted os started H enc)

theorem proved : Rows.CodeSpoiltSaid := over
#print axioms proved
end Go.Proofs.Ytbhbdhkifkmkbaa.codeSpoilt
