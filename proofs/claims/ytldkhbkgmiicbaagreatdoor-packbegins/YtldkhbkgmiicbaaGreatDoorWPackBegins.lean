/- Proved: for every two lists of items and every number the statement PackBegins answers true (the document's P12.7: the volume of a beginning is the beginning of the volume; unlike trees have unlike volumes). -/
import Derived.Test.YtldkhbkgmiicbaaGreatDoorBu45
import Derived.Test.YtldkhbkgmiicbaaGreatDoorBu43
import Derived.Test.YtldkhbkgmiicbaaGreatDoorCards
import Derived.Test.YtldkhbkgmiicbaaGreatDoorTie
import Derived.ShutString
import Derived.ChangeOld
import Derived.SevenTiedAt
namespace Go.Proofs.YtldkhbkgmiicbaaGreatDoor.packBegins
open Go.ChangeShapes Go.WideShapes Go.ChangeAt Go.RowKit Go.Deep
set_option linter.unusedVariables false

set_option linter.unusedSimpArgs false
open Go.Deep
theorem rowF_ext {a b : Pk.B} (hl : a.length = b.length) (h : ∀ i, i < a.length → Hd.rowF a i = Hd.rowF b i) : a = b := by
  apply List.ext_getElem hl
  intro i h1 h2
  have := h i h1
  unfold Hd.rowF at this
  rw [List.getD_eq_getElem?_getD, List.getD_eq_getElem?_getD, List.getElem?_eq_getElem h1, List.getElem?_eq_getElem h2, Option.getD_some, Option.getD_some] at this
  exact UInt8.toNat_inj.1 (by omega)
theorem flat_pre (t : List Tr.It) (k : Nat) : Pk.flat t = Pk.flat (t.take k) ++ Pk.flat (t.drop k) := by
  unfold Pk.flat
  rw [← List.flatMap_append, List.take_append_drop]
theorem wr_fits {t : List Tr.It} (hc : (Tr.chkE t).2 = 0) (hl : (Pk.flat t).length + 1024 ≤ 131072) : Pk.wr t = (Pk.flat t ++ List.replicate 1024 0, 0, 0) := by
  rw [Pk.wr_good hc]
  rcases Pk.upto_cases t t.length (Nat.le_refl _) with g | ⟨i, x, h1, h2, h3, h4⟩
  · exact Pk.upto_end g
  · rw [← Pk.flat_take h2] at h4
    have := congrArg List.length (flat_pre t (i + 1))
    rw [List.length_append] at this
    omega
theorem wr_is {t : List Tr.It} {B : Pk.B} {i : Nat} {er : Int} (h : Pk.wr t = (B, i, er)) : (er ≠ 0 ∧ B = []) ∨ (er = 0 ∧ B = Pk.flat t ++ List.replicate 1024 0 ∧ (Pk.flat t).length + 1024 ≤ 131072 ∧ Tr.Ok t) := by
  rcases Pk.wr_cases t with ⟨h1, e⟩ | ⟨_, j, _, e⟩ | ⟨h1, g, e⟩
  · rw [e] at h; cases h; exact .inl ⟨h1, rfl⟩
  · rw [e] at h; cases h; exact .inl ⟨by decide, rfl⟩
  · rw [e] at h; cases h
    have := g.2.2
    rw [List.take_length] at this
    exact .inr ⟨rfl, rfl, this, (Tr.chk_zero h1).2⟩
theorem write_said (a0 : Option Addr) (len0 cap0 l i : Nat) (er : Int) (L : List Tr.Iv) (B : Pk.B) (hlen : L.length = len0) (hb : len0 ≤ 4611686018427387904) (hle : len0 ≤ cap0) (hR : Pk.wr (Tr.its L) = (B, i, er)) (hl : B.length = l) (u : World) (hI : ItsAt u a0 L) (hk : KTAt u) :
    Calls Tryz.prog 9 #[.slice a0 len0 cap0] u fun e w' => (∃ A c', e = .returned (.tuple #[.slice A l c', .int .i64 (i : Int), .int .i64 er]) ∧ RowAt w' A l (Hd.rowF B) ∧ l ≤ c') ∧ Bw u w' := by
  have := pkwrite_any a0 cap0 L (by omega) (by omega) u hI hk
  rw [hlen] at this
  refine this.mono fun e w' ⟨⟨v, h1, h2⟩, h3⟩ => ⟨?_, h3⟩
  rw [hR] at h1 h2
  dsimp only at h1 h2
  obtain ⟨A, c', rfl, hr, -⟩ := own_rowx h2
  rw [hl] at h1 hr h2
  refine ⟨A, c', h1, hr, ?_⟩
  rcases h2.2 with ⟨e1, _⟩ | ⟨g, cap, cur, e1, _, _, h5, _⟩
  · cases e1; omega
  · cases e1; exact h5
set_option maxRecDepth 100000 in
set_option maxHeartbeats 4000000 in
theorem walk (a0 : Option Addr) (len0 cap0 : Nat) (L0 : List Tr.Iv) (a1 : Option Addr) (len1 cap1 : Nat) (L1 : List Tr.Iv) (a2 : Int) (w : World) (hk : KTAt w) (w0 : InIts w a0 len0 cap0 L0) (w1 : InIts w a1 len1 cap1 L1) (w2 : (Lit.int .i64 a2).wf = true) :
    Calls Tryz.prog 7 #[.slice a0 len0 cap0, .slice a1 len1 cap1, .int .i64 a2] w fun e w' => e = .returned (.bool true) ∧ Below w.heap.size w w' := by
  obtain ⟨hlen, hits, hle, hroom, hnil⟩ := w0
  obtain ⟨hlen1, hits1, hle1, hroom1, hnil1⟩ := w1
  have HK : Hid (KTAt w) := hk
  clear hk
  have HNL : Hid (L0.length = len0) := hlen
  have HI : Hid (ItsAt w a0 L0) := hits
  have HI1 : Hid (ItsAt w a1 L1) := hits1
  have HNL1 : Hid (L1.length = len1) := hlen1
  obtain ⟨B, vi, er, hR⟩ : ∃ r i er, Hid (Pk.wr (Tr.its L0) = (r, i, er)) := ⟨_, _, _, show Pk.wr (Tr.its L0) = _ from rfl⟩
  obtain ⟨l, hl⟩ : ∃ l, Hid (B.length = l) := ⟨_, rfl⟩
  have hBl : l ≤ 131072 := by have := Pk.wr_len (Tr.its L0); rw [hR.out] at this; rw [← hl.out]; exact this
  have HWt : Hid (∀ u, Bw w u → Calls Tryz.prog 9 #[.slice a0 len0 cap0] u fun e w' => (∃ A c', e = .returned (.tuple #[.slice A l c', .int .i64 (vi : Int), .int .i64 er]) ∧ RowAt w' A l (Hd.rowF B) ∧ l ≤ c') ∧ Bw u w') := fun u hu => write_said a0 len0 cap0 l vi er L0 B HNL.out (by omega) hle hR.out hl.out u (HI.out.keep hu) (HK.out.keep hu)
  obtain ⟨C, ci, ce, hRu⟩ : ∃ r i er, Hid (Pk.wr (Tr.its L1) = (r, i, er)) := ⟨_, _, _, show Pk.wr (Tr.its L1) = _ from rfl⟩
  obtain ⟨lc, hlc⟩ : ∃ l, Hid (C.length = l) := ⟨_, rfl⟩
  have hCl : lc ≤ 131072 := by have := Pk.wr_len (Tr.its L1); rw [hRu.out] at this; rw [← hlc.out]; exact this
  have HWu : Hid (∀ u, Bw w u → Calls Tryz.prog 9 #[.slice a1 len1 cap1] u fun e w' => (∃ A c', e = .returned (.tuple #[.slice A lc c', .int .i64 (ci : Int), .int .i64 ce]) ∧ RowAt w' A lc (Hd.rowF C) ∧ lc ≤ c') ∧ Bw u w') := fun u hu => write_said a1 len1 cap1 lc ci ce L1 C HNL1.out (by omega) hle1 hRu.out hlc.out u (HI1.out.keep hu) (HK.out.keep hu)
  have HAw : Hid (Calls Tryz.prog 22 #[] w fun e w' => e = .returned (.bool true) ∧ Bw w w') := awake12_any w HK.out
  have hcases := wr_is hR.out
  have hcu := wr_is hRu.out
  clear hlen hits hnil hlen1 hits1 hnil1
  have tk1 : Hid (w = w) := rfl
  have tk2 : Hid (w = w) := rfl
  by_cases h0 : er = 0
  rotate_left
  · have hB0 : B = [] := by rcases hcases with h | h; exact h.2; exact absurd h.1 h0
    have l0 : l = 0 := by rw [← hl.out, hB0]; rfl
    subst l0
    have e1 : (er != 0) = true := by rw [bne_iff_ne]; exact h0
    clear hcases hcu HWu
    go_enter Tryz.func7, Tryz.ntmps7
    go_wp2_with (first
      | (go_at_call 22; refine HAw.out.mono ?_; rintro e w1 ⟨rfl, hw1⟩)
      | (go_at_call 9; refine (HWt.out _ hw1).mono ?_; rintro e w2 ⟨⟨A2, c2, rfl, hr2, hc2⟩, hw2⟩))
    go_ret
    exact ⟨rfl, hw1.trans hw2⟩
  · subst h0
    obtain ⟨hBe, hfl, hok⟩ : B = Pk.flat (Tr.its L0) ++ List.replicate 1024 0 ∧ (Pk.flat (Tr.its L0)).length + 1024 ≤ 131072 ∧ Tr.Ok (Tr.its L0) := by
      rcases hcases with h | h
      · exact absurd rfl h.1
      · exact h.2
    have hn256 : L0.length ≤ 256 := by
      have : (Tr.chkE (Tr.its L0)).2 = 0 := by
        rcases Pk.wr_cases (Tr.its L0) with ⟨h1, e⟩ | ⟨h1, _⟩ | ⟨h1, _⟩
        · rw [hR.out] at e; exact absurd (congrArg (fun z => z.2.2) e).symm h1
        · exact h1
        · exact h1
      have := (Tr.chk_zero this).1
      rwa [Tr.its_len] at this
    -- where it is cut
    obtain ⟨k, hk⟩ : ∃ k : Nat, Hid ((k : Int) = if a2 < 0 ∨ (len0 : Int) < a2 then (len0 : Int) / 2 else a2) := by
      refine ⟨(if a2 < 0 ∨ (len0 : Int) < a2 then (len0 : Int) / 2 else a2).toNat, ?_⟩
      show _ = _
      split <;> omega
    have hkl : k ≤ len0 := by
      have := hk.out
      split at this <;> omega
    have hTk : (L0.take k).length = k := by rw [List.length_take, HNL.out]; omega
    obtain ⟨F, hF⟩ : ∃ F, Hid (Pk.flat (Tr.its (L0.take k)) = F) := ⟨_, rfl⟩
    obtain ⟨q, hq⟩ : ∃ q, Hid (F.length = q) := ⟨_, rfl⟩
    have hpre : Pk.flat (Tr.its L0) = F ++ Pk.flat ((Tr.its L0).drop k) := by rw [← hF.out, Tr.its_take]; exact flat_pre _ k
    have hql : q ≤ (Pk.flat (Tr.its L0)).length := by rw [hpre, List.length_append, hq.out]; omega
    have hwk : Pk.wr (Tr.its (L0.take k)) = (F ++ List.replicate 1024 0, 0, 0) := by
      rw [← hF.out]
      refine wr_fits ?_ (by rw [hF.out, hq.out]; omega)
      rw [Tr.its_take, Tr.chk_good (by rw [List.length_take, Tr.its_len]; omega) (Tr.ok_take hok k)]
    obtain ⟨la, hla⟩ : ∃ la, Hid (q + 1024 = la) := ⟨_, rfl⟩
    have HWk : Hid (∀ u, Bw w u → Calls Tryz.prog 9 #[.slice a0 k cap0] u fun e w' => (∃ A c', e = .returned (.tuple #[.slice A la c', .int .i64 ((0 : Nat) : Int), .int .i64 0]) ∧ RowAt w' A la (Hd.rowF (F ++ List.replicate 1024 0)) ∧ la ≤ c') ∧ Bw u w') := fun u hu => write_said a0 k cap0 la 0 0 (L0.take k) _ hTk (by omega) (by omega) hwk (by rw [List.length_append, List.length_replicate, hq.out, hla.out]) u ((HI.out.keep hu).take k) (HK.out.keep hu)
    have hlq : q + 1024 ≤ l := by
      have := hl.out
      rw [hBe, List.length_append, List.length_replicate] at this
      omega
    have hla2 := hla.out
    have q1 : (la : Int) - 1024 = (q : Int) := by omega
    have q2 : decide ((l : Int) < (la : Int)) = false := by rw [decide_eq_false_iff_not]; omega
    have q2' : ¬ (l : Int) < (la : Int) := by omega
    have q5 : decide (l < la) = false := by rw [decide_eq_false_iff_not]; omega
    have q6 : ¬ l < la := by omega
    have q4 : IntKind.i64.wrap ((la : Int) - 1024) = (q : Int) := by rw [IntKind.wrap_i64]; omega
    have hlq2 : q ≤ l := by omega
    have q3 : (0 : Int) ≤ (q : Int) := Int.natCast_nonneg _
    have hlb : la ≤ 131072 := by omega
    have hqq : q ≤ 131072 := by omega
    have k0 : (0 : Int) ≤ (k : Int) := Int.natCast_nonneg _
    have k1 : (k : Int) ≤ (cap0 : Int) := by omega
    have HSp : Hid (∀ (A C : Option Addr) (ca cb : Nat) (u : World), RowAt u A la (Hd.rowF (F ++ List.replicate 1024 0)) → RowAt u C l (Hd.rowF B) → Calls Tryz.prog 12 #[.slice A q ca, .slice C q cb] u fun e w' => e = .returned (.bool true) ∧ ∃ m, w' = u.drewN m) := fun A C ca cb u h1 h2 => by
      have g1 := rowat_take (q := q) (by omega) h1
      have g2 := rowat_take (q := q) (by omega) h2
      have e1 : (F ++ List.replicate 1024 (0 : UInt8)).take q = F := by rw [List.take_append_of_le_length (by rw [hq.out]; exact Nat.le_refl _), List.take_of_length_le (by rw [hq.out]; exact Nat.le_refl _)]
      have e2 : B.take q = F := by rw [hBe, hpre, List.append_assoc, List.take_append_of_le_length (by rw [hq.out]; exact Nat.le_refl _), List.take_of_length_le (by rw [hq.out]; exact Nat.le_refl _)]
      rw [e1] at g1
      rw [e2] at g2
      refine (same12_any A C q q ca cb _ _ (by omega) (by omega) u g1 g2).mono fun e w' ⟨⟨x, hx, hx2⟩, m, hm⟩ => ⟨?_, m, hm⟩
      rw [hx, hx2.2 ⟨rfl, fun _ _ => rfl⟩]
    have HSb : Hid (∀ (A A' : Option Addr) (ca cb : Nat) (u : World), RowAt u A l (Hd.rowF B) → RowAt u A' lc (Hd.rowF C) → Calls Tryz.prog 12 #[.slice A l ca, .slice A' lc cb] u fun e w' => e = .returned (.bool (decide (B = C))) ∧ Bw u w') := fun A A' ca cb u h1 h2 => by
      refine (same12_any A A' l lc ca cb _ _ (by omega) (by omega) u h1 h2).mono fun e w' ⟨⟨x, hx, hx2⟩, m, hm⟩ => ⟨?_, bw_of_drew hm⟩
      rw [hx]
      congr 2
      by_cases e1 : B = C
      · rw [decide_eq_true e1]
        subst e1
        exact hx2.2 ⟨by rw [← hl.out, ← hlc.out], fun _ _ => rfl⟩
      · rw [decide_eq_false e1]
        cases x with
        | false => rfl
        | true =>
          have := hx2.1 rfl
          exact absurd (rowF_ext (by rw [hl.out, hlc.out]; exact this.1) (by rw [hl.out]; exact this.2)) e1
    have HSI : Hid (∀ u, Bw w u → Calls Tryz.prog 27 #[.slice a0 len0 cap0, .slice a1 len1 cap1] u fun e w' => (∃ x, e = .returned (.bool x) ∧ (x = true ↔ Tr.its L0 = Tr.its L1)) ∧ Bw u w') := fun u hu => by
      have := rsame11_any a0 a1 cap0 cap1 L0 L1 (by rw [HNL.out]; omega) (by rw [HNL1.out]; omega) u (HI.out.keep hu) (HI1.out.keep hu)
      rw [HNL.out, HNL1.out] at this
      exact this
    have HEQ : Hid (ce = 0 → ∀ x, (x = true ↔ Tr.its L0 = Tr.its L1) → (decide (B = C) == x) = true) := fun h0 x hx => by
      obtain ⟨hCe, _, hok1⟩ : C = Pk.flat (Tr.its L1) ++ List.replicate 1024 0 ∧ (Pk.flat (Tr.its L1)).length + 1024 ≤ 131072 ∧ Tr.Ok (Tr.its L1) := by
        rcases hcu with h | h
        · exact absurd h0 h.1
        · exact h.2
      have iff : B = C ↔ Tr.its L0 = Tr.its L1 := by
        constructor
        · intro e
          rw [hBe, hCe] at e
          exact Pk.flat_inj (Pk.ok_all hok) (Pk.ok_all hok1) (List.append_cancel_right e)
        · intro e
          rw [hBe, hCe, e]
      have : x = decide (B = C) := by
        by_cases e : B = C
        · rw [decide_eq_true e, hx.2 (iff.1 e)]
        · rw [decide_eq_false e]
          cases x with
          | false => rfl
          | true => exact absurd (iff.2 (hx.1 rfl)) e
      rw [this]; exact beq_self_eq_true _
    obtain ⟨bc, hbc⟩ : ∃ x, Hid (decide (B = C) = x) := ⟨_, rfl⟩
    rw [hbc.out] at HEQ HSb
    have HKk : Hid ((k : Int) = if a2 < 0 ∨ (len0 : Int) < a2 then (len0 : Int) / 2 else a2) := hk
    clear hcases hcu hBe hfl hok hn256 hpre hql hwk hla2 hTk hk hlq
    go_enter Tryz.func7, Tryz.ntmps7
    go_upto_region 6 with (first
      | (go_at_call 22; refine HAw.out.mono ?_; rintro e w1 ⟨rfl, hw1⟩)
      | (go_at_call 9; clear tk1; refine (HWt.out _ hw1).mono ?_; rintro e w2 ⟨⟨A2, c2, rfl, hr2, hc2⟩, hw2⟩))
    have hb2 := hw1.trans hw2
    by_cases c0 : a2 < 0
    · have hk2 : (len0 : Int) / 2 = (k : Int) := by have := HKk.out; rw [if_pos (.inl c0)] at this; exact this.symm
      go_upto_region 9 with (go_at_call 9; clear tk2; refine (HWk.out _ hb2).mono ?_; rintro e w3 ⟨⟨A3, c3, rfl, hr3, hc3⟩, hw3⟩; have hb3 := hb2.trans hw3)
      have hr23 := hr2.keep hw3
      have qc3 : (q : Int) ≤ (c3 : Int) := by omega
      have qc2 : (q : Int) ≤ (c2 : Int) := by omega
      have Z1 : Hid (∀ n, Calls Tryz.prog 12 #[.slice A3 q c3, .slice A2 q c2] (w3.drewN n) fun e w' => e = .returned (.bool true) ∧ ∃ m, w' = (w3.drewN n).drewN m) := fun n => HSp.out A3 A2 c3 c2 _ (hr3.keep (Bw.drewN _ n)) (hr23.keep (Bw.drewN _ n))
      go_quiet ((go_at_call 12; with_reducible (exact Calls.quiet_of (Z1.out _))))
      all_goals
        obtain ⟨w4, hw4⟩ : ∃ V, V = w3.drewN nq := ⟨_, rfl⟩
        have hSe : Bw w3 w4 := by rw [hw4]; exact Bw.drewN _ nq
        rw [← hw4]
        clear hw4 Z1
        have hb4 := hb3.trans hSe
        have hr24 := hr23.keep hSe
        clear hr2 hr3 hr23
        by_cases h9 : ce = 0
        · subst h9
          have HX := HEQ.out rfl
          go_wp2_with (first
            | (go_at_call 9; refine (HWu.out _ hb4).mono ?_; rintro e w5 ⟨⟨A5, c5, rfl, hr5, hc5⟩, hw5⟩; have hb5 := hb4.trans hw5)
            | (go_at_call 12; refine (HSb.out A2 A5 _ _ _ (hr24.keep hw5) hr5).mono ?_; rintro e w6 ⟨rfl, hw6⟩; have hb6 := hb5.trans hw6)
            | (go_at_call 27; refine (HSI.out _ hb6).mono ?_; rintro e w7 ⟨⟨x7, rfl, hx7⟩, hw7⟩; have hb7 := hb6.trans hw7; have hbx := HX x7 hx7; clear hx7))
          go_ret
          exact ⟨rfl, hb7⟩
        · have e9 : (ce != 0) = true := by rw [bne_iff_ne]; exact h9
          clear h9
          go_wp2_with (go_at_call 9; refine (HWu.out _ hb4).mono ?_; rintro e w5 ⟨⟨A5, c5, rfl, hr5, hc5⟩, hw5⟩; have hb5 := hb4.trans hw5)
          go_ret
          exact ⟨rfl, hb5⟩
    · by_cases c1 : (len0 : Int) < a2
      · have hk2 : (len0 : Int) / 2 = (k : Int) := by have := HKk.out; rw [if_pos (.inr c1)] at this; exact this.symm
        go_upto_region 9 with (go_at_call 9; clear tk2; refine (HWk.out _ hb2).mono ?_; rintro e w3 ⟨⟨A3, c3, rfl, hr3, hc3⟩, hw3⟩; have hb3 := hb2.trans hw3)
        have hr23 := hr2.keep hw3
        have qc3 : (q : Int) ≤ (c3 : Int) := by omega
        have qc2 : (q : Int) ≤ (c2 : Int) := by omega
        have Z1 : Hid (∀ n, Calls Tryz.prog 12 #[.slice A3 q c3, .slice A2 q c2] (w3.drewN n) fun e w' => e = .returned (.bool true) ∧ ∃ m, w' = (w3.drewN n).drewN m) := fun n => HSp.out A3 A2 c3 c2 _ (hr3.keep (Bw.drewN _ n)) (hr23.keep (Bw.drewN _ n))
        go_quiet ((go_at_call 12; with_reducible (exact Calls.quiet_of (Z1.out _))))
        all_goals
          obtain ⟨w4, hw4⟩ : ∃ V, V = w3.drewN nq := ⟨_, rfl⟩
          have hSe : Bw w3 w4 := by rw [hw4]; exact Bw.drewN _ nq
          rw [← hw4]
          clear hw4 Z1
          have hb4 := hb3.trans hSe
          have hr24 := hr23.keep hSe
          clear hr2 hr3 hr23
          by_cases h9 : ce = 0
          · subst h9
            have HX := HEQ.out rfl
            go_wp2_with (first
              | (go_at_call 9; refine (HWu.out _ hb4).mono ?_; rintro e w5 ⟨⟨A5, c5, rfl, hr5, hc5⟩, hw5⟩; have hb5 := hb4.trans hw5)
              | (go_at_call 12; refine (HSb.out A2 A5 _ _ _ (hr24.keep hw5) hr5).mono ?_; rintro e w6 ⟨rfl, hw6⟩; have hb6 := hb5.trans hw6)
              | (go_at_call 27; refine (HSI.out _ hb6).mono ?_; rintro e w7 ⟨⟨x7, rfl, hx7⟩, hw7⟩; have hb7 := hb6.trans hw7; have hbx := HX x7 hx7; clear hx7))
            go_ret
            exact ⟨rfl, hb7⟩
          · have e9 : (ce != 0) = true := by rw [bne_iff_ne]; exact h9
            clear h9
            go_wp2_with (go_at_call 9; refine (HWu.out _ hb4).mono ?_; rintro e w5 ⟨⟨A5, c5, rfl, hr5, hc5⟩, hw5⟩; have hb5 := hb4.trans hw5)
            go_ret
            exact ⟨rfl, hb5⟩
      · obtain rfl : a2 = (k : Int) := by have := HKk.out; rw [if_neg (fun h => h.elim c0 c1)] at this; exact this.symm
        go_upto_region 9 with (go_at_call 9; clear tk2; refine (HWk.out _ hb2).mono ?_; rintro e w3 ⟨⟨A3, c3, rfl, hr3, hc3⟩, hw3⟩; have hb3 := hb2.trans hw3)
        have hr23 := hr2.keep hw3
        have qc3 : (q : Int) ≤ (c3 : Int) := by omega
        have qc2 : (q : Int) ≤ (c2 : Int) := by omega
        have Z1 : Hid (∀ n, Calls Tryz.prog 12 #[.slice A3 q c3, .slice A2 q c2] (w3.drewN n) fun e w' => e = .returned (.bool true) ∧ ∃ m, w' = (w3.drewN n).drewN m) := fun n => HSp.out A3 A2 c3 c2 _ (hr3.keep (Bw.drewN _ n)) (hr23.keep (Bw.drewN _ n))
        go_quiet ((go_at_call 12; with_reducible (exact Calls.quiet_of (Z1.out _))))
        all_goals
          obtain ⟨w4, hw4⟩ : ∃ V, V = w3.drewN nq := ⟨_, rfl⟩
          have hSe : Bw w3 w4 := by rw [hw4]; exact Bw.drewN _ nq
          rw [← hw4]
          clear hw4 Z1
          have hb4 := hb3.trans hSe
          have hr24 := hr23.keep hSe
          clear hr2 hr3 hr23
          by_cases h9 : ce = 0
          · subst h9
            have HX := HEQ.out rfl
            go_wp2_with (first
              | (go_at_call 9; refine (HWu.out _ hb4).mono ?_; rintro e w5 ⟨⟨A5, c5, rfl, hr5, hc5⟩, hw5⟩; have hb5 := hb4.trans hw5)
              | (go_at_call 12; refine (HSb.out A2 A5 _ _ _ (hr24.keep hw5) hr5).mono ?_; rintro e w6 ⟨rfl, hw6⟩; have hb6 := hb5.trans hw6)
              | (go_at_call 27; refine (HSI.out _ hb6).mono ?_; rintro e w7 ⟨⟨x7, rfl, hx7⟩, hw7⟩; have hb7 := hb6.trans hw7; have hbx := HX x7 hx7; clear hx7))
            go_ret
            exact ⟨rfl, hb7⟩
          · have e9 : (ce != 0) = true := by rw [bne_iff_ne]; exact h9
            clear h9
            go_wp2_with (go_at_call 9; refine (HWu.out _ hb4).mono ?_; rintro e w5 ⟨⟨A5, c5, rfl, hr5, hc5⟩, hw5⟩; have hb5 := hb4.trans hw5)
            go_ret
            exact ⟨rfl, hb5⟩

set_option maxRecDepth 100000 in
theorem lifted (os : Os) (started : os.Started) (H : Type) (enc : TypeId × Value → H) :
    ReturnsInHanded {} Tryz.checked os 7 .any (fun w args => (Rows.packBeginsSpec.pre enc Tryz.prog Tryz.f7 [] false w args ∧ laidMetH Tryz.prog laidKT w) ∧ sizedMet enc Tryz.prog Tryz.f7 (OpenSpec.ofChange Rows.packBeginsSpec) false w args)
      (Rows.packBeginsSpec.post enc Tryz.prog Tryz.f7 false true false false) := by
  refine returnsInHanded_of_change_and (C := Tryz.checked) (X := fun w _ => laidMetH Tryz.prog laidKT w) (fun _ _ _ hh h => h.of_heap hh) own started (by kernel_rfl) Tryz.func7
    (ChangeSpec.witness_shaped (enc := enc) (C := Tryz.checked) (os := os) (X := fun w _ => laidMetH Tryz.prog laidKT w) false (World.doorLaid Tryz.prog 400 os) #[.slice none 0 0, .slice none 0 0, .int .i64 0] 8 rfl (World.shaped_of_RefB (by kernel_rfl) (by kernel_rfl)) (by kernel_rfl) (by kernel_rfl) (by kernel_rfl) (door_metKT os _)) ?_
  intro W base args ds gs before hval0 hW hcnd hsz0 hL _
  have hval : ∀ (j : Nat) t v, Tryz.f7.params[j]? = some t → args[j]? = some v → Value.okWide Tryz.prog W .any base t v := hval0
  have hW' := hW
  obtain ⟨p, q, hA0, hV, rfl, hfz, hnd⟩ := hW
  have hA : DataW.TrodAll enc Tryz.prog W 0 (fun _ => true) true Tryz.f7.params.toList args.toList ds p := hA0
  have hsz : (DataW.weightsEach Tryz.prog (Tryz.f7.params.toList ++ Rows.packBeginsSpec.plain.varTypes Tryz.prog) (ds ++ gs)).all (· ≤ reachBytes) = true := hsz0
  have hkat := ktat_of_laid hL
  rw [Tryz.params7] at hA hval hsz
  obtain ⟨v0, vs0, d0, ds0, p0, q0, hargs, rfl, rfl, h0, r0⟩ := trodAll_cons hA
  obtain ⟨v1, vs1, d1, ds1, p1, q1, rfl, rfl, rfl, h1, r1⟩ := trodAll_cons r0
  obtain ⟨v2, vs2, d2, ds2, p2, q2, rfl, rfl, rfl, h2, r2⟩ := trodAll_cons r1
  obtain ⟨rfl, rfl, rfl⟩ := trodAll_nil r2
  obtain rfl : args = #[v0, v1, v2] := by cases args; simp_all
  obtain ⟨rfl, rfl⟩ := trodVars_none hV
  obtain ⟨a0, len0, cap0, rfl⟩ := okWide_slice Tryz.underlying22 (hval 0 22 v0 rfl rfl)
  have k0 := h0
  have lt0 : ∀ x ∈ p0, x.block < W.heap.size := by obtain ⟨m, hm⟩ := k0; exact DataW.trod_lt m _ _ _ hm
  obtain ⟨L0, w0⟩ := open_its h0 (fun x hx => by simpa using List.all_eq_true.1 hsz x (DataW.weights_mem_each (j := 0) (t := 22) rfl rfl x hx))
  obtain ⟨a1, len1, cap1, rfl⟩ := okWide_slice Tryz.underlying22 (hval 1 22 v1 rfl rfl)
  have k1 := h1
  have lt1 : ∀ x ∈ p1, x.block < W.heap.size := by obtain ⟨m, hm⟩ := k1; exact DataW.trod_lt m _ _ _ hm
  obtain ⟨L1, w1⟩ := open_its h1 (fun x hx => by simpa using List.all_eq_true.1 hsz x (DataW.weights_mem_each (j := 1) (t := 22) rfl rfl x hx))
  obtain ⟨a2, rfl, rfl, rfl, w2⟩ := open_int Tryz.underlying3 (hval 2 3 v2 rfl rfl) h2
  clear hA0 hval0
  refine (walk a0 len0 cap0 L0 a1 len1 cap1 L1 a2 W hkat w0 w1 w2).mono fun e W' ⟨he, bel⟩ => ?_
  subst he
  exact ⟨_, rfl, _, _, _, [], _, [], hW', trodAll_mk1 (shut_bool Tryz.underlying4 _), (trodAll_cons_mk (Below.trod laidOut (by kernel_rfl) (of_decide_eq_true (by kernel_rfl)) k0 bel lt0) (trodAll_cons_mk (Below.trod laidOut (by kernel_rfl) (of_decide_eq_true (by kernel_rfl)) k1 bel lt1) (trodAll_cons_mk (shut_int Tryz.underlying3 w2) trodAll_mk0))), rfl, bel.frame _, fun h => by cases h⟩

theorem over : Rows.packBeginsRow.holds Tryz.pinned (OpenSpec.ofChange Rows.packBeginsSpec) :=
  OpenClaim.holds_of_wide 7 Tryz.f7 rfl rfl rfl rfl rfl rfl rfl ⟨rfl, rfl, rfl, rfl, rfl⟩ rfl rfl rfl rfl rfl (by kernel_rfl) Tryz.func7 (by kernel_rfl)
    (of_decide_eq_true (by kernel_rfl)) (by unfold Func.isWrapper; first | (rw [if_pos (by decide +kernel)]; kernel_rfl) | (rw [if_neg (by decide +kernel)]; exact ⟨rfl, rfl⟩))
    (fun os started H enc _ => lifted os started H enc)

theorem proved : Rows.PackBeginsCardSaid :=
  Claim7.holds_tied_plain_at .later [] [.data, .data, .data, .data] true (true, "5492f5e41247cc02cc49d51610b3a1000faf02ce834e575e36ea9376324993ab") true
    over (fun _ h => by cases h) (by kernel_rfl) (fun _ h => by cases h) packBegins_row_tie rfl ⟨rfl, rfl⟩ (by kernel_rfl) rfl
    (fun f fn hf hfn => by
      obtain rfl : f = 7 := Option.some.inj ((show Tryz.prog.funcNamed "tabulary/tabularylaw12.PackBegins" = some 7 by kernel_rfl).symm.trans hf) |>.symm
      obtain rfl : fn = Tryz.f7 := (Option.some.inj (Tryz.func7.symm.trans hfn)).symm
      exact ⟨by kernel_rfl, fun j t ht => by
        rw [Tryz.params7] at ht
        have hm : t ∈ [22, 22, 3] := by simpa using Array.mem_of_getElem? ht
        have hall : ([22, 22, 3].all fun u => !Tryz.prog.wantsStandIn u) = true := by kernel_rfl
        exact (show Tryz.prog.wantsStandIn t = false by simpa using List.all_eq_true.1 hall t hm)⟩)
    (by kernel_rfl)
#print axioms proved
end Go.Proofs.YtldkhbkgmiicbaaGreatDoor.packBegins
