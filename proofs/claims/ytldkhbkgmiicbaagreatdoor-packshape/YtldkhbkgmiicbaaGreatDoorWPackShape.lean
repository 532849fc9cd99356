/- Proved: for every list of items the statement PackShape answers true (the document's P12.6, the stage's theorem: a volume ends as it must, and head by head the items are met, each with its type, its mode, its time and its bytes, noughts behind them; between them nothing but records). -/
import Derived.Test.YtldkhbkgmiicbaaGreatDoorBu47
import Derived.Test.YtldkhbkgmiicbaaGreatDoorBu43
import Derived.Test.YtldkhbkgmiicbaaGreatDoorCards
import Derived.Test.YtldkhbkgmiicbaaGreatDoorTie
import Derived.ShutString
import Derived.ChangeOld
import Derived.SevenTiedAt
namespace Go.Proofs.YtldkhbkgmiicbaaGreatDoor.packShape
open Go.ChangeShapes Go.WideShapes Go.ChangeAt Go.RowKit Go.Deep
set_option linter.unusedVariables false

set_option linter.unusedSimpArgs false
open Go.Deep
theorem wr_is {t : List Tr.It} {B : Pk.B} {i : Nat} {er : Int} (h : Pk.wr t = (B, i, er)) : (er ≠ 0 ∧ B = []) ∨ (er = 0 ∧ B = Pk.flat t ++ List.replicate 1024 0 ∧ (Pk.flat t).length + 1024 ≤ 131072 ∧ Tr.Ok t) := by
  rcases Pk.wr_cases t with ⟨h1, e⟩ | ⟨_, j, _, e⟩ | ⟨h1, g, e⟩
  · rw [e] at h; cases h; exact .inl ⟨h1, rfl⟩
  · rw [e] at h; cases h; exact .inl ⟨by decide, rfl⟩
  · rw [e] at h; cases h
    have := g.2.2
    rw [List.take_length] at this
    exact .inr ⟨rfl, rfl, this, (Tr.chk_zero h1).2⟩
theorem full_app (p n : Pk.B) : Nm.S p ++ ⟨#[47]⟩ ++ Nm.S n = Nm.S (p ++ 47 :: n) := by
  rw [show (⟨#[47]⟩ : ByteArray) = Nm.S [47] from rfl, Nm.append_S, Nm.append_S, List.append_assoc]
  rfl
theorem write_saidg (a0 : Option Addr) (len0 cap0 l i : Nat) (er : Int) (L : List Tr.Iv) (B : Pk.B) (hlen : L.length = len0) (hb : len0 ≤ 4611686018427387904) (hle : len0 ≤ cap0) (hR : Pk.wr (Tr.its L) = (B, i, er)) (hl : B.length = l) (u : World) (hI : ItsAt u a0 L) (hk : KTAt u) :
    Calls Tryz.prog 9 #[.slice a0 len0 cap0] u fun e w' => (∃ A c', e = .returned (.tuple #[.slice A l c', .int .i64 (i : Int), .int .i64 er]) ∧ RowAt w' A l (Hd.rowF B) ∧ l ≤ c' ∧ (l = 0 ∨ ∃ g, A = some ⟨g, 0, none⟩)) ∧ Bw u w' := by
  have := pkwrite_any a0 cap0 L (by omega) (by omega) u hI hk
  rw [hlen] at this
  refine this.mono fun e w' ⟨⟨v, h1, h2⟩, h3⟩ => ⟨?_, h3⟩
  rw [hR] at h1 h2
  dsimp only at h1 h2
  obtain ⟨A, c', rfl, hr, -⟩ := own_rowx h2
  rw [hl] at h1 hr h2
  refine ⟨A, c', h1, hr, ?_, ?_⟩
  · rcases h2.2 with ⟨e1, _⟩ | ⟨g, cap, cur, e1, _, _, h5, _⟩
    · cases e1; omega
    · cases e1; exact h5
  · rcases h2.2 with ⟨e1, _⟩ | ⟨g, cap, cur, e1, _⟩
    · cases e1; exact .inl rfl
    · cases e1; exact .inr ⟨g, rfl⟩
theorem keep13 {w1 w w' : World} {g x : Nat} {v0 v1 v2 v3 v4 v5 v6 u0 u1 u2 u3 u4 u5 : Value} (h : w.cell? ⟨g, 0, none⟩ = some v0 ∧ w.cell? ⟨g, 1, none⟩ = some v1 ∧ w.cell? ⟨g, 2, none⟩ = some v2 ∧ w.cell? ⟨g, 3, none⟩ = some v3 ∧ w.cell? ⟨g, 4, none⟩ = some v4 ∧ w.cell? ⟨g, 5, none⟩ = some v5 ∧ w.cell? ⟨g, 6, none⟩ = some v6 ∧ w.cell? ⟨x, 0, none⟩ = some u0 ∧ w.cell? ⟨x, 1, none⟩ = some u1 ∧ w.cell? ⟨x, 2, none⟩ = some u2 ∧ w.cell? ⟨x, 3, none⟩ = some u3 ∧ w.cell? ⟨x, 4, none⟩ = some u4 ∧ w.cell? ⟨x, 5, none⟩ = some u5 ∧ Bw w1 w) (k : Bw w w') :
    w'.cell? ⟨g, 0, none⟩ = some v0 ∧ w'.cell? ⟨g, 1, none⟩ = some v1 ∧ w'.cell? ⟨g, 2, none⟩ = some v2 ∧ w'.cell? ⟨g, 3, none⟩ = some v3 ∧ w'.cell? ⟨g, 4, none⟩ = some v4 ∧ w'.cell? ⟨g, 5, none⟩ = some v5 ∧ w'.cell? ⟨g, 6, none⟩ = some v6 ∧ w'.cell? ⟨x, 0, none⟩ = some u0 ∧ w'.cell? ⟨x, 1, none⟩ = some u1 ∧ w'.cell? ⟨x, 2, none⟩ = some u2 ∧ w'.cell? ⟨x, 3, none⟩ = some u3 ∧ w'.cell? ⟨x, 4, none⟩ = some u4 ∧ w'.cell? ⟨x, 5, none⟩ = some u5 ∧ Bw w1 w' := by
  obtain ⟨h0, h1, h2, h3, h4, h5, h6, i0, i1, i2, i3, i4, i5, h7⟩ := h
  exact ⟨keep_cell11 h0 k, keep_cell11 h1 k, keep_cell11 h2 k, keep_cell11 h3 k, keep_cell11 h4 k, keep_cell11 h5 k, keep_cell11 h6 k, keep_cell11 i0 k, keep_cell11 i1 k, keep_cell11 i2 k, keep_cell11 i3 k, keep_cell11 i4 k, keep_cell11 i5 k, h7.trans k⟩
theorem bw13 {w1 w : World} {g x : Nat} {v0 v1 v2 v3 v4 v5 v6 u0 u1 u2 u3 u4 u5 : Value} (h : w.cell? ⟨g, 0, none⟩ = some v0 ∧ w.cell? ⟨g, 1, none⟩ = some v1 ∧ w.cell? ⟨g, 2, none⟩ = some v2 ∧ w.cell? ⟨g, 3, none⟩ = some v3 ∧ w.cell? ⟨g, 4, none⟩ = some v4 ∧ w.cell? ⟨g, 5, none⟩ = some v5 ∧ w.cell? ⟨g, 6, none⟩ = some v6 ∧ w.cell? ⟨x, 0, none⟩ = some u0 ∧ w.cell? ⟨x, 1, none⟩ = some u1 ∧ w.cell? ⟨x, 2, none⟩ = some u2 ∧ w.cell? ⟨x, 3, none⟩ = some u3 ∧ w.cell? ⟨x, 4, none⟩ = some u4 ∧ w.cell? ⟨x, 5, none⟩ = some u5 ∧ Bw w1 w) : Bw w1 w := h.2.2.2.2.2.2.2.2.2.2.2.2.2
set_option maxRecDepth 100000 in
set_option maxHeartbeats 40000000 in
theorem walk (a0 : Option Addr) (len0 cap0 : Nat) (L0 : List Tr.Iv) (w : World) (hk : KTAt w) (w0 : InIts w a0 len0 cap0 L0) :
    Calls Tryz.prog 6 #[.slice a0 len0 cap0] w fun e w' => e = .returned (.bool true) ∧ Below w.heap.size w w' := by
  obtain ⟨hlen, hits, hle, hroom, hnil⟩ := w0
  have HK : Hid (KTAt w) := hk
  clear hk
  have HNL : Hid (L0.length = len0) := hlen
  have HI : Hid (ItsAt w a0 L0) := hits
  obtain ⟨B, vi, er, hR⟩ : ∃ r i er, Hid (Pk.wr (Tr.its L0) = (r, i, er)) := ⟨_, _, _, show Pk.wr (Tr.its L0) = _ from rfl⟩
  obtain ⟨l, hl⟩ : ∃ l, Hid (B.length = l) := ⟨_, rfl⟩
  have hBl : l ≤ 131072 := by have := Pk.wr_len (Tr.its L0); rw [hR.out] at this; rw [← hl.out]; exact this
  have HWt : Hid (∀ u, Bw w u → Calls Tryz.prog 9 #[.slice a0 len0 cap0] u fun e w' => (∃ A c', e = .returned (.tuple #[.slice A l c', .int .i64 (vi : Int), .int .i64 er]) ∧ RowAt w' A l (Hd.rowF B) ∧ l ≤ c' ∧ (l = 0 ∨ ∃ g, A = some ⟨g, 0, none⟩)) ∧ Bw u w') := fun u hu => write_saidg a0 len0 cap0 l vi er L0 B HNL.out (by omega) hle hR.out hl.out u (HI.out.keep hu) (HK.out.keep hu)
  have HAw : Hid (Calls Tryz.prog 22 #[] w fun e w' => e = .returned (.bool true) ∧ Bw w w') := awake12_any w HK.out
  have hcases := wr_is hR.out
  clear hlen hits hnil
  by_cases h0 : er = 0
  rotate_left
  · have hB0 : B = [] := by rcases hcases with h | h; exact h.2; exact absurd h.1 h0
    have l0 : l = 0 := by rw [← hl.out, hB0]; rfl
    subst l0
    have e1 : (er != 0) = true := by rw [bne_iff_ne]; exact h0
    clear hcases
    go_enter Tryz.func6, Tryz.ntmps6
    go_wp2_with (first
      | (go_at_call 22; refine HAw.out.mono ?_; rintro e w1 ⟨rfl, hw1⟩)
      | (go_at_call 9; refine (HWt.out _ hw1).mono ?_; rintro e w2 ⟨⟨A2, c2, rfl, hr2, hc2⟩, hw2⟩))
    go_ret
    exact ⟨rfl, hw1.trans hw2⟩
  · subst h0
    obtain ⟨hBe, hfl, hok⟩ : B = Pk.flat (Tr.its L0) ++ List.replicate 1024 0 ∧ (Pk.flat (Tr.its L0)).length + 1024 ≤ 131072 ∧ Tr.Ok (Tr.its L0) := by
      rcases hcases with h | h
      · exact absurd rfl h.1
      · exact h.2
    have HAll : Hid (∀ x ∈ Tr.its L0, Tr.mayE x = 0) := Pk.ok_all hok
    obtain ⟨t, ht⟩ : ∃ t, Hid (Tr.its L0 = t) := ⟨_, rfl⟩
    have HTL : Hid (t.length = len0) := by show _ = _; rw [← ht.out, Tr.its_len, HNL.out]
    rw [ht.out] at hBe hfl HAll
    obtain ⟨N, hN⟩ : ∃ N, Hid ((Pk.flat t).length = N) := ⟨_, rfl⟩
    have hNm : N % 512 = 0 := by rw [← hN.out]; exact Pk.flat_mod t
    rw [hN.out] at hfl
    have HBl : Hid (B.length = N + 1024) := by show _ = _; rw [hBe, List.length_append, List.length_replicate, hN.out]
    have hlN : l = N + 1024 := by rw [← hl.out]; exact HBl.out
    have HBe : Hid (B = Pk.flat t ++ List.replicate 1024 0) := hBe
    have n1 : (l : Int) - 1024 = (N : Int) := by omega
    have n2 : ¬ (l : Int) < 1024 := by omega
    have n3 : ((l : Int) % 512 != 0) = false := by rw [bne_eq_false_iff_eq]; omega
    have n4 : ¬ (131072 : Int) < (l : Int) := by omega
    have n5 : (0 : Int) ≤ (N : Int) := Int.natCast_nonneg _
    have n6 : l - N = 1024 := by omega
    have n7 : (N : Int) ≤ (l : Int) := by omega
    have hlN' : Hid (l = N + 1024) := hlN
    clear hlN hcases hBe hok
    have HBk : Hid (∀ u A g ca, A = some ⟨g, 0, none⟩ → RowAt u A l (Hd.rowF B) → Calls Tryz.prog 23 #[.slice (some ⟨g, N, none⟩) 1024 ca] u fun e w' => e = .returned (.bool true) ∧ Bw u w') := fun u A g ca hA hr => by
      subst hA
      have h1 := row_part (V := B) hl.out hr (p := N) (m := 1024) (by rw [hlN'.out]; exact Nat.le_refl _)
      have e1 : (B.drop N).take 1024 = List.replicate 1024 0 := by
        rw [HBe.out, ← hN.out, List.drop_append_of_le_length (Nat.le_refl _), List.drop_eq_nil_of_le (Nat.le_refl _), List.nil_append, List.take_of_length_le (by rw [List.length_replicate]; exact Nat.le_refl _)]
      rw [e1] at h1
      exact (blank12_yes _ 1024 ca (by omega) u h1).mono fun e w' ⟨he, q, hq⟩ => ⟨he, bw_of_drew hq⟩
    go_enter Tryz.func6, Tryz.ntmps6
    go_upto_region 7 with (first
      | (go_at_call 22; refine HAw.out.mono ?_; rintro e w1 ⟨rfl, hw1⟩)
      | (go_at_call 9; refine (HWt.out _ hw1).mono ?_; rintro e w2 ⟨⟨A2, c2, rfl, hr2, hc2, hg2⟩, hw2⟩))
    obtain ⟨g, rfl⟩ : ∃ g, A2 = some ⟨g, 0, none⟩ := by
      rcases hg2 with h | h
      · have := hlN'.out; omega
      · exact h
    have hb2 := hw1.trans hw2
    have n8 : (l : Int) ≤ (c2 : Int) := by omega
    have n9 : ¬ c2 = N := by have := hlN'.out; omega
    go_wp2_with (go_at_call 23; refine (HBk.out _ _ g _ rfl hr2).mono ?_; rintro e w3 ⟨rfl, hw3⟩)
    have HR3 : Hid (RowAt w3 (some ⟨g, 0, none⟩) l (Hd.rowF B)) := hr2.keep hw3
    have hb3 := hb2.trans hw3
    clear hr2 hw1 hw2 hw3
    go_loopw [7, 8] (fun p i wr => ∃ (k q : Nat) (j : Bool), i = .int .i64 (k : Int) ∧ p = .int .i64 (q : Int) ∧ k ≤ len0 ∧ q ≤ N ∧ Hid (Pk.pos t k j = q ∧ (j = true → ∃ x, t[k]? = some x)) ∧ Bw w3 wr) (fun p i _ => N - (intOf p).toNat)
    case atStart => exact ⟨0, 0, false, rfl, rfl, Nat.zero_le _, Nat.zero_le _, ⟨Pk.pos_zero t, fun h => by cases h⟩, Bw.refl _⟩
    case round =>
      obtain ⟨k, q, j, rfl, rfl, hk, hqN, hI, hbw⟩ := hrel
      have k0 : (0 : Int) ≤ (k : Int) := Int.natCast_nonneg _
      have q0 : (0 : Int) ≤ (q : Int) := Int.natCast_nonneg _
      by_cases hlt : q < N
      rotate_left
      · have t1 : ¬ (q : Int) < (N : Int) := by omega
        have t1' : decide (q < N) = false := by rw [decide_eq_false_iff_not]; exact hlt
        have hkl : k = len0 := by
          rcases Nat.lt_or_ge k len0 with hk2 | hk2
          · exfalso
            obtain ⟨x, hx⟩ : ∃ x, t[k]? = some x := ⟨_, List.getElem?_eq_getElem (by rw [HTL.out]; exact hk2)⟩
            have h1 := hI.out.1
            have hm := HAll.out
            cases j with
            | false =>
              have := Pk.pos_lt hm hx
              rw [h1, hN.out] at this; omega
            | true =>
              have := (Pk.seg_item (j := true) hm hx (fun h => by cases h)).1.fits
              rw [h1, hN.out] at this; omega
          · omega
        subst hkl
        go_wp2
        go_ret
        exact ⟨rfl, hb3.trans hbw⟩
      · have t1 : (q : Int) < (N : Int) := by omega
        have t1' : decide (q < N) = true := decide_eq_true hlt
        have hkl : k < len0 := by
          rcases Nat.lt_or_ge k len0 with hk2 | hk2
          · exact hk2
          · exfalso
            obtain rfl : k = len0 := by omega
            have h1 := hI.out.1
            cases j with
            | false => rw [← HTL.out, Pk.pos_end, hN.out] at h1; omega
            | true =>
              obtain ⟨x, hx⟩ := hI.out.2 rfl
              have := (List.getElem?_eq_some_iff.1 hx).1
              rw [HTL.out] at this; omega
        obtain ⟨y, hy⟩ : ∃ y, Hid (L0[k]? = some y) := ⟨_, List.getElem?_eq_getElem (by rw [HNL.out]; exact hkl)⟩
        have HX : Hid (t[k]? = some y.it) := by show _ = _; rw [← ht.out]; unfold Tr.its; rw [List.getElem?_map, hy.out]; rfl
        have hsel : (j = false ∧ Pk.prsOf y.it ≠ []) ∨ (j = false → Pk.prsOf y.it = []) := by
          by_cases e : Pk.prsOf y.it = []
          · exact .inr fun _ => e
          · cases j with
            | false => exact .inl ⟨rfl, e⟩
            | true => exact .inr fun h => by cases h
        -- the head that stands here, and what it tells the size of
        obtain ⟨Hx, c, q', hS, hq', hkind⟩ : ∃ (Hx : Hd.Hdr) (c : Pk.B) (q' : Nat), Pk.Seg B N q Hx c ∧ q' = q + 512 + (Pk.fill c).length ∧ ((Hx.typ = 120 ∧ 0 < c.length ∧ q' < N ∧ Pk.pos t k true = q') ∨ (Hx = Pk.hd y.it ∧ c = y.it.body ∧ Pk.pos t (k + 1) false = q')) := by
          have h1 := hI.out.1
          have hm := HAll.out
          rcases hsel with ⟨rfl, e⟩ | e
          · obtain ⟨s1, s2, s3, s4⟩ := Pk.seg_more hm HX.out e
            rw [h1] at s1 s2
            rw [hN.out] at s1 s3
            exact ⟨_, _, Pk.pos t k true, by rw [HBe.out]; exact s1, s2, .inl ⟨rfl, s4, s3, rfl⟩⟩
          · obtain ⟨s1, s2⟩ := Pk.seg_item (j := j) hm HX.out e
            rw [h1] at s1 s2
            rw [hN.out] at s1
            exact ⟨_, _, Pk.pos t (k + 1) false, by rw [HBe.out]; exact s1, s2, .inr ⟨rfl, rfl, rfl⟩⟩
        have hfit := hS.fits
        obtain ⟨s, hs⟩ : ∃ s, Hid (c.length = s) := ⟨_, rfl⟩
        obtain ⟨f, hf⟩ : ∃ f, Hid ((Pk.fill c).length = f) := ⟨_, rfl⟩
        have hfs : s + Pk.gap s = f := by rw [← hf.out, Pk.fill_len, hs.out]
        have hgd := Pk.gap_div s
        rw [hf.out] at hfit hq'
        obtain ⟨d, hd⟩ : ∃ d, Hid ((s + 511) / 512 = d) := ⟨_, rfl⟩
        obtain ⟨q1, hq1⟩ : ∃ q1, Hid (q + 512 = q1) := ⟨_, rfl⟩
        obtain ⟨q2, hq2⟩ : ∃ q2, Hid (q1 + s = q2) := ⟨_, rfl⟩
        obtain ⟨gp, hgp⟩ : ∃ gp, Hid (Pk.gap s = gp) := ⟨_, rfl⟩
        have hd' := hd.out
        have hq1' := hq1.out
        have hq2' := hq2.out
        have hgp' := hgp.out
        rw [hgp'] at hfs hgd
        rw [hd'] at hgd
        have hlN2 := hlN'.out
        have m1 : ((s : Int) + 511) / 512 = (d : Int) := by omega
        have m2 : (d : Int) * 512 = (f : Int) := by omega
        have m3 : (q : Int) + 512 = (q1 : Int) := by omega
        have m4 : (q1 : Int) + (f : Int) = (q' : Int) := by omega
        have m5 : (q1 : Int) + (s : Int) = (q2 : Int) := by omega
        have m6 : q' - q2 = gp := by omega
        have m7 : q1 - q = 512 := by omega
        have m8 : q2 - q1 = s := by omega
        have z1 : (0 : Int) ≤ (q1 : Int) := Int.natCast_nonneg _
        have z2 : (0 : Int) ≤ (q2 : Int) := Int.natCast_nonneg _
        have z3 : (q : Int) ≤ (q1 : Int) := by omega
        have z4 : (q1 : Int) ≤ (c2 : Int) := by omega
        have z5 : (q2 : Int) ≤ (q' : Int) := by omega
        have z6 : (q' : Int) ≤ (c2 : Int) := by omega
        have z7 : (q1 : Int) ≤ (q2 : Int) := by omega
        have z8 : (q2 : Int) ≤ (c2 : Int) := by omega
        have x1 : ¬ c2 = q := by omega
        have x2 : ¬ c2 = q2 := by omega
        have x3 : ¬ c2 = q1 := by omega
        have y1 : ¬ (N : Int) < (q' : Int) := by omega
        have y1' : decide (N < q') = false := by rw [decide_eq_false_iff_not]; omega
        have y2 : (s : Int) ≤ 131072 := by omega
        have y3 : (q' : Int) ≤ 131072 := by omega
        have hHs : Hx.size = (s : Int) := by rw [← hs.out]; exact hS.size
        have HGet : Hid (∀ u ca, Bw w3 u → Calls Tryz.prog 24 #[.slice (some ⟨g, q, none⟩) 512 ca] u fun e w' => e = .returned (.tuple #[.agg (Hd.hv Hx), .int .i64 0]) ∧ Bw u w') := fun u ca hu => by
          have h1 := row_part (V := B) hl.out (HR3.out.keep hu) (p := q) (m := 512) (by omega)
          rw [hS.head] at h1
          exact hGet_reads _ 512 ca _ Hx 0 (Hd.lay_len hS.good) (Hd.lay_reads hS.good) u h1
        have HGap : Hid (∀ u ca, Bw w3 u → Calls Tryz.prog 23 #[.slice (some ⟨g, q2, none⟩) gp ca] u fun e w' => e = .returned (.bool true) ∧ Bw u w') := fun u ca hu => by
          have h1 := row_part (V := B) hl.out (HR3.out.keep hu) (p := q2) (m := gp) (by omega)
          have h2 := hS.gap
          rw [hs.out, hgp.out, hq1.out, hq2.out] at h2
          rw [h2] at h1
          exact (blank12_yes _ gp ca (by omega) u h1).mono fun e w' ⟨he, m, hm⟩ => ⟨he, bw_of_drew hm⟩
        have HBod : Hid (∀ u, Bw w3 u → RowAt u (some ⟨g, q1, none⟩) s (Hd.rowF c)) := fun u hu => by
          have h1 := row_part (V := B) hl.out (HR3.out.keep hu) (p := q1) (m := s) (by omega)
          have h2 := hS.body
          rw [hs.out, hq1.out] at h2
          rw [h2] at h1
          exact h1
        have HQ' : Hid (q' = q + 512 + f) := hq'
        have hqm : q < q' ∧ q' ≤ N := by omega
        have hz := zero_head
        obtain ⟨Z, hZ⟩ : ∃ Z, Hid (Z = Hd.none7) := ⟨_, rfl⟩
        rw [← hZ.out] at hz
        clear hS hfit hq' hfs hgd hd' hq1' hq2' hgp' hlN2 hsel
        have HU : Hid (Bw w3 wr) := hbw
        go_upto_region 19 with (first
          | (go_at_call 24; refine (HGet.out _ _ HU.out).mono ?_; rintro e w4 ⟨rfl, hw4⟩)
          | (refine wpList_store_row rfl 61 _ _ rfl w4.heap.size (Hd.hv Hx) rfl rfl 61 Z (heap_alloc_new _ _) (info_head Hx) (by rw [hZ.out]; rfl) (Hd.hv_one Hx) ?_; rw [setRow_alloc_new]; obtain ⟨w5, hw5⟩ : ∃ V, V = w4.alloc (.cells (Hd.hv Hx) 61) := ⟨_, rfl⟩; have hb5 : Bw w4 w5 := (by rw [hw5]; exact bw_alloc7 (Bw.refl _) _); have hH5 : w5.heap[w4.heap.size]? = some (.cells (Hd.hv Hx) 61 (0, 0)) := (by rw [hw5]; exact heap_alloc_new _ _); have ch3 : w5.cell? ⟨w4.heap.size, 3, none⟩ = some (.int .i64 (s : Int)) := (by rw [← hHs]; exact cell_of_row w5 w4.heap.size 3 _ _ _ hH5); have ch5 : w5.cell? ⟨w4.heap.size, 5, none⟩ = some (.int .u8 ((Hx.typ.toNat : Nat) : Int)) := cell_of_row w5 w4.heap.size 5 _ _ _ hH5; have hU5 : Bw w3 w5 := (HU.out.trans hw4).trans hb5; rw [← hw5]; clear hw5)
          | (go_at_call 23; refine (HGap.out _ _ hU5).mono ?_; rintro e w6 ⟨rfl, hw6⟩; have ch36 := keep_cell11 ch3 hw6; have ch56 := keep_cell11 ch5 hw6; have hH6 : w6.heap[w4.heap.size]? = some (.cells (Hd.hv Hx) 61 (0, 0)) := ((hw6.block _ (Array.getElem?_eq_some_iff.1 hH5).1).trans hH5); have hU6 := hU5.trans hw6; clear ch3 ch5))
        clear hw4 hb5 hH5 hU5 hw6
        rcases hkind with ⟨hty, hc0, hqN2, hpos⟩ | ⟨hHx, hcb, hpos⟩
        · as_aux_lemma =>
          rw [hty] at ch56
          have i1 : ((s : Int) == 0) = false := by rw [beq_eq_false_iff_ne]; rw [hs.out] at hc0; omega
          have i2 : ((k : Int) == (len0 : Int)) = false := by rw [beq_eq_false_iff_ne]; omega
          have i3 : ((q' : Int) == (N : Int)) = false := by rw [beq_eq_false_iff_ne]; omega
          have HP : Hid (Pk.pos t k true = q') := hpos
          clear hpos hc0
          go_wp2
          go_round
          case measure => simp only [intOf]; omega
          case rel => exact ⟨k, q', true, rfl, rfl, hk, by omega, ⟨HP.out, fun _ => ⟨_, HX.out⟩⟩, hU6⟩
        · have HHx : Hid (Hx = Pk.hd y.it) := hHx
          have hm := HAll.out y.it (List.mem_of_getElem? HX.out)
          have hkb := Tr.may_kind hm
          have HM : Hid (Tr.mayE y.it = 0) := hm
          have hsm : y.it.body.length = s := by rw [← hcb]; exact hs.out
          have HCb : Hid (c = y.it.body) := hcb
          clear hcb hHx
          have h120 : Hx.typ ≠ 120 := by
            rw [HHx.out]
            show Pk.typ y.it.kind ≠ 120
            rcases @Pk.typ_vals y.it.kind with e | e | e | e <;> rw [e] <;> decide
          have i0 : (((Hx.typ.toNat : Nat) : Int) == 120) = false := by
            rw [beq_eq_false_iff_ne]
            intro e
            apply h120
            apply UInt8.toNat_inj.1
            show Hx.typ.toNat = 120
            omega
          have i2 : ((k : Int) == (len0 : Int)) = false := by rw [beq_eq_false_iff_ne]; omega
          have i4 : (k : Int) < (len0 : Int) := by omega
          have hbw6 := hb3.trans hU6
          obtain ⟨b, off, rfl, hY, hBy⟩ := (HI.out.keep hbw6).at hy.out
          have HY : Hid (ItAt w6 b (off + k * 6) y) := hY
          have HBy : Hid (BodyAt w6 y) := hBy
          have hiI := info_it y
          have hzi := zero_item12
          obtain ⟨Zi, hZi⟩ : ∃ Z, Hid (Z = zero6) := ⟨_, rfl⟩
          rw [← hZi.out] at hzi
          have HP : Hid (Pk.pos t (k + 1) false = q') := hpos
          clear hY hBy hm hpos h120
          go_upto_region 26 with (first
            | (refine wpList_load_it (by rfl) _ rfl b (off + k * 6) rfl y HY.out ?_)
            | (refine wpList_store_row rfl 47 _ _ rfl w6.heap.size y.arr rfl rfl 47 Zi (heap_alloc_new _ _) hiI (by rw [hZi.out]; rfl) (Tr.arr_one y) ?_; rw [setRow_alloc_new]; obtain ⟨w7, hw7⟩ : ∃ V, V = w6.alloc (.cells y.arr 47) := ⟨_, rfl⟩; have hb7 : Bw w6 w7 := (by rw [hw7]; exact bw_alloc7 (Bw.refl _) _); have hX7 : BoxAt w7 w6.heap.size y := (by rw [hw7]; exact BoxAt.new _ _); rw [← hw7]; clear hw7))
          have hH7 : w7.heap[w4.heap.size]? = some (.cells (Hd.hv Hx) 61 (0, 0)) := (hb7.block _ (Array.getElem?_eq_some_iff.1 hH6).1).trans hH6
          have hU7 := hU6.trans hb7
          obtain ⟨x0, x1', x2', x3', x4, x5⟩ := hX7.cells
          rw [hsm] at x4
          obtain ⟨nm, hnm⟩ : ∃ n, Hid (Hx.name = n) := ⟨_, rfl⟩
          obtain ⟨pr, hpr⟩ : ∃ n, Hid (Hx.pre = n) := ⟨_, rfl⟩
          obtain ⟨lk, hlk⟩ : ∃ n, Hid (Hx.link = n) := ⟨_, rfl⟩
          have g0 : w7.cell? ⟨w4.heap.size, 0, none⟩ = some (.string (Nm.S nm)) := by rw [← hnm.out]; exact cell_of_row w7 w4.heap.size 0 _ _ _ hH7
          have g1 : w7.cell? ⟨w4.heap.size, 1, none⟩ = some (.string (Nm.S pr)) := by rw [← hpr.out]; exact cell_of_row w7 w4.heap.size 1 _ _ _ hH7
          have g2 : w7.cell? ⟨w4.heap.size, 2, none⟩ = some (.int .i64 y.it.mode) := by
            have := cell_of_row w7 w4.heap.size 2 _ _ _ hH7
            rw [HHx.out] at this; exact this
          have g3 : w7.cell? ⟨w4.heap.size, 3, none⟩ = some (.int .i64 (s : Int)) := by rw [← hHs]; exact cell_of_row w7 w4.heap.size 3 _ _ _ hH7
          have g4 : w7.cell? ⟨w4.heap.size, 4, none⟩ = some (.int .i64 y.it.time) := by
            have := cell_of_row w7 w4.heap.size 4 _ _ _ hH7
            rw [HHx.out] at this; exact this
          have g5 : w7.cell? ⟨w4.heap.size, 5, none⟩ = some (.int .u8 (((Pk.typ y.it.kind).toNat : Nat) : Int)) := by
            have := cell_of_row w7 w4.heap.size 5 _ _ _ hH7
            rw [HHx.out] at this; exact this
          have g6 : w7.cell? ⟨w4.heap.size, 6, none⟩ = some (.string (Nm.S lk)) := by rw [← hlk.out]; exact cell_of_row w7 w4.heap.size 6 _ _ _ hH7
          have HLk : Hid (lk ≠ [] → lk = y.it.to) := fun hne => by
            rw [← hlk.out, HHx.out] at hne ⊢
            show (if y.it.to.length ≤ 100 then y.it.to else []) = y.it.to
            have hne' : (if y.it.to.length ≤ 100 then y.it.to else []) ≠ [] := hne
            split at hne'
            · rename_i hh; rw [if_pos hh]
            · exact absurd rfl hne'
          have HFu : Hid (nm ≠ [] → Hd.full (Nm.S nm) (Nm.S pr) = Nm.S y.it.path ∧ nm.length ≤ 100 ∧ pr.length ≤ 155) := fun hne => by
            have e1 : (Pk.spl y.it.path).2.1 = nm := by rw [← hnm.out, HHx.out]; rfl
            have e2 : (Pk.spl y.it.path).1 = pr := by rw [← hpr.out, HHx.out]; rfl
            have h0 : (Pk.spl y.it.path).2.2 = 0 := by
              by_cases e : (Pk.spl y.it.path).2.2 = 0
              · exact e
              · exact absurd (by rw [← e1]; exact (Pk.spl_err0 e).2) hne
            obtain ⟨o1, o2, _, _, o5, _⟩ := Pk.spl_ok h0
            rw [e1, e2] at o5
            rw [e2] at o1
            rw [e1] at o2
            refine ⟨?_, o2, o1⟩
            unfold Hd.full
            by_cases hp : pr = []
            · rw [if_pos hp] at o5
              rw [hp, o5, if_pos (by rw [Nm.toList_S]; rfl)]
            · rw [if_neg hp] at o5
              rw [if_neg (by rw [Nm.toList_S]; simpa using hp), o5]
              exact full_app pr nm
          obtain ⟨ty, hty⟩ : ∃ n : Nat, Hid ((Pk.typ y.it.kind).toNat = n) := ⟨_, rfl⟩
          obtain ⟨kk, hkk⟩ : ∃ n : Nat, Hid (y.it.kind = n) := ⟨_, rfl⟩
          have hk256 : kk < 256 := by rw [← hkk.out]; omega
          rw [hty.out] at g5
          rw [hkk.out] at x1'
          have HTy : Hid (∀ u, Calls Tryz.prog 25 #[.int .u8 (kk : Int)] u fun e w' => e = .returned (.int .u8 (ty : Int)) ∧ Bw u w') := fun u => by
            have := typed12_any kk hk256 u
            rw [show (Pk.typ kk).toNat = ty by rw [← hkk.out]; exact hty.out] at this
            exact this.mono fun e w' ⟨h1, h2⟩ => ⟨h1, by rw [h2]; exact Bw.refl _⟩
          have HTy0 : Hid (∀ u, Calls Tryz.prog 25 #[.int .u8 (kk : Int)] u fun e w' => e = .returned (.int .u8 (ty : Int)) ∧ w' = u) := fun u => by
            have := typed12_any kk hk256 u
            rw [show (Pk.typ kk).toNat = ty by rw [← hkk.out]; exact hty.out] at this
            exact this
          have HSm0 : Hid (∀ u ca, Bw w7 u → Calls Tryz.prog 12 #[.slice (some ⟨g, q1, none⟩) s ca, .slice y.ad s y.cp] u fun e w' => e = .returned (.bool true) ∧ ∃ m, w' = u.drewN m) := fun u ca hu => by
            have r1 := HBod.out u (hU7.trans hu)
            have r2 := ((HBy.out.keep hb7).keep hu).row
            rw [hsm] at r2
            rw [HCb.out] at r1
            refine (same12_any _ _ s s ca y.cp _ _ (by omega) (by omega) u r1 r2).mono fun e w' ⟨⟨z, hz1, hz2⟩, m, hm⟩ => ⟨?_, m, hm⟩
            rw [hz1, hz2.2 ⟨rfl, fun _ _ => rfl⟩]
          have HSm : Hid (∀ u ca, Bw w7 u → Calls Tryz.prog 12 #[.slice (some ⟨g, q1, none⟩) s ca, .slice y.ad s y.cp] u fun e w' => e = .returned (.bool true) ∧ Bw u w') := fun u ca hu => by
            have r1 := HBod.out u (hU7.trans hu)
            have r2 := ((HBy.out.keep hb7).keep hu).row
            rw [hsm] at r2
            rw [HCb.out] at r1
            refine (same12_any _ _ s s ca y.cp _ _ (by omega) (by omega) u r1 r2).mono fun e w' ⟨⟨z, hz1, hz2⟩, m, hm⟩ => ⟨?_, bw_of_drew hm⟩
            rw [hz1, hz2.2 ⟨rfl, fun _ _ => rfl⟩]
          have HFl : Hid (nm ≠ [] → ∀ u, Calls Tryz.prog 26 #[.agg #[.string (Nm.S nm), .string (Nm.S pr), .int .i64 y.it.mode, .int .i64 (s : Int), .int .i64 y.it.time, .int .u8 (ty : Int), .string (Nm.S lk)]] u fun e w' => e = .returned (.string (Nm.S y.it.path)) ∧ Bw u w') := fun hne u => by
            obtain ⟨f1, f2, f3⟩ := HFu.out hne
            have := hFull_any (Nm.S nm) (Nm.S pr) (Nm.S lk) y.it.mode (s : Int) y.it.time (ty : Int) (by rw [Nm.size_S, Nm.size_S]; omega) u
            rw [f1] at this
            exact this
          clear hH6 hH7 hX7
          have r1 : IntKind.i64.wrap ((q1 : Int) + (s : Int)) = (q2 : Int) := by rw [IntKind.wrap_i64]; omega
          have r2 : IntKind.i64.wrap (q2 : Int) = (q2 : Int) := by rw [IntKind.wrap_i64]; omega
          have r3 : q1 ≤ q2 := by omega
          have r4 : q2 ≤ c2 := by omega
          have HFl3 := HFl
          by_cases hl0 : lk = []
          · subst hl0
            replace g6 : w7.cell? ⟨w4.heap.size, 6, none⟩ = some (.string ⟨#[]⟩) := g6
            by_cases hn0 : nm = []
            · as_aux_lemma =>
              subst hn0
              replace g0 : w7.cell? ⟨w4.heap.size, 0, none⟩ = some (.string ⟨#[]⟩) := g0
              have QT : Hid (∀ n, Calls Tryz.prog 25 #[.int .u8 (kk : Int)] (w7.drewN n) fun e w' => e = .returned (.int .u8 (ty : Int)) ∧ w' = w7.drewN n) := fun n => HTy0.out _
              have QS : Hid (∀ n, Calls Tryz.prog 12 #[.slice (some ⟨g, q1, none⟩) s (c2 - q1), .slice y.ad s y.cp] (w7.drewN n) fun e w' => e = .returned (.bool true) ∧ ∃ m, w' = (w7.drewN n).drewN m) := fun n => HSm0.out _ _ (Bw.drewN _ n)
              go_quiet ((first | (go_at_call 25; with_reducible (exact Calls.quiet_of_same (QT.out _))) | (go_at_call 12; with_reducible (exact Calls.quiet_of (QS.out _)))))
              have hSw : Bw w7 (w7.drewN nq) := Bw.drewN _ nq
              go_wp2
              go_round
              case measure => simp only [intOf]; omega
              case rel => exact ⟨k + 1, q', false, by go_num, rfl, by omega, by omega, ⟨HP.out, fun h => by cases h⟩, hU7.trans hSw⟩
            · as_aux_lemma =>
              have HFl3 : Hid (∀ u, Calls Tryz.prog 26 #[.agg #[.string (Nm.S nm), .string (Nm.S pr), .int .i64 y.it.mode, .int .i64 (s : Int), .int .i64 y.it.time, .int .u8 (ty : Int), .string ⟨#[]⟩]] u fun e w' => e = .returned (.string (Nm.S y.it.path)) ∧ Bw u w') := HFl.out hn0
              have HFl2 : Hid (∀ u, Calls Tryz.prog 26 #[.agg #[.string (Nm.S nm), .string (Nm.S pr), .int .i64 y.it.mode, .int .i64 (s : Int), .int .i64 y.it.time, .int .u8 (ty : Int), .string ⟨#[]⟩]] u fun e w' => e = .returned (.string (Nm.S y.it.path)) ∧ Bw u w') := HFl3.out
              have f1 : ((Nm.S nm).toList == []) = false := by rw [Nm.toList_S]; simpa using hn0
              have f2 : ¬ (Nm.S nm).toList = [] := by rw [Nm.toList_S]; exact hn0
              refine wp_region_held_drew (S := fun w' => w'.cell? ⟨w4.heap.size, 0, none⟩ = some (.string (Nm.S nm)) ∧ w'.cell? ⟨w4.heap.size, 1, none⟩ = some (.string (Nm.S pr)) ∧ w'.cell? ⟨w4.heap.size, 2, none⟩ = some (.int .i64 y.it.mode) ∧ w'.cell? ⟨w4.heap.size, 3, none⟩ = some (.int .i64 (s : Int)) ∧ w'.cell? ⟨w4.heap.size, 4, none⟩ = some (.int .i64 y.it.time) ∧ w'.cell? ⟨w4.heap.size, 5, none⟩ = some (.int .u8 (ty : Int)) ∧ w'.cell? ⟨w4.heap.size, 6, none⟩ = some (.string ⟨#[]⟩) ∧ w'.cell? ⟨w6.heap.size, 0, none⟩ = some (.string (Nm.S y.it.path)) ∧ w'.cell? ⟨w6.heap.size, 1, none⟩ = some (.int .u8 (kk : Int)) ∧ w'.cell? ⟨w6.heap.size, 2, none⟩ = some (.int .i64 y.it.mode) ∧ w'.cell? ⟨w6.heap.size, 3, none⟩ = some (.int .i64 y.it.time) ∧ w'.cell? ⟨w6.heap.size, 4, none⟩ = some (.slice y.ad s y.cp) ∧ w'.cell? ⟨w6.heap.size, 5, none⟩ = some (.string (Nm.S y.it.to)) ∧ Bw w7 w') (by kernel_rfl) (⟨g0, g1, g2, g3, g4, g5, g6, x0, x1', x2', x3', x4, x5, Below.drew (Bw.refl _)⟩) (fun hHeld => ?_)
              clear g0 g1 g2 g3 g4 g5 g6 x0 x1' x2' x3' x4 x5
              obtain ⟨wV, hwV⟩ : ∃ V, V = w7.drew := ⟨_, rfl⟩
              rw [← hwV] at hHeld ⊢
              clear hwV
              refine wpAnyH_take (i := 0) (v := ?_) rfl (by kernel_rfl) (by kernel_rfl) (by kernel_rfl) (fun _ _ _ h => h) (Or.inl ⟨by rfl, ?_⟩) (by assumption) ?_
              rotate_left
              · intro w hSw; (try dsimp only at hSw); go_simp; all_goals (with_reducible rfl)
              try simp only [Act.put, List.setIfInBounds_toArray, List.set_cons_zero, List.set_cons_succ, List.getElem_toArray, List.getElem_cons_succ, List.getElem_cons_zero]
              refine wpAnyH_take (i := 1) (v := ?_) rfl (by kernel_rfl) (by kernel_rfl) (by kernel_rfl) (fun _ _ _ h => h) (Or.inl ⟨by rfl, ?_⟩) (by assumption) ?_
              rotate_left
              · intro w hSw; (try dsimp only at hSw); go_simp; all_goals (with_reducible rfl)
              try simp only [Act.put, List.setIfInBounds_toArray, List.set_cons_zero, List.set_cons_succ, List.getElem_toArray, List.getElem_cons_succ, List.getElem_cons_zero]
              refine wpAnyH_take (i := 2) (v := ?_) rfl (by kernel_rfl) (by kernel_rfl) (by kernel_rfl) (fun _ _ _ h => h) (Or.inl ⟨by rfl, ?_⟩) (by assumption) ?_
              rotate_left
              · intro w hSw; (try dsimp only at hSw); go_simp; all_goals (with_reducible rfl)
              try simp only [Act.put, List.setIfInBounds_toArray, List.set_cons_zero, List.set_cons_succ, List.getElem_toArray, List.getElem_cons_succ, List.getElem_cons_zero]
              refine wpAnyH_take (i := 3) (v := ?_) rfl (by kernel_rfl) (by kernel_rfl) (by kernel_rfl) (fun _ _ _ h => h) (Or.inl ⟨by rfl, ?_⟩) (by assumption) ?_
              rotate_left
              · intro w hSw; (try dsimp only at hSw); go_simp; all_goals (with_reducible rfl)
              try simp only [Act.put, List.setIfInBounds_toArray, List.set_cons_zero, List.set_cons_succ, List.getElem_toArray, List.getElem_cons_succ, List.getElem_cons_zero]
              refine wpAnyH_ready (rs := [4]) (by kernel_rfl) (by simp) ?_
              refine AllReadyH.cons rfl (fun K hK => ?_) AllReadyH.nil
              go_simp
              refine (HTy.out _).mono ?_
              rintro e w8 ⟨rfl, hw8⟩
              refine hK.out _ _ (keep13 hHeld hw8) (fun hHeld => ?_)
              clear hK K
              try simp only [Act.put, List.setIfInBounds_toArray, List.set_cons_zero, List.set_cons_succ, List.getElem_toArray, List.getElem_cons_succ, List.getElem_cons_zero]
              refine wpAnyH_take (i := 5) (v := ?_) rfl (by kernel_rfl) (by kernel_rfl) (by kernel_rfl) (fun _ _ _ h => h) (Or.inl ⟨by rfl, ?_⟩) (by assumption) ?_
              rotate_left
              · intro w hSw; (try dsimp only at hSw); go_simp; all_goals (with_reducible rfl)
              try simp only [Act.put, List.setIfInBounds_toArray, List.set_cons_zero, List.set_cons_succ, List.getElem_toArray, List.getElem_cons_succ, List.getElem_cons_zero]
              refine wpAnyH_take (i := 6) (v := ?_) rfl (by kernel_rfl) (by kernel_rfl) (by kernel_rfl) (fun _ _ _ h => h) (Or.inl ⟨by rfl, ?_⟩) (by assumption) ?_
              rotate_left
              · intro w hSw; (try dsimp only at hSw); go_simp; all_goals (with_reducible rfl)
              try simp only [Act.put, List.setIfInBounds_toArray, List.set_cons_zero, List.set_cons_succ, List.getElem_toArray, List.getElem_cons_succ, List.getElem_cons_zero]
              refine wpAnyH_take (i := 7) (v := ?_) rfl (by kernel_rfl) (by kernel_rfl) (by kernel_rfl) (fun _ _ _ h => h) (Or.inl ⟨by rfl, ?_⟩) (by assumption) ?_
              rotate_left
              · intro w hSw; (try dsimp only at hSw); go_simp; all_goals (with_reducible rfl)
              try simp only [Act.put, List.setIfInBounds_toArray, List.set_cons_zero, List.set_cons_succ, List.getElem_toArray, List.getElem_cons_succ, List.getElem_cons_zero]
              refine wpAnyH_take (i := 8) (v := ?_) rfl (by kernel_rfl) (by kernel_rfl) (by kernel_rfl) (fun _ _ _ h => h) (Or.inl ⟨by rfl, ?_⟩) (by assumption) ?_
              rotate_left
              · intro w hSw; (try dsimp only at hSw); go_simp; all_goals (with_reducible rfl)
              try simp only [Act.put, List.setIfInBounds_toArray, List.set_cons_zero, List.set_cons_succ, List.getElem_toArray, List.getElem_cons_succ, List.getElem_cons_zero]
              refine wpAnyH_take (i := 9) (v := ?_) rfl (by kernel_rfl) (by kernel_rfl) (by kernel_rfl) (fun _ _ _ h => h) (Or.inl ⟨by rfl, ?_⟩) (by assumption) ?_
              rotate_left
              · intro w hSw; (try dsimp only at hSw); go_simp; all_goals (with_reducible rfl)
              try simp only [Act.put, List.setIfInBounds_toArray, List.set_cons_zero, List.set_cons_succ, List.getElem_toArray, List.getElem_cons_succ, List.getElem_cons_zero]
              refine wpAnyH_take (i := 10) (v := ?_) rfl (by kernel_rfl) (by kernel_rfl) (by kernel_rfl) (fun _ _ _ h => h) (Or.inl ⟨by rfl, ?_⟩) (by assumption) ?_
              rotate_left
              · intro w hSw; (try dsimp only at hSw); go_simp; all_goals (with_reducible rfl)
              try simp only [Act.put, List.setIfInBounds_toArray, List.set_cons_zero, List.set_cons_succ, List.getElem_toArray, List.getElem_cons_succ, List.getElem_cons_zero]
              refine wpAnyH_take (i := 11) (v := ?_) rfl (by kernel_rfl) (by kernel_rfl) (by kernel_rfl) (fun _ _ _ h => h) (Or.inl ⟨by rfl, ?_⟩) (by assumption) ?_
              rotate_left
              · intro w hSw; (try dsimp only at hSw); go_simp; all_goals (with_reducible rfl)
              try simp only [Act.put, List.setIfInBounds_toArray, List.set_cons_zero, List.set_cons_succ, List.getElem_toArray, List.getElem_cons_succ, List.getElem_cons_zero]
              refine wpAnyH_take (i := 12) (v := ?_) rfl (by kernel_rfl) (by kernel_rfl) (by kernel_rfl) (fun _ _ _ h => h) (Or.inl ⟨by rfl, ?_⟩) (by assumption) ?_
              rotate_left
              · intro w hSw; (try dsimp only at hSw); go_simp; all_goals (with_reducible rfl)
              try simp only [Act.put, List.setIfInBounds_toArray, List.set_cons_zero, List.set_cons_succ, List.getElem_toArray, List.getElem_cons_succ, List.getElem_cons_zero]
              refine wpAnyH_take (i := 13) (v := ?_) rfl (by kernel_rfl) (by kernel_rfl) (by kernel_rfl) (fun _ _ _ h => h) (Or.inl ⟨by rfl, ?_⟩) (by assumption) ?_
              rotate_left
              · intro w hSw; (try dsimp only at hSw); go_simp; all_goals (with_reducible rfl)
              try simp only [Act.put, List.setIfInBounds_toArray, List.set_cons_zero, List.set_cons_succ, List.getElem_toArray, List.getElem_cons_succ, List.getElem_cons_zero]
              refine wpAnyH_take (i := 14) (v := ?_) rfl (by kernel_rfl) (by kernel_rfl) (by kernel_rfl) (fun _ _ _ h => h) (Or.inl ⟨by rfl, ?_⟩) (by assumption) ?_
              rotate_left
              · intro w hSw; (try dsimp only at hSw); go_simp; all_goals (with_reducible rfl)
              try simp only [Act.put, List.setIfInBounds_toArray, List.set_cons_zero, List.set_cons_succ, List.getElem_toArray, List.getElem_cons_succ, List.getElem_cons_zero]
              refine wpAnyH_take (i := 15) (v := ?_) rfl (by kernel_rfl) (by kernel_rfl) (by kernel_rfl) (fun _ _ _ h => h) (Or.inl ⟨by rfl, ?_⟩) (by assumption) ?_
              rotate_left
              · intro w hSw; (try dsimp only at hSw); go_simp; all_goals (with_reducible rfl)
              try simp only [Act.put, List.setIfInBounds_toArray, List.set_cons_zero, List.set_cons_succ, List.getElem_toArray, List.getElem_cons_succ, List.getElem_cons_zero]
              refine wpAnyH_take (i := 16) (v := ?_) rfl (by kernel_rfl) (by kernel_rfl) (by kernel_rfl) (fun _ _ _ h => h) (Or.inl ⟨by rfl, ?_⟩) (by assumption) ?_
              rotate_left
              · intro w hSw; (try dsimp only at hSw); go_simp; all_goals (with_reducible rfl)
              try simp only [Act.put, List.setIfInBounds_toArray, List.set_cons_zero, List.set_cons_succ, List.getElem_toArray, List.getElem_cons_succ, List.getElem_cons_zero]
              refine wpAnyH_take (i := 17) (v := ?_) rfl (by kernel_rfl) (by kernel_rfl) (by kernel_rfl) (fun _ _ _ h => h) (Or.inl ⟨by rfl, ?_⟩) (by assumption) ?_
              rotate_left
              · intro w hSw; (try dsimp only at hSw); go_simp; all_goals (with_reducible rfl)
              try simp only [Act.put, List.setIfInBounds_toArray, List.set_cons_zero, List.set_cons_succ, List.getElem_toArray, List.getElem_cons_succ, List.getElem_cons_zero]
              refine wpAnyH_take (i := 18) (v := ?_) rfl (by kernel_rfl) (by kernel_rfl) (by kernel_rfl) (fun _ _ _ h => h) (Or.inl ⟨by rfl, ?_⟩) (by assumption) ?_
              rotate_left
              · intro w hSw; (try dsimp only at hSw); go_simp; all_goals (with_reducible rfl)
              try simp only [Act.put, List.setIfInBounds_toArray, List.set_cons_zero, List.set_cons_succ, List.getElem_toArray, List.getElem_cons_succ, List.getElem_cons_zero]
              refine wpAnyH_take (i := 19) (v := ?_) rfl (by kernel_rfl) (by kernel_rfl) (by kernel_rfl) (fun _ _ _ h => h) (Or.inl ⟨by rfl, ?_⟩) (by assumption) ?_
              rotate_left
              · intro w hSw; (try dsimp only at hSw); go_simp; all_goals (with_reducible rfl)
              try simp only [Act.put, List.setIfInBounds_toArray, List.set_cons_zero, List.set_cons_succ, List.getElem_toArray, List.getElem_cons_succ, List.getElem_cons_zero]
              refine wpAnyH_take (i := 20) (v := ?_) rfl (by kernel_rfl) (by kernel_rfl) (by kernel_rfl) (fun _ _ _ h => h) (Or.inl ⟨by rfl, ?_⟩) (by assumption) ?_
              rotate_left
              · intro w hSw; (try dsimp only at hSw); go_simp; all_goals (with_reducible rfl)
              try simp only [Act.put, List.setIfInBounds_toArray, List.set_cons_zero, List.set_cons_succ, List.getElem_toArray, List.getElem_cons_succ, List.getElem_cons_zero]
              refine wpAnyH_take (i := 21) (v := ?_) rfl (by kernel_rfl) (by kernel_rfl) (by kernel_rfl) (fun _ _ _ h => h) (Or.inl ⟨by rfl, ?_⟩) (by assumption) ?_
              rotate_left
              · intro w hSw; (try dsimp only at hSw); go_simp; all_goals (with_reducible rfl)
              try simp only [Act.put, List.setIfInBounds_toArray, List.set_cons_zero, List.set_cons_succ, List.getElem_toArray, List.getElem_cons_succ, List.getElem_cons_zero]
              refine wpAnyH_take (i := 22) (v := ?_) rfl (by kernel_rfl) (by kernel_rfl) (by kernel_rfl) (fun _ _ _ h => h) (Or.inl ⟨by rfl, ?_⟩) (by assumption) ?_
              rotate_left
              · intro w hSw; (try dsimp only at hSw); go_simp; all_goals (with_reducible rfl)
              try simp only [Act.put, List.setIfInBounds_toArray, List.set_cons_zero, List.set_cons_succ, List.getElem_toArray, List.getElem_cons_succ, List.getElem_cons_zero]
              refine wpAnyH_take (i := 23) (v := ?_) rfl (by kernel_rfl) (by kernel_rfl) (by kernel_rfl) (fun _ _ _ h => h) (Or.inl ⟨by rfl, ?_⟩) (by assumption) ?_
              rotate_left
              · intro w hSw; (try dsimp only at hSw); go_simp; all_goals (with_reducible rfl)
              try simp only [Act.put, List.setIfInBounds_toArray, List.set_cons_zero, List.set_cons_succ, List.getElem_toArray, List.getElem_cons_succ, List.getElem_cons_zero]
              refine wpAnyH_take (i := 24) (v := ?_) rfl (by kernel_rfl) (by kernel_rfl) (by kernel_rfl) (fun _ _ _ h => h) (Or.inl ⟨by rfl, ?_⟩) (by assumption) ?_
              rotate_left
              · intro w hSw; (try dsimp only at hSw); go_simp; all_goals (with_reducible rfl)
              try simp only [Act.put, List.setIfInBounds_toArray, List.set_cons_zero, List.set_cons_succ, List.getElem_toArray, List.getElem_cons_succ, List.getElem_cons_zero]
              refine wpAnyH_take (i := 25) (v := ?_) rfl (by kernel_rfl) (by kernel_rfl) (by kernel_rfl) (fun _ _ _ h => h) (Or.inl ⟨by rfl, ?_⟩) (by assumption) ?_
              rotate_left
              · intro w hSw; (try dsimp only at hSw); go_simp; all_goals (with_reducible rfl)
              try simp only [Act.put, List.setIfInBounds_toArray, List.set_cons_zero, List.set_cons_succ, List.getElem_toArray, List.getElem_cons_succ, List.getElem_cons_zero]
              refine wpAnyH_take (i := 26) (v := ?_) rfl (by kernel_rfl) (by kernel_rfl) (by kernel_rfl) (fun _ _ _ h => h) (Or.inl ⟨by rfl, ?_⟩) (by assumption) ?_
              rotate_left
              · intro w hSw; (try dsimp only at hSw); go_simp; all_goals (with_reducible rfl)
              try simp only [Act.put, List.setIfInBounds_toArray, List.set_cons_zero, List.set_cons_succ, List.getElem_toArray, List.getElem_cons_succ, List.getElem_cons_zero]
              refine wpAnyH_take (i := 27) (v := ?_) rfl (by kernel_rfl) (by kernel_rfl) (by kernel_rfl) (fun _ _ _ h => h) (Or.inl ⟨by rfl, ?_⟩) (by assumption) ?_
              rotate_left
              · intro w hSw; (try dsimp only at hSw); go_simp; all_goals (with_reducible rfl)
              try simp only [Act.put, List.setIfInBounds_toArray, List.set_cons_zero, List.set_cons_succ, List.getElem_toArray, List.getElem_cons_succ, List.getElem_cons_zero]
              refine wpAnyH_take (i := 28) (v := ?_) rfl (by kernel_rfl) (by kernel_rfl) (by kernel_rfl) (fun _ _ _ h => h) (Or.inl ⟨by rfl, ?_⟩) (by assumption) ?_
              rotate_left
              · intro w hSw; (try dsimp only at hSw); go_simp; all_goals (with_reducible rfl)
              try simp only [Act.put, List.setIfInBounds_toArray, List.set_cons_zero, List.set_cons_succ, List.getElem_toArray, List.getElem_cons_succ, List.getElem_cons_zero]
              refine wpAnyH_take (i := 29) (v := ?_) rfl (by kernel_rfl) (by kernel_rfl) (by kernel_rfl) (fun _ _ _ h => h) (Or.inl ⟨by rfl, ?_⟩) (by assumption) ?_
              rotate_left
              · intro w hSw; (try dsimp only at hSw); go_simp; all_goals (with_reducible rfl)
              try simp only [Act.put, List.setIfInBounds_toArray, List.set_cons_zero, List.set_cons_succ, List.getElem_toArray, List.getElem_cons_succ, List.getElem_cons_zero]
              refine wpAnyH_ready (rs := [30]) (by kernel_rfl) (by simp) ?_
              refine AllReadyH.cons rfl (fun K hK => ?_) AllReadyH.nil
              go_simp
              refine (HSm.out _ _ (bw13 hHeld)).mono ?_
              rintro e w9 ⟨rfl, hw9⟩
              refine hK.out _ _ (keep13 hHeld hw9) (fun hHeld => ?_)
              clear hK K
              try simp only [Act.put, List.setIfInBounds_toArray, List.set_cons_zero, List.set_cons_succ, List.getElem_toArray, List.getElem_cons_succ, List.getElem_cons_zero]
              refine wpAnyH_take (i := 31) (v := ?_) rfl (by kernel_rfl) (by kernel_rfl) (by kernel_rfl) (fun _ _ _ h => h) (Or.inl ⟨by rfl, ?_⟩) (by assumption) ?_
              rotate_left
              · intro w hSw; (try dsimp only at hSw); go_simp; all_goals (with_reducible rfl)
              try simp only [Act.put, List.setIfInBounds_toArray, List.set_cons_zero, List.set_cons_succ, List.getElem_toArray, List.getElem_cons_succ, List.getElem_cons_zero]
              refine wpAnyH_take (i := 32) (v := ?_) rfl (by kernel_rfl) (by kernel_rfl) (by kernel_rfl) (fun _ _ _ h => h) (Or.inl ⟨by rfl, ?_⟩) (by assumption) ?_
              rotate_left
              · intro w hSw; (try dsimp only at hSw); go_simp; all_goals (with_reducible rfl)
              try simp only [Act.put, List.setIfInBounds_toArray, List.set_cons_zero, List.set_cons_succ, List.getElem_toArray, List.getElem_cons_succ, List.getElem_cons_zero]
              refine wpAnyH_take (i := 33) (v := ?_) rfl (by kernel_rfl) (by kernel_rfl) (by kernel_rfl) (fun _ _ _ h => h) (Or.inl ⟨by rfl, ?_⟩) (by assumption) ?_
              rotate_left
              · intro w hSw; (try dsimp only at hSw); go_simp; all_goals (with_reducible rfl)
              try simp only [Act.put, List.setIfInBounds_toArray, List.set_cons_zero, List.set_cons_succ, List.getElem_toArray, List.getElem_cons_succ, List.getElem_cons_zero]
              refine wpAnyH_take (i := 34) (v := ?_) rfl (by kernel_rfl) (by kernel_rfl) (by kernel_rfl) (fun _ _ _ h => h) (Or.inl ⟨by rfl, ?_⟩) (by assumption) ?_
              rotate_left
              · intro w hSw; (try dsimp only at hSw); go_simp; all_goals (with_reducible rfl)
              try simp only [Act.put, List.setIfInBounds_toArray, List.set_cons_zero, List.set_cons_succ, List.getElem_toArray, List.getElem_cons_succ, List.getElem_cons_zero]
              refine wpAnyH_take (i := 35) (v := ?_) rfl (by kernel_rfl) (by kernel_rfl) (by kernel_rfl) (fun _ _ _ h => h) (Or.inl ⟨by rfl, ?_⟩) (by assumption) ?_
              rotate_left
              · intro w hSw; (try dsimp only at hSw); go_simp; all_goals (with_reducible rfl)
              try simp only [Act.put, List.setIfInBounds_toArray, List.set_cons_zero, List.set_cons_succ, List.getElem_toArray, List.getElem_cons_succ, List.getElem_cons_zero]
              refine wpAnyH_take (i := 36) (v := ?_) rfl (by kernel_rfl) (by kernel_rfl) (by kernel_rfl) (fun _ _ _ h => h) (Or.inl ⟨by rfl, ?_⟩) (by assumption) ?_
              rotate_left
              · intro w hSw; (try dsimp only at hSw); go_simp; all_goals (with_reducible rfl)
              try simp only [Act.put, List.setIfInBounds_toArray, List.set_cons_zero, List.set_cons_succ, List.getElem_toArray, List.getElem_cons_succ, List.getElem_cons_zero]
              refine wpAnyH_take (i := 37) (v := ?_) rfl (by kernel_rfl) (by kernel_rfl) (by kernel_rfl) (fun _ _ _ h => h) (Or.inl ⟨by rfl, ?_⟩) (by assumption) ?_
              rotate_left
              · intro w hSw; (try dsimp only at hSw); go_simp; all_goals (with_reducible rfl)
              try simp only [Act.put, List.setIfInBounds_toArray, List.set_cons_zero, List.set_cons_succ, List.getElem_toArray, List.getElem_cons_succ, List.getElem_cons_zero]
              refine wpAnyH_take (i := 38) (v := ?_) rfl (by kernel_rfl) (by kernel_rfl) (by kernel_rfl) (fun _ _ _ h => h) (Or.inl ⟨by rfl, ?_⟩) (by assumption) ?_
              rotate_left
              · intro w hSw; (try dsimp only at hSw); go_simp; all_goals (with_reducible rfl)
              try simp only [Act.put, List.setIfInBounds_toArray, List.set_cons_zero, List.set_cons_succ, List.getElem_toArray, List.getElem_cons_succ, List.getElem_cons_zero]
              refine wpAnyH_take (i := 40) (v := ?_) rfl (by kernel_rfl) (by kernel_rfl) (by kernel_rfl) (fun _ _ _ h => h) (Or.inl ⟨by rfl, ?_⟩) (by assumption) ?_
              rotate_left
              · intro w hSw; (try dsimp only at hSw); go_simp; all_goals (with_reducible rfl)
              try simp only [Act.put, List.setIfInBounds_toArray, List.set_cons_zero, List.set_cons_succ, List.getElem_toArray, List.getElem_cons_succ, List.getElem_cons_zero]
              refine wpAnyH_take (i := 41) (v := ?_) rfl (by kernel_rfl) (by kernel_rfl) (by kernel_rfl) (fun _ _ _ h => h) (Or.inl ⟨by rfl, ?_⟩) (by assumption) ?_
              rotate_left
              · intro w hSw; (try dsimp only at hSw); go_simp; all_goals (with_reducible rfl)
              try simp only [Act.put, List.setIfInBounds_toArray, List.set_cons_zero, List.set_cons_succ, List.getElem_toArray, List.getElem_cons_succ, List.getElem_cons_zero]
              refine wpAnyH_ready (rs := [39]) (by kernel_rfl) (by simp) ?_
              refine AllReadyH.cons rfl (fun K hK => ?_) AllReadyH.nil
              go_simp
              refine (HFl2.out _).mono ?_
              rintro e w10 ⟨rfl, hw10⟩
              refine hK.out _ _ (keep13 hHeld hw10) (fun hHeld => ?_)
              clear hK K
              try simp only [Act.put, List.setIfInBounds_toArray, List.set_cons_zero, List.set_cons_succ, List.getElem_toArray, List.getElem_cons_succ, List.getElem_cons_zero]
              refine wpAnyH_take (i := 42) (v := ?_) rfl (by kernel_rfl) (by kernel_rfl) (by kernel_rfl) (fun _ _ _ h => h) (Or.inl ⟨by rfl, ?_⟩) (by assumption) ?_
              rotate_left
              · intro w hSw; (try dsimp only at hSw); go_simp; all_goals (with_reducible rfl)
              try simp only [Act.put, List.setIfInBounds_toArray, List.set_cons_zero, List.set_cons_succ, List.getElem_toArray, List.getElem_cons_succ, List.getElem_cons_zero]
              refine wpAnyH_take (i := 43) (v := ?_) rfl (by kernel_rfl) (by kernel_rfl) (by kernel_rfl) (fun _ _ _ h => h) (Or.inl ⟨by rfl, ?_⟩) (by assumption) ?_
              rotate_left
              · intro w hSw; (try dsimp only at hSw); go_simp; all_goals (with_reducible rfl)
              try simp only [Act.put, List.setIfInBounds_toArray, List.set_cons_zero, List.set_cons_succ, List.getElem_toArray, List.getElem_cons_succ, List.getElem_cons_zero]
              refine wpAnyH_take (i := 44) (v := ?_) rfl (by kernel_rfl) (by kernel_rfl) (by kernel_rfl) (fun _ _ _ h => h) (Or.inl ⟨by rfl, ?_⟩) (by assumption) ?_
              rotate_left
              · intro w hSw; (try dsimp only at hSw); go_simp; all_goals (with_reducible rfl)
              try simp only [Act.put, List.setIfInBounds_toArray, List.set_cons_zero, List.set_cons_succ, List.getElem_toArray, List.getElem_cons_succ, List.getElem_cons_zero]
              refine wpAnyH_take (i := 45) (v := ?_) rfl (by kernel_rfl) (by kernel_rfl) (by kernel_rfl) (fun _ _ _ h => h) (Or.inl ⟨by rfl, ?_⟩) (by assumption) ?_
              rotate_left
              · intro w hSw; (try dsimp only at hSw); go_simp; all_goals (with_reducible rfl)
              try simp only [Act.put, List.setIfInBounds_toArray, List.set_cons_zero, List.set_cons_succ, List.getElem_toArray, List.getElem_cons_succ, List.getElem_cons_zero]
              refine wpAnyH_take (i := 46) (v := ?_) rfl (by kernel_rfl) (by kernel_rfl) (by kernel_rfl) (fun _ _ _ h => h) (Or.inl ⟨by rfl, ?_⟩) (by assumption) ?_
              rotate_left
              · intro w hSw; (try dsimp only at hSw); go_simp; all_goals (with_reducible rfl)
              try simp only [Act.put, List.setIfInBounds_toArray, List.set_cons_zero, List.set_cons_succ, List.getElem_toArray, List.getElem_cons_succ, List.getElem_cons_zero]
              refine wpAnyH_take (i := 47) (v := ?_) rfl (by kernel_rfl) (by kernel_rfl) (by kernel_rfl) (fun _ _ _ h => h) (Or.inl ⟨by rfl, ?_⟩) (by assumption) ?_
              rotate_left
              · intro w hSw; (try dsimp only at hSw); go_simp; all_goals (with_reducible rfl)
              try simp only [Act.put, List.setIfInBounds_toArray, List.set_cons_zero, List.set_cons_succ, List.getElem_toArray, List.getElem_cons_succ, List.getElem_cons_zero]
              refine wpAnyH_take (i := 48) (v := ?_) rfl (by kernel_rfl) (by kernel_rfl) (by kernel_rfl) (fun _ _ _ h => h) (Or.inl ⟨by rfl, ?_⟩) (by assumption) ?_
              rotate_left
              · intro w hSw; (try dsimp only at hSw); go_simp; all_goals (with_reducible rfl)
              try simp only [Act.put, List.setIfInBounds_toArray, List.set_cons_zero, List.set_cons_succ, List.getElem_toArray, List.getElem_cons_succ, List.getElem_cons_zero]
              refine wpAnyH_take (i := 49) (v := ?_) rfl (by kernel_rfl) (by kernel_rfl) (by kernel_rfl) (fun _ _ _ h => h) (Or.inl ⟨by rfl, ?_⟩) (by assumption) ?_
              rotate_left
              · intro w hSw; (try dsimp only at hSw); go_simp; all_goals (with_reducible rfl)
              try simp only [Act.put, List.setIfInBounds_toArray, List.set_cons_zero, List.set_cons_succ, List.getElem_toArray, List.getElem_cons_succ, List.getElem_cons_zero]
              refine wpAnyH_take (i := 50) (v := undef) rfl (by kernel_rfl) (by kernel_rfl) (by kernel_rfl) (fun _ _ _ h => h) (Or.inr ⟨by rfl, rfl⟩) (by assumption) ?_
              try simp only [Act.put, List.setIfInBounds_toArray, List.set_cons_zero, List.set_cons_succ, List.getElem_toArray, List.getElem_cons_succ, List.getElem_cons_zero]
              refine wpAnyH_take (i := 51) (v := undef) rfl (by kernel_rfl) (by kernel_rfl) (by kernel_rfl) (fun _ _ _ h => h) (Or.inr ⟨by rfl, rfl⟩) (by assumption) ?_
              try simp only [Act.put, List.setIfInBounds_toArray, List.set_cons_zero, List.set_cons_succ, List.getElem_toArray, List.getElem_cons_succ, List.getElem_cons_zero]
              refine wpAnyH_take (i := 52) (v := undef) rfl (by kernel_rfl) (by kernel_rfl) (by kernel_rfl) (fun _ _ _ h => h) (Or.inr ⟨by rfl, rfl⟩) (by assumption) ?_
              try simp only [Act.put, List.setIfInBounds_toArray, List.set_cons_zero, List.set_cons_succ, List.getElem_toArray, List.getElem_cons_succ, List.getElem_cons_zero]
              refine wpAnyH_take (i := 53) (v := undef) rfl (by kernel_rfl) (by kernel_rfl) (by kernel_rfl) (fun _ _ _ h => h) (Or.inr ⟨by rfl, rfl⟩) (by assumption) ?_
              try simp only [Act.put, List.setIfInBounds_toArray, List.set_cons_zero, List.set_cons_succ, List.getElem_toArray, List.getElem_cons_succ, List.getElem_cons_zero]
              refine wpAnyH_take (i := 54) (v := undef) rfl (by kernel_rfl) (by kernel_rfl) (by kernel_rfl) (fun _ _ _ h => h) (Or.inr ⟨by rfl, rfl⟩) (by assumption) ?_
              try simp only [Act.put, List.setIfInBounds_toArray, List.set_cons_zero, List.set_cons_succ, List.getElem_toArray, List.getElem_cons_succ, List.getElem_cons_zero]
              refine wpAnyH_take (i := 55) (v := ?_) rfl (by kernel_rfl) (by kernel_rfl) (by kernel_rfl) (fun _ _ _ h => h) (Or.inl ⟨by rfl, ?_⟩) (by assumption) ?_
              rotate_left
              · intro w hSw; (try dsimp only at hSw); go_simp; all_goals (with_reducible rfl)
              try simp only [Act.put, List.setIfInBounds_toArray, List.set_cons_zero, List.set_cons_succ, List.getElem_toArray, List.getElem_cons_succ, List.getElem_cons_zero]
              refine wpAnyH_take (i := 56) (v := ?_) rfl (by kernel_rfl) (by kernel_rfl) (by kernel_rfl) (fun _ _ _ h => h) (Or.inl ⟨by rfl, ?_⟩) (by assumption) ?_
              rotate_left
              · intro w hSw; (try dsimp only at hSw); go_simp; all_goals (with_reducible rfl)
              try simp only [Act.put, List.setIfInBounds_toArray, List.set_cons_zero, List.set_cons_succ, List.getElem_toArray, List.getElem_cons_succ, List.getElem_cons_zero]
              refine wpAnyH_done (by kernel_rfl) ?_ _
              have hSw := bw13 hHeld
              clear hHeld
              go_wp2
              go_round
              case measure => simp only [intOf]; omega
              case rel => exact ⟨k + 1, q', false, by go_num, rfl, by omega, by omega, ⟨HP.out, fun h => by cases h⟩, hU7.trans hSw⟩
          · have hlt2 := HLk.out hl0
            have f3 : ((Nm.S y.it.to).toList == []) = false := by rw [Nm.toList_S, ← hlt2]; simpa using hl0
            have f4 : ¬ (Nm.S y.it.to).toList = [] := by rw [Nm.toList_S, ← hlt2]; exact hl0
            subst hlt2
            by_cases hn0 : nm = []
            · as_aux_lemma =>
              subst hn0
              replace g0 : w7.cell? ⟨w4.heap.size, 0, none⟩ = some (.string ⟨#[]⟩) := g0
              have QT : Hid (∀ n, Calls Tryz.prog 25 #[.int .u8 (kk : Int)] (w7.drewN n) fun e w' => e = .returned (.int .u8 (ty : Int)) ∧ w' = w7.drewN n) := fun n => HTy0.out _
              have QS : Hid (∀ n, Calls Tryz.prog 12 #[.slice (some ⟨g, q1, none⟩) s (c2 - q1), .slice y.ad s y.cp] (w7.drewN n) fun e w' => e = .returned (.bool true) ∧ ∃ m, w' = (w7.drewN n).drewN m) := fun n => HSm0.out _ _ (Bw.drewN _ n)
              go_quiet ((first | (go_at_call 25; with_reducible (exact Calls.quiet_of_same (QT.out _))) | (go_at_call 12; with_reducible (exact Calls.quiet_of (QS.out _)))))
              have hSw : Bw w7 (w7.drewN nq) := Bw.drewN _ nq
              go_wp2
              go_round
              case measure => simp only [intOf]; omega
              case rel => exact ⟨k + 1, q', false, by go_num, rfl, by omega, by omega, ⟨HP.out, fun h => by cases h⟩, hU7.trans hSw⟩
            · as_aux_lemma =>
              have HFl3 : Hid (∀ u, Calls Tryz.prog 26 #[.agg #[.string (Nm.S nm), .string (Nm.S pr), .int .i64 y.it.mode, .int .i64 (s : Int), .int .i64 y.it.time, .int .u8 (ty : Int), .string (Nm.S y.it.to)]] u fun e w' => e = .returned (.string (Nm.S y.it.path)) ∧ Bw u w') := HFl.out hn0
              have HFl2 : Hid (∀ u, Calls Tryz.prog 26 #[.agg #[.string (Nm.S nm), .string (Nm.S pr), .int .i64 y.it.mode, .int .i64 (s : Int), .int .i64 y.it.time, .int .u8 (ty : Int), .string (Nm.S y.it.to)]] u fun e w' => e = .returned (.string (Nm.S y.it.path)) ∧ Bw u w') := HFl3.out
              have f1 : ((Nm.S nm).toList == []) = false := by rw [Nm.toList_S]; simpa using hn0
              have f2 : ¬ (Nm.S nm).toList = [] := by rw [Nm.toList_S]; exact hn0
              go_region_held3 (fun w' => w'.cell? ⟨w4.heap.size, 0, none⟩ = some (.string (Nm.S nm)) ∧ w'.cell? ⟨w4.heap.size, 1, none⟩ = some (.string (Nm.S pr)) ∧ w'.cell? ⟨w4.heap.size, 2, none⟩ = some (.int .i64 y.it.mode) ∧ w'.cell? ⟨w4.heap.size, 3, none⟩ = some (.int .i64 (s : Int)) ∧ w'.cell? ⟨w4.heap.size, 4, none⟩ = some (.int .i64 y.it.time) ∧ w'.cell? ⟨w4.heap.size, 5, none⟩ = some (.int .u8 (ty : Int)) ∧ w'.cell? ⟨w4.heap.size, 6, none⟩ = some (.string (Nm.S y.it.to)) ∧ w'.cell? ⟨w6.heap.size, 0, none⟩ = some (.string (Nm.S y.it.path)) ∧ w'.cell? ⟨w6.heap.size, 1, none⟩ = some (.int .u8 (kk : Int)) ∧ w'.cell? ⟨w6.heap.size, 2, none⟩ = some (.int .i64 y.it.mode) ∧ w'.cell? ⟨w6.heap.size, 3, none⟩ = some (.int .i64 y.it.time) ∧ w'.cell? ⟨w6.heap.size, 4, none⟩ = some (.slice y.ad s y.cp) ∧ w'.cell? ⟨w6.heap.size, 5, none⟩ = some (.string (Nm.S y.it.to)) ∧ Bw w7 w')
                (first | exact ⟨g0, g1, g2, g3, g4, g5, g6, x0, x1', x2', x3', x4, x5, Below.drew (Bw.refl _)⟩ | assumption | exact keep13 (by assumption) (by assumption))
                (first | (go_at_call 25; refine (HTy.out _).mono ?_; rintro e w8 ⟨rfl, hw8⟩) | (go_at_call 12; refine (HSm.out _ _ (by first | assumption | exact bw13 (by assumption))).mono ?_; rintro e w10 ⟨rfl, hw10⟩) | (go_at_call 26; refine (HFl2.out _).mono ?_; rintro e w9 ⟨rfl, hw9⟩))
              rename_i hSe
              have hSw := bw13 hSe
              clear hSe
              go_wp2
              go_round
              case measure => simp only [intOf]; omega
              case rel => exact ⟨k + 1, q', false, by go_num, rfl, by omega, by omega, ⟨HP.out, fun h => by cases h⟩, hU7.trans hSw⟩


set_option maxRecDepth 100000 in
theorem lifted (os : Os) (started : os.Started) (H : Type) (enc : TypeId × Value → H) :
    ReturnsInHanded {} Tryz.checked os 6 .any (fun w args => (Rows.packShapeSpec.pre enc Tryz.prog Tryz.f6 [] false w args ∧ laidMetH Tryz.prog laidKT w) ∧ sizedMet enc Tryz.prog Tryz.f6 (OpenSpec.ofChange Rows.packShapeSpec) false w args)
      (Rows.packShapeSpec.post enc Tryz.prog Tryz.f6 false true false false) := by
  refine returnsInHanded_of_change_and (C := Tryz.checked) (X := fun w _ => laidMetH Tryz.prog laidKT w) (fun _ _ _ hh h => h.of_heap hh) own started (by kernel_rfl) Tryz.func6
    (ChangeSpec.witness_shaped (enc := enc) (C := Tryz.checked) (os := os) (X := fun w _ => laidMetH Tryz.prog laidKT w) false (World.doorLaid Tryz.prog 400 os) #[.slice none 0 0] 8 rfl (World.shaped_of_RefB (by kernel_rfl) (by kernel_rfl)) (by kernel_rfl) (by kernel_rfl) (by kernel_rfl) (door_metKT os _)) ?_
  intro W base args ds gs before hval0 hW hcnd hsz0 hL _
  have hval : ∀ (j : Nat) t v, Tryz.f6.params[j]? = some t → args[j]? = some v → Value.okWide Tryz.prog W .any base t v := hval0
  have hW' := hW
  obtain ⟨p, q, hA0, hV, rfl, hfz, hnd⟩ := hW
  have hA : DataW.TrodAll enc Tryz.prog W 0 (fun _ => true) true Tryz.f6.params.toList args.toList ds p := hA0
  have hsz : (DataW.weightsEach Tryz.prog (Tryz.f6.params.toList ++ Rows.packShapeSpec.plain.varTypes Tryz.prog) (ds ++ gs)).all (· ≤ reachBytes) = true := hsz0
  have hkat := ktat_of_laid hL
  rw [Tryz.params6] at hA hval hsz
  obtain ⟨v0, vs0, d0, ds0, p0, q0, hargs, rfl, rfl, h0, r0⟩ := trodAll_cons hA
  obtain ⟨rfl, rfl, rfl⟩ := trodAll_nil r0
  obtain rfl : args = #[v0] := by cases args; simp_all
  obtain ⟨rfl, rfl⟩ := trodVars_none hV
  obtain ⟨a0, len0, cap0, rfl⟩ := okWide_slice Tryz.underlying22 (hval 0 22 v0 rfl rfl)
  have k0 := h0
  have lt0 : ∀ x ∈ p0, x.block < W.heap.size := by obtain ⟨m, hm⟩ := k0; exact DataW.trod_lt m _ _ _ hm
  obtain ⟨L0, w0⟩ := open_its h0 (fun x hx => by simpa using List.all_eq_true.1 hsz x (DataW.weights_mem_each (j := 0) (t := 22) rfl rfl x hx))
  clear hA0 hval0
  refine (walk a0 len0 cap0 L0 W hkat w0).mono fun e W' ⟨he, bel⟩ => ?_
  subst he
  exact ⟨_, rfl, _, _, _, [], _, [], hW', trodAll_mk1 (shut_bool Tryz.underlying4 _), (trodAll_cons_mk (Below.trod laidOut (by kernel_rfl) (of_decide_eq_true (by kernel_rfl)) k0 bel lt0) trodAll_mk0), rfl, bel.frame _, fun h => by cases h⟩

theorem over : Rows.packShapeRow.holds Tryz.pinned (OpenSpec.ofChange Rows.packShapeSpec) :=
  OpenClaim.holds_of_wide 6 Tryz.f6 rfl rfl rfl rfl rfl rfl rfl ⟨rfl, rfl, rfl, rfl, rfl⟩ rfl rfl rfl rfl rfl (by kernel_rfl) Tryz.func6 (by kernel_rfl)
    (of_decide_eq_true (by kernel_rfl)) (by unfold Func.isWrapper; first | (rw [if_pos (by decide +kernel)]; kernel_rfl) | (rw [if_neg (by decide +kernel)]; exact ⟨rfl, rfl⟩))
    (fun os started H enc _ => lifted os started H enc)

theorem proved : Rows.PackShapeCardSaid :=
  Claim7.holds_tied_plain_at .later [] [.data, .data, .data, .data] true (true, "5492f5e41247cc02cc49d51610b3a1000faf02ce834e575e36ea9376324993ab") true
    over (fun _ h => by cases h) (by kernel_rfl) (fun _ h => by cases h) packShape_row_tie rfl ⟨rfl, rfl⟩ (by kernel_rfl) rfl
    (fun f fn hf hfn => by
      obtain rfl : f = 6 := Option.some.inj ((show Tryz.prog.funcNamed "tabulary/tabularylaw12.PackShape" = some 6 by kernel_rfl).symm.trans hf) |>.symm
      obtain rfl : fn = Tryz.f6 := (Option.some.inj (Tryz.func6.symm.trans hfn)).symm
      exact ⟨by kernel_rfl, fun j t ht => by
        rw [Tryz.params6] at ht
        have hm : t ∈ [22] := by simpa using Array.mem_of_getElem? ht
        have hall : ([22].all fun u => !Tryz.prog.wantsStandIn u) = true := by kernel_rfl
        exact (show Tryz.prog.wantsStandIn t = false by simpa using List.all_eq_true.1 hall t hm)⟩)
    (by kernel_rfl)
#print axioms proved
end Go.Proofs.YtldkhbkgmiicbaaGreatDoor.packShape
