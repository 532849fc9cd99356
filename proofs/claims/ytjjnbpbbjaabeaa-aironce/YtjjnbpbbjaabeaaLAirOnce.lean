/- Proved: for every list of acts the statement AirOnce answers true (the document's P19.6: what is carried, lost or still under way was sent over a way that was whole, or doubled, just as often), with no condition but the reach. -/
import Derived.Test.YtjjnbpbbjaabeaaTt
import Derived.Test.YtjjnbpbbjaabeaaFe
import Derived.ShutString
import Derived.ChangeOld
namespace Go.Proofs.Ytjjnbpbbjaabeaa.airOnce
open Go.ChangeShapes Go.WideShapes Go.ChangeAt Go.RowKit
set_option linter.unusedVariables false

set_option linter.unusedSimpArgs false
theorem wr64 (k : Nat) (h : k ≤ 1000) : IntKind.i64.wrap ((k : Int) + 1) = (k : Int) + 1 := by rw [IntKind.wrap_i64]; omega
set_option maxRecDepth 100000 in
set_option maxHeartbeats 40000000 in
theorem walk (a0 : Option Addr) (len0 cap0 : Nat) (X0 : Nat → Ac19) (w : World) (w0 : InActs19 w a0 len0 cap0 X0) :
    Calls Try.prog 6 #[.slice a0 len0 cap0] w fun e w' => e = .returned (.bool true) ∧ Below w.heap.size w w' := by
  have HX : Hid (InActs19 w a0 len0 cap0 X0) := w0
  have HN : Hid (Calls Try.prog 9 #[.int .i64 4] w fun e w' => ∃ g, e = .returned (.tuple #[.pointer (some ⟨g, 0, none⟩), .int .i64 0]) ∧ Hid (AirAt w' (Gr (fun _ => False) w w') g (Ai.new 4)) ∧ Hid (Bw w w')) := new_at 4 (by decide) (by decide) w
  have HG0 := great19_any w0
  by_cases hr : greatB len0 X0 = true
  · rw [hr] at HG0
    have HG : Hid (Calls Try.prog 7 #[.slice a0 len0 cap0] w fun e w' => e = .returned (.bool true) ∧ w' = w) := HG0
    clear HN HG0 HX hr w0
    go_enter Try.func6, Try.ntmps6
    go_wp2_with (first
      | (go_at_call 7; refine HG.out.mono ?_; rintro e w1 ⟨rfl, hw⟩; subst w1)
      | (go_at_call 8; refine (wakes19_any _).mono ?_; rintro e w2 ⟨rfl, hb2⟩))
    go_ret
    exact ⟨rfl, hb2⟩
  · have hrf : greatB len0 X0 = false := by cases e : greatB len0 X0; rfl; exact absurd e hr
    rw [hrf] at HG0
    have HG : Hid (Calls Try.prog 7 #[.slice a0 len0 cap0] w fun e w' => e = .returned (.bool false) ∧ w' = w) := HG0
    have hlen := greatB_no hrf
    clear HG0 hr hrf w0
    go_enter Try.func6, Try.ntmps6
    go_upto_region 8 with (first
      | (go_at_call 7; refine HG.out.mono ?_; rintro e w1 ⟨rfl, hw⟩; subst w1)
      | (go_at_call 9; refine HN.out.mono ?_; rintro e w2 ⟨g, rfl, hA2, hb2⟩))
    have hI0 : Hid (Once w w2 g (Ai.new 4) (.slice none 0 0) (.slice none 0 0) [] []) := ⟨_, [], [], hA2.out, fun b hb => by rcases hb with hb | hb; exact hb.elim; exact hb.1, hb2.out, .inl ⟨rfl, rfl⟩, DgsV.nil _, .inl ⟨rfl, rfl⟩, DgsV.nil _, fun b hb => (by cases hb), fun b hb => (by cases hb), fun b hb => (by cases hb), fun r hr => (by cases hr), fun r hr => (by cases hr)⟩
    clear HN HG hA2 hb2
    go_loopw [5, 6, 7] (fun s5 s6 s7 wr => ∃ (k : Nat) (S : Ai.St) (CM WN : List Ai.Dg) (cv wv : Value), k ≤ len0 ∧ s7 = .int .i64 (k : Int) ∧ cv = s5 ∧ wv = s6 ∧ Hid (Once w wr g S cv wv CM WN) ∧ Hid (Ai.Even S CM WN) ∧ Hid (CM.length ≤ k) ∧ Hid (S.m ≤ k)) (fun _ _ s7 _ => len0 - (intOf s7).toNat)
    case atStart => exact ⟨0, _, [], [], _, _, Nat.zero_le _, rfl, rfl, rfl, hI0, Ai.Even.new 4, Nat.zero_le _, Nat.zero_le _⟩
    case round =>
      obtain ⟨k, S, CM, WN, cv, wv, hk, rfl, rfl, rfl, hI, hE, hC, hM⟩ := hrel
      have k0 : (0 : Int) ≤ (k : Int) := Int.natCast_nonneg _
      by_cases hlt : k < len0
      · have k1 : (k : Int) < (len0 : Int) := by omega
        have k2 : (k : Int) ≤ 200 := by omega
        obtain ⟨b, off, rfl, hcell⟩ := HX.out.cell hlt
        have hin := HX.out.acts k hlt
        obtain ⟨x, hx⟩ : ∃ x, X0 k = x := ⟨_, rfl⟩
        rw [hx] at hcell hin
        have hrow := hin.rowv
        obtain ⟨dd, nn, src, dst, A, L, C, f⟩ := x
        have hdb := hin.db
        have hsb := hin.sb
        have htb := hin.tb
        obtain ⟨dl, hdl⟩ : ∃ dl, datF f L = dl := ⟨_, rfl⟩
        have hrow2 : RowV w (.slice A L C) (datF f L) := hrow
        rw [hdl] at hrow2
        dsimp only at hcell hdb hsb htb
        have HC : Hid (∀ W, Bw w W → W.cell? ⟨b, off + k * 5, none⟩ = some (.int .i64 dd) ∧ W.cell? ⟨b, off + k * 5 + 1, none⟩ = some (.int .i64 nn) ∧ W.cell? ⟨b, off + k * 5 + 2, none⟩ = some (.int .i64 src) ∧ W.cell? ⟨b, off + k * 5 + 3, none⟩ = some (.int .i64 dst) ∧ W.cell? ⟨b, off + k * 5 + 4, none⟩ = some (.slice A L C)) := hcell
        have HR : Hid (RowV w (.slice A L C) dl) := hrow2
        have hs64 : Hid (In64 src) := hsb
        have ht64 : Hid (In64 dst) := htb
        clear hrow hrow2 hin hx hdl hcell hsb htb hdb
        obtain ⟨P, EC, EW, hO⟩ := hI.out
        have HAt : Hid (Calls Try.prog 13 #[.pointer (some ⟨g, 0, none⟩), .int .i64 nn] wr fun e w' => ∃ v z W2 W3, e = .returned (.tuple #[.agg #[.int .i64 (S.giv nn).src, .int .i64 (S.giv nn).dst, v], .bool (S.has nn)]) ∧ Hid (Kept w' (S.giv nn) v z W2 W3) ∧ Hid (Mid w W3 P g S cv wv EC EW CM WN z (S.giv nn) v)) := once_at hO nn
        have hbw : Hid (Bw w wr) := hO.bw
        obtain ⟨-, y1, -, -, -⟩ := HC.out wr hbw.out
        have hlE := hE.out.length_eq
        clear hO hI
        obtain ⟨D, hD⟩ : ∃ D, Hid (S.giv nn = D) := ⟨_, rfl⟩
        obtain ⟨hs, hhs⟩ : ∃ x, Hid (S.has nn = x) := ⟨_, rfl⟩
        rw [hD.out, hhs.out] at HAt
        go_upto_region 11 with (first
          | (go_at_call 13; refine HAt.out.mono ?_; rintro e w3 ⟨v8, z8, W8, X8, rfl, hK8, hM8⟩)
          | (rw [hK8.out.2.1.out, hK8.out.1.out]; refine wpList_store_row rfl 35 _ _ rfl z8 (dcs D.src D.dst v8) rfl rfl 35 _ hK8.out.2.2.1.out (dg_info _ _ _) rfl (dg_all _ _ hK8.out.2.2.2.2.out).out ?_; rw [hK8.out.2.2.2.1.out]))
        clear HAt hK8 y1
        have hbw8 : Hid (Bw w X8) := hM8.out.o.bw
        obtain ⟨y0, y1, y2, y3, y4⟩ := HC.out X8 hbw8.out
        have hWl : Hid (WN.length ≤ 1000) := by show _ ≤ _; have h1 := hC.out; rw [List.length_append] at hlE; omega
        have hCl : Hid (CM.length ≤ 1000) := by show _ ≤ _; have h1 := hC.out; omega
        clear hlE
        by_cases e0 : dd = 0
        · subst e0
          clear y1 y4
          clear hhs hD
          have hm2 : Hid ((S.send ⟨src, dst, dl⟩).m ≤ k + 1) := by show _ ≤ _; have h1 := hM.out; unfold Ai.St.send; split <;> (show S.m ≤ _; omega)
          obtain ⟨bc, hbc⟩ : ∃ x, Hid (S.cut src dst = x) := ⟨_, rfl⟩
          have HI : Hid (Calls Try.prog 22 #[.pointer (some ⟨g, 0, none⟩), .int .i64 src, .int .i64 dst] (X8.drewN 1) fun e w' => e = .returned (.bool bc) ∧ Hid (Mid w w' P g S cv wv EC EW CM WN z8 D v8)) := by
            have h1 := mid_is (hM8.out.keep (Bw.drewN X8 1)) hs64.out ht64.out
            rw [hbc.out] at h1
            exact h1
          go_upto_region 13 with fail
          clear y0
          have hS8 : (X8.drewN 1).cell? ⟨b, off + k * 5 + 2, none⟩ = some (.int .i64 src) ∧ (X8.drewN 1).cell? ⟨b, off + k * 5 + 3, none⟩ = some (.int .i64 dst) := ⟨y2, y3⟩
          refine wp_region_held_drew (S := fun w' => w'.cell? ⟨b, off + k * 5 + 2, none⟩ = some (.int .i64 src) ∧ w'.cell? ⟨b, off + k * 5 + 3, none⟩ = some (.int .i64 dst)) (by kernel_rfl) (hS8) (fun hHeld => ?_)
          refine wpAnyH_take (i := 0) (v := ?_) rfl (by kernel_rfl) (by kernel_rfl) (by kernel_rfl) (fun _ _ _ h => h) (Or.inl ⟨by rfl, ?_⟩) (by assumption) ?_
          rotate_left
          · intro w hSw; (try dsimp only at hSw); go_simp; all_goals (with_reducible rfl)
          try simp only [Act.put, List.setIfInBounds_toArray, List.set_cons_zero, List.set_cons_succ, List.getElem_toArray, List.getElem_cons_succ, List.getElem_cons_zero]
          refine wpAnyH_take (i := 1) (v := ?_) rfl (by kernel_rfl) (by kernel_rfl) (by kernel_rfl) (fun _ _ _ h => h) (Or.inl ⟨by rfl, ?_⟩) (by assumption) ?_
          rotate_left
          · intro w hSw; (try dsimp only at hSw); go_simp; all_goals (with_reducible rfl)
          try simp only [Act.put, List.setIfInBounds_toArray, List.set_cons_zero, List.set_cons_succ, List.getElem_toArray, List.getElem_cons_succ, List.getElem_cons_zero]
          refine wpAnyH_take (i := 2) (v := ?_) rfl (by kernel_rfl) (by kernel_rfl) (by kernel_rfl) (fun _ _ _ h => h) (Or.inl ⟨by rfl, ?_⟩) (by assumption) ?_
          rotate_left
          · intro w hSw; (try dsimp only at hSw); go_simp; all_goals (with_reducible rfl)
          try simp only [Act.put, List.setIfInBounds_toArray, List.set_cons_zero, List.set_cons_succ, List.getElem_toArray, List.getElem_cons_succ, List.getElem_cons_zero]
          refine wpAnyH_take (i := 3) (v := ?_) rfl (by kernel_rfl) (by kernel_rfl) (by kernel_rfl) (fun _ _ _ h => h) (Or.inl ⟨by rfl, ?_⟩) (by assumption) ?_
          rotate_left
          · intro w hSw; (try dsimp only at hSw); go_simp; all_goals (with_reducible rfl)
          try simp only [Act.put, List.setIfInBounds_toArray, List.set_cons_zero, List.set_cons_succ, List.getElem_toArray, List.getElem_cons_succ, List.getElem_cons_zero]
          refine wpAnyH_take (i := 4) (v := ?_) rfl (by kernel_rfl) (by kernel_rfl) (by kernel_rfl) (fun _ _ _ h => h) (Or.inl ⟨by rfl, ?_⟩) (by assumption) ?_
          rotate_left
          · intro w hSw; (try dsimp only at hSw); go_simp; all_goals (with_reducible rfl)
          try simp only [Act.put, List.setIfInBounds_toArray, List.set_cons_zero, List.set_cons_succ, List.getElem_toArray, List.getElem_cons_succ, List.getElem_cons_zero]
          refine wpAnyH_take (i := 5) (v := ?_) rfl (by kernel_rfl) (by kernel_rfl) (by kernel_rfl) (fun _ _ _ h => h) (Or.inl ⟨by rfl, ?_⟩) (by assumption) ?_
          rotate_left
          · intro w hSw; (try dsimp only at hSw); go_simp; all_goals (with_reducible rfl)
          try simp only [Act.put, List.setIfInBounds_toArray, List.set_cons_zero, List.set_cons_succ, List.getElem_toArray, List.getElem_cons_succ, List.getElem_cons_zero]
          refine wpAnyH_take (i := 6) (v := ?_) rfl (by kernel_rfl) (by kernel_rfl) (by kernel_rfl) (fun _ _ _ h => h) (Or.inl ⟨by rfl, ?_⟩) (by assumption) ?_
          rotate_left
          · intro w hSw; (try dsimp only at hSw); replace hSw := hSw.1; go_simp; all_goals (with_reducible rfl)
          try simp only [Act.put, List.setIfInBounds_toArray, List.set_cons_zero, List.set_cons_succ, List.getElem_toArray, List.getElem_cons_succ, List.getElem_cons_zero]
          refine wpAnyH_take (i := 7) (v := ?_) rfl (by kernel_rfl) (by kernel_rfl) (by kernel_rfl) (fun _ _ _ h => h) (Or.inl ⟨by rfl, ?_⟩) (by assumption) ?_
          rotate_left
          · intro w hSw; (try dsimp only at hSw); go_simp; all_goals (with_reducible rfl)
          try simp only [Act.put, List.setIfInBounds_toArray, List.set_cons_zero, List.set_cons_succ, List.getElem_toArray, List.getElem_cons_succ, List.getElem_cons_zero]
          refine wpAnyH_take (i := 8) (v := ?_) rfl (by kernel_rfl) (by kernel_rfl) (by kernel_rfl) (fun _ _ _ h => h) (Or.inl ⟨by rfl, ?_⟩) (by assumption) ?_
          rotate_left
          · intro w hSw; (try dsimp only at hSw); go_simp; all_goals (with_reducible rfl)
          try simp only [Act.put, List.setIfInBounds_toArray, List.set_cons_zero, List.set_cons_succ, List.getElem_toArray, List.getElem_cons_succ, List.getElem_cons_zero]
          refine wpAnyH_take (i := 9) (v := ?_) rfl (by kernel_rfl) (by kernel_rfl) (by kernel_rfl) (fun _ _ _ h => h) (Or.inl ⟨by rfl, ?_⟩) (by assumption) ?_
          rotate_left
          · intro w hSw; (try dsimp only at hSw); go_simp; all_goals (with_reducible rfl)
          try simp only [Act.put, List.setIfInBounds_toArray, List.set_cons_zero, List.set_cons_succ, List.getElem_toArray, List.getElem_cons_succ, List.getElem_cons_zero]
          refine wpAnyH_take (i := 10) (v := ?_) rfl (by kernel_rfl) (by kernel_rfl) (by kernel_rfl) (fun _ _ _ h => h) (Or.inl ⟨by rfl, ?_⟩) (by assumption) ?_
          rotate_left
          · intro w hSw; (try dsimp only at hSw); go_simp; all_goals (with_reducible rfl)
          try simp only [Act.put, List.setIfInBounds_toArray, List.set_cons_zero, List.set_cons_succ, List.getElem_toArray, List.getElem_cons_succ, List.getElem_cons_zero]
          refine wpAnyH_take (i := 11) (v := ?_) rfl (by kernel_rfl) (by kernel_rfl) (by kernel_rfl) (fun _ _ _ h => h) (Or.inl ⟨by rfl, ?_⟩) (by assumption) ?_
          rotate_left
          · intro w hSw; (try dsimp only at hSw); go_simp; all_goals (with_reducible rfl)
          try simp only [Act.put, List.setIfInBounds_toArray, List.set_cons_zero, List.set_cons_succ, List.getElem_toArray, List.getElem_cons_succ, List.getElem_cons_zero]
          refine wpAnyH_take (i := 12) (v := ?_) rfl (by kernel_rfl) (by kernel_rfl) (by kernel_rfl) (fun _ _ _ h => h) (Or.inl ⟨by rfl, ?_⟩) (by assumption) ?_
          rotate_left
          · intro w hSw; (try dsimp only at hSw); replace hSw := hSw.2; go_simp; all_goals (with_reducible rfl)
          try simp only [Act.put, List.setIfInBounds_toArray, List.set_cons_zero, List.set_cons_succ, List.getElem_toArray, List.getElem_cons_succ, List.getElem_cons_zero]
          refine wpAnyH_ready (rs := [13]) (by kernel_rfl) (by simp) ?_
          refine AllReadyH.cons rfl (fun K hK => ?_) AllReadyH.nil
          go_simp
          refine HI.out.mono ?_
          rintro e w4 ⟨rfl, hM9⟩
          have hbw9 : Hid (Bw w w4) := hM9.out.o.bw
          refine hK.out _ _ (by obtain ⟨-, -, q2, q3, -⟩ := HC.out w4 hbw9.out; exact ⟨q2, q3⟩) (fun hHeld => ?_)
          clear hK K
          try simp only [Act.put, List.setIfInBounds_toArray, List.set_cons_zero, List.set_cons_succ, List.getElem_toArray, List.getElem_cons_succ, List.getElem_cons_zero]
          refine wpAnyH_take (i := 14) (v := ?_) rfl (by kernel_rfl) (by kernel_rfl) (by kernel_rfl) (fun _ _ _ h => h) (Or.inl ⟨by rfl, ?_⟩) (by assumption) ?_
          rotate_left
          · intro w hSw; (try dsimp only at hSw); go_simp; all_goals (with_reducible rfl)
          try simp only [Act.put, List.setIfInBounds_toArray, List.set_cons_zero, List.set_cons_succ, List.getElem_toArray, List.getElem_cons_succ, List.getElem_cons_zero]
          refine wpAnyH_done (by kernel_rfl) ?_ _
          have HS : Hid (Calls Try.prog 15 #[.pointer (some ⟨g, 0, none⟩), .agg #[.int .i64 src, .int .i64 dst, .slice A L C]] w4 fun e w' => e = .returned (.int .i64 (S.sendE ⟨src, dst, dl⟩)) ∧ Hid (Mid w w' (Gr P w4 w') g (S.send ⟨src, dst, dl⟩) cv wv EC EW CM WN z8 D v8)) := mid_send (x := ⟨src, dst, dl⟩) hM9.out hs64.out ht64.out (HR.out.keep hbw9.out)
          obtain ⟨sE, hsE⟩ : ∃ x, Hid (S.sendE ⟨src, dst, dl⟩ = x) := ⟨_, rfl⟩
          have hgo : Hid (S.goes ⟨src, dst, dl⟩ = (decide (sE = 0) && !bc)) := by
            refine (?_ : _ = _)
            rw [Ai.goes_iff, hsE.out]
            show (decide (sE = 0) && !S.cut src dst) = _
            rw [hbc.out]
          rw [hsE.out] at HS
          have HRng : Hid (∀ W, Bw w W → W.rangeAt b (off + k * 5 + 2) [.int .i64 src, .int .i64 dst, .slice A L C]) := fun W kw => by
            obtain ⟨-, -, q2, q3, q4⟩ := HC.out W kw
            intro j v hv
            match j with
            | 0 => cases hv; exact q2
            | 1 => cases hv; exact q3
            | 2 => cases hv; exact q4
            | j + 3 => simp at hv
          clear y2 y3 hS8 HI hM8 hbw8
          by_cases hz : sE = 0
          · subst hz
            cases bc
            · have hE2 : Hid (Ai.Even (S.send ⟨src, dst, dl⟩) (CM ++ [⟨src, dst, dl⟩]) WN) := hE.out.send hgo.out
              go_upto_region 15 with (first
                | refine wpList_load_mid rfl 35 _ rfl b (off + k * 5 + 2) (by rfl) [.int .i64 src, .int .i64 dst, .slice A L C] _ (HRng.out w4 hbw9.out) Try.underlying35 rfl (dg_info _ _ (.slice A L C)) ?_
                | (go_at_call 15; refine HS.out.mono ?_; rintro e w5 ⟨rfl, hM5⟩))
              have hbw5 : Hid (Bw w w5) := hM5.out.o.bw
              have hP9 : Hid (PushC w w5 g (S.send ⟨src, dst, dl⟩) cv wv CM WN src dst (.slice A L C) ⟨src, dst, dl⟩) := by
                have hr5 := HR.out.keep hbw5.out
                have hlow := HR.out.low
                have hO5 := hM5.out.o
                exact hO5.pushC (d := ⟨src, dst, dl⟩) hr5 (fun b' o n c e h0 => by
                  have h1 := hlow b' o n c e h0
                  exact ⟨fun h2 => by have := hO5.new b' h2; omega, fun h2 => by have := (hO5.cb b' h2).1; omega, fun h2 => by have := (hO5.wb b' h2).1; omega⟩)
              have hrg5 := HRng.out w5 hbw5.out
              go_wp2_with (first
                | refine wpList_load_mid rfl 35 _ rfl b (off + k * 5 + 2) (by rfl) [.int .i64 src, .int .i64 dst, .slice A L C] _ hrg5 Try.underlying35 rfl (dg_info _ _ (.slice A L C)) ?_
                | (at_builtin; refine wpList_push19 rfl (.tmp 79) (.tmp 85) (by rfl) hP9.out hCl.out (by rfl) (by rfl) ?_; intro g2 c2 w6 hO6))
              go_roundw
              case rel => exact ⟨k + 1, S.send ⟨src, dst, dl⟩, CM ++ [⟨src, dst, dl⟩], WN, _, _, by omega, by go_num, rfl, rfl, hO6, hE2, (by have h1 := hC.out; exact (by rw [List.length_append]; simp only [List.length_cons, List.length_nil]; omega : (CM ++ [_]).length ≤ k + 1)), hm2⟩
              case measure => simp [intOf]; omega
            · go_wp2_with (first
                | refine wpList_load_mid rfl 35 _ rfl b (off + k * 5 + 2) (by rfl) [.int .i64 src, .int .i64 dst, .slice A L C] _ (HRng.out w4 hbw9.out) Try.underlying35 rfl (dg_info _ _ (.slice A L C)) ?_
                | (go_at_call 15; refine HS.out.mono ?_; rintro e w5 ⟨rfl, hM5⟩))
              go_roundw
              case rel => exact ⟨k + 1, S.send ⟨src, dst, dl⟩, CM, WN, _, _, by omega, by go_num, rfl, rfl, hM5.out.once, hE.out.send_no hgo.out, (by have h1 := hC.out; exact (by omega : CM.length ≤ k + 1)), hm2⟩
              case measure => simp [intOf]; omega
          · have hz2 : (sE == 0) = false := by rw [beq_eq_false_iff_ne]; exact hz
            have hzH : Hid (¬ sE = 0) := hz
            clear hz
            go_wp2_with (first
              | refine wpList_load_mid rfl 35 _ rfl b (off + k * 5 + 2) (by rfl) [.int .i64 src, .int .i64 dst, .slice A L C] _ (HRng.out w4 hbw9.out) Try.underlying35 rfl (dg_info _ _ (.slice A L C)) ?_
              | (go_at_call 15; refine HS.out.mono ?_; rintro e w5 ⟨rfl, hM5⟩))
            go_roundw
            case rel => exact ⟨k + 1, S.send ⟨src, dst, dl⟩, CM, WN, _, _, by omega, by go_num, rfl, rfl, hM5.out.once, hE.out.send_no (by rw [hgo.out, decide_eq_false hzH.out]; rfl), (by have h1 := hC.out; exact (by omega : CM.length ≤ k + 1)), hm2⟩
            case measure => simp [intOf]; omega
        · by_cases e1 : dd = 1
          · subst e1
            have hm2 : Hid ((S.lose nn).m ≤ k + 1) := by show _ ≤ _; have h1 := hM.out; unfold Ai.St.lose; split <;> (show S.m ≤ _; omega)
            have HH : Hid (Calls Try.prog 14 #[.pointer (some ⟨g, 0, none⟩), .int .i64 nn] X8 fun e w' => ∃ v2 z2 W2 W3, e = .returned (.tuple #[.agg #[.int .i64 D.src, .int .i64 D.dst, v2], .bool hs]) ∧ Hid (Kept w' D v2 z2 W2 W3) ∧ Hid (Mid w W3 P g (S.lose nn) cv wv EC EW CM WN z2 D v2) ∧ Hid (DgAt W3 z8 D.src D.dst v8 ∧ RowV W3 v8 D.b)) := by
              have h1 := mid_carry hM8.out nn
              rw [hD.out, hhs.out] at h1
              exact h1
            go_upto_region 18 with (first
              | (go_at_call 14; refine HH.out.mono ?_; rintro e w4 ⟨v9, z9, W9, X9, rfl, hK9, hM9, hB9⟩)
              | (rw [hK9.out.2.1.out, hK9.out.1.out]; refine wpList_store_row rfl 35 _ _ rfl z9 (dcs D.src D.dst v9) rfl rfl 35 _ hK9.out.2.2.1.out (dg_info _ _ _) rfl (dg_all _ _ hK9.out.2.2.2.2.out).out ?_; rw [hK9.out.2.2.2.1.out]))
            have ho9 := hK9.out.2.2.2.2.out
            clear HH hK9 y0 y1
            have r0 : X9.cell? ⟨z9, 0, none⟩ = some (.int .i64 D.src) := cell_of_row X9 z9 0 _ _ _ hM9.out.box
            have r1 : X9.cell? ⟨z9, 1, none⟩ = some (.int .i64 D.dst) := cell_of_row X9 z9 1 _ _ _ hM9.out.box
            have r2 : X9.cell? ⟨z9, 2, none⟩ = some v9 := cell_of_row X9 z9 2 _ _ _ hM9.out.box
            have s0 : X9.cell? ⟨z8, 0, none⟩ = some (.int .i64 D.src) := cell_of_row X9 z8 0 _ _ _ hB9.out.1
            have s1 : X9.cell? ⟨z8, 1, none⟩ = some (.int .i64 D.dst) := cell_of_row X9 z8 1 _ _ _ hB9.out.1
            have s2 : X9.cell? ⟨z8, 2, none⟩ = some v8 := cell_of_row X9 z8 2 _ _ _ hB9.out.1
            have HSm : Hid (Calls Try.prog 17 #[.agg #[.int .i64 D.src, .int .i64 D.dst, v9], .agg #[.int .i64 D.src, .int .i64 D.dst, v8]] X9 fun x w' => x = .returned (.bool true) ∧ Hid (Bw X9 w')) := by
              have h1 := same19_any D D hM9.out.row hB9.out.2
              have h2 : Ai.eqb D D = true := by unfold Ai.eqb; rw [decide_eq_true rfl, decide_eq_true rfl, decide_eq_true rfl]; rfl
              rw [h2] at h1
              exact h1
            cases hs
            · go_wp2_with (go_at_call 17; refine HSm.out.mono ?_; rintro e w5 ⟨rfl, hb5⟩)
              go_roundw
              case rel => exact ⟨k + 1, S.lose nn, CM, WN, _, _, by omega, by go_num, rfl, rfl, (hM9.out.keep hb5.out).once, hE.out.lose_no hhs.out, (by have h1 := hC.out; exact (by omega : CM.length ≤ k + 1)), hm2⟩
              case measure => simp [intOf]; omega
            · have hE2 : Hid (Ai.Even (S.lose nn) CM (WN ++ [D])) := by
                have h1 := hE.out.lose hhs.out
                rw [hD.out] at h1
                exact h1
              go_upto_region 21 with (go_at_call 17; refine HSm.out.mono ?_; rintro e w5 ⟨rfl, hb5⟩)
              have hP9 : Hid (PushC w w5 g (S.lose nn) wv cv WN CM D.src D.dst v9 D) := (hM9.out.keep hb5.out).pushW
              have hb9 := (hM9.out.keep hb5.out).box
              go_wp2_with (first
                | refine wpList_load_row rfl 35 _ rfl z9 rfl 35 #[.int .i64 D.src, .int .i64 D.dst, v9] (0, 0) _ hb9 Try.underlying35 rfl (dg_info _ _ _) ?_
                | (at_builtin; refine wpList_push19 rfl (.tmp 109) (.tmp 111) (by rfl) hP9.out hWl.out (by rfl) (by rfl) ?_; intro g2 c2 w6 hO5))
              go_roundw
              case rel => exact ⟨k + 1, S.lose nn, CM, WN ++ [D], _, _, by omega, by go_num, rfl, rfl, (show Hid (Once _ _ _ _ _ _ _ _) from hO5.out.swap), hE2, (by have h1 := hC.out; exact (by omega : CM.length ≤ k + 1)), hm2⟩
              case measure => simp [intOf]; omega
          · by_cases e2 : dd = 2
            · subst e2
              have HH : Hid (Calls Try.prog 18 #[.pointer (some ⟨g, 0, none⟩), .int .i64 nn] X8 fun e w' => e = .returned (.bool hs) ∧ Hid (Mid w w' P g (S.lose nn) cv wv EC EW CM WN z8 D v8)) := by
                have h1 := mid_lose hM8.out nn
                rw [hhs.out] at h1
                exact h1
              have hm2 : Hid ((S.lose nn).m ≤ k + 1) := by show _ ≤ _; have h1 := hM.out; unfold Ai.St.lose; split <;> (show S.m ≤ _; omega)
              cases hs
              · go_wp2_with (go_at_call 18; refine HH.out.mono ?_; rintro e w4 ⟨rfl, hM9⟩)
                go_roundw
                case rel => exact ⟨k + 1, S.lose nn, CM, WN, _, _, by omega, by go_num, rfl, rfl, hM9.out.once, hE.out.lose_no hhs.out, (by have h1 := hC.out; exact (by omega : CM.length ≤ k + 1)), hm2⟩
                case measure => simp [intOf]; omega
              · have hE2 : Hid (Ai.Even (S.lose nn) CM (WN ++ [D])) := by
                  have h1 := hE.out.lose hhs.out
                  rw [hD.out] at h1
                  exact h1
                go_upto_region 26 with (go_at_call 18; refine HH.out.mono ?_; rintro e w4 ⟨rfl, hM9⟩)
                have hP9 : Hid (PushC w w4 g (S.lose nn) wv cv WN CM D.src D.dst v8 D) := hM9.out.pushW
                have hb9 := hM9.out.box
                go_wp2_with (first
                  | refine wpList_load_row rfl 35 _ rfl z8 rfl 35 #[.int .i64 D.src, .int .i64 D.dst, v8] (0, 0) _ hb9 Try.underlying35 rfl (dg_info _ _ _) ?_
                  | (at_builtin; refine wpList_push19 rfl (.tmp 125) (.tmp 127) (by rfl) hP9.out hWl.out (by rfl) (by rfl) ?_; intro g2 c2 w5 hO5))
                go_roundw
                case rel => exact ⟨k + 1, S.lose nn, CM, WN ++ [D], _, _, by omega, by go_num, rfl, rfl, (show Hid (Once _ _ _ _ _ _ _ _) from hO5.out.swap), hE2, (by have h1 := hC.out; exact (by omega : CM.length ≤ k + 1)), hm2⟩
                case measure => simp [intOf]; omega
            · by_cases e3 : dd = 3
              · subst e3
                have hm2 : Hid ((S.twice nn).m ≤ k + 1) := by show _ ≤ _; have h1 := hM.out; unfold Ai.St.twice; split <;> (show S.m ≤ _; omega)
                obtain ⟨bd, hbd⟩ : ∃ x, Hid (S.dbl nn = x) := ⟨_, rfl⟩
                have HH : Hid (Calls Try.prog 19 #[.pointer (some ⟨g, 0, none⟩), .int .i64 nn] X8 fun e w' => e = .returned (.bool bd) ∧ Hid (Mid w w' (Gr P X8 w') g (S.twice nn) cv wv EC EW CM WN z8 D v8)) := by
                  have h1 := mid_twice hM8.out nn
                  rw [hbd.out] at h1
                  exact h1
                cases bd
                · go_wp2_with (go_at_call 19; refine HH.out.mono ?_; rintro e w4 ⟨rfl, hM9⟩)
                  go_roundw
                  case rel => exact ⟨k + 1, S.twice nn, CM, WN, _, _, by omega, by go_num, rfl, rfl, hM9.out.once, hE.out.twice_no hbd.out, (by have h1 := hC.out; exact (by omega : CM.length ≤ k + 1)), hm2⟩
                  case measure => simp [intOf]; omega
                · have hE2 : Hid (Ai.Even (S.twice nn) (CM ++ [D]) WN) := by
                    have h1 := hE.out.twice hbd.out
                    rw [hD.out] at h1
                    exact h1
                  go_upto_region 29 with (go_at_call 19; refine HH.out.mono ?_; rintro e w4 ⟨rfl, hM9⟩)
                  have hP9 : Hid (PushC w w4 g (S.twice nn) cv wv CM WN D.src D.dst v8 D) := hM9.out.pushC
                  have hb9 := hM9.out.box
                  go_wp2_with (first
                    | refine wpList_load_row rfl 35 _ rfl z8 rfl 35 #[.int .i64 D.src, .int .i64 D.dst, v8] (0, 0) _ hb9 Try.underlying35 rfl (dg_info _ _ _) ?_
                    | (at_builtin; refine wpList_push19 rfl (.tmp 138) (.tmp 140) (by rfl) hP9.out hCl.out (by rfl) (by rfl) ?_; intro g2 c2 w5 hO5))
                  go_roundw
                  case rel => exact ⟨k + 1, S.twice nn, CM ++ [D], WN, _, _, by omega, by go_num, rfl, rfl, hO5, hE2, (by have h1 := hC.out; exact (by rw [List.length_append]; simp only [List.length_cons, List.length_nil]; omega : (CM ++ [_]).length ≤ k + 1)), hm2⟩
                  case measure => simp [intOf]; omega
              · by_cases e4 : dd = 4
                · subst e4
                  have HH : Hid (Calls Try.prog 20 #[.pointer (some ⟨g, 0, none⟩), .int .i64 nn] X8 fun e w' => e = .returned (.bool hs) ∧ Hid (Mid w w' P g (S.hold nn) cv wv EC EW CM WN z8 D v8)) := by
                    have h1 := mid_hold hM8.out nn
                    rw [hhs.out] at h1
                    exact h1
                  have hm2 : Hid ((S.hold nn).m ≤ k + 1) := by show _ ≤ _; have h1 := hM.out; unfold Ai.St.hold; split <;> (show S.m ≤ _; omega)
                  cases hs <;> (
                    go_wp2_with (go_at_call 20; refine HH.out.mono ?_; rintro e w4 ⟨rfl, hM9⟩)
                    go_roundw
                    case rel => exact ⟨k + 1, S.hold nn, CM, WN, _, _, by omega, by go_num, rfl, rfl, hM9.out.once, hE.out.hold nn, (by have h1 := hC.out; exact (by omega : CM.length ≤ k + 1)), hm2⟩
                    case measure => simp [intOf]; omega)
                · have f0 : (dd == 0) = false := by rw [beq_eq_false_iff_ne]; exact e0
                  have f1 : (dd == 1) = false := by rw [beq_eq_false_iff_ne]; exact e1
                  have f2 : (dd == 2) = false := by rw [beq_eq_false_iff_ne]; exact e2
                  have f3 : (dd == 3) = false := by rw [beq_eq_false_iff_ne]; exact e3
                  have f4 : (dd == 4) = false := by rw [beq_eq_false_iff_ne]; exact e4
                  clear e0 e1 e2 e3 e4
                  by_cases e5 : dd = 5
                  · subst e5
                    clear f0 f1 f2 f3 f4
                    have hm2 : Hid ((S.cutW src dst true).m ≤ k + 1) := by show _ ≤ _; have h1 := hM.out; unfold Ai.St.cutW; split <;> (first | (show S.m + 1 ≤ _; omega) | (show S.m ≤ _; omega))
                    have HI : Hid (Calls Try.prog 21 #[.pointer (some ⟨g, 0, none⟩), .int .i64 src, .int .i64 dst, .bool true] (X8.drewN 1) fun e w' => e = .returned (.int .i64 (S.cutE src dst)) ∧ Hid (Mid w w' P g (S.cutW src dst true) cv wv EC EW CM WN z8 D v8)) := mid_cut (hM8.out.keep (Bw.drewN X8 1)) hs64.out ht64.out true (by have h1 := hM.out; omega)
                    go_upto_region 35 with fail
                    have hS8 : (X8.drewN 1).cell? ⟨b, off + k * 5, none⟩ = some (.int .i64 5) ∧ (X8.drewN 1).cell? ⟨b, off + k * 5 + 2, none⟩ = some (.int .i64 src) ∧ (X8.drewN 1).cell? ⟨b, off + k * 5 + 3, none⟩ = some (.int .i64 dst) := ⟨y0, y2, y3⟩
                    clear y0 y1 y2 y3 y4
                    refine wp_region_held_drew (S := fun w' => w'.cell? ⟨b, off + k * 5, none⟩ = some (.int .i64 5) ∧ w'.cell? ⟨b, off + k * 5 + 2, none⟩ = some (.int .i64 src) ∧ w'.cell? ⟨b, off + k * 5 + 3, none⟩ = some (.int .i64 dst)) (by kernel_rfl) (hS8) (fun hHeld => ?_)
                    refine wpAnyH_take (i := 0) (v := ?_) rfl (by kernel_rfl) (by kernel_rfl) (by kernel_rfl) (fun _ _ _ h => h) (Or.inl ⟨by rfl, ?_⟩) (by assumption) ?_
                    rotate_left
                    · intro w hSw; (try dsimp only at hSw); go_simp; all_goals (with_reducible rfl)
                    try simp only [Act.put, List.setIfInBounds_toArray, List.set_cons_zero, List.set_cons_succ, List.getElem_toArray, List.getElem_cons_succ, List.getElem_cons_zero]
                    refine wpAnyH_take (i := 1) (v := ?_) rfl (by kernel_rfl) (by kernel_rfl) (by kernel_rfl) (fun _ _ _ h => h) (Or.inl ⟨by rfl, ?_⟩) (by assumption) ?_
                    rotate_left
                    · intro w hSw; (try dsimp only at hSw); go_simp; all_goals (with_reducible rfl)
                    try simp only [Act.put, List.setIfInBounds_toArray, List.set_cons_zero, List.set_cons_succ, List.getElem_toArray, List.getElem_cons_succ, List.getElem_cons_zero]
                    refine wpAnyH_take (i := 2) (v := ?_) rfl (by kernel_rfl) (by kernel_rfl) (by kernel_rfl) (fun _ _ _ h => h) (Or.inl ⟨by rfl, ?_⟩) (by assumption) ?_
                    rotate_left
                    · intro w hSw; (try dsimp only at hSw); go_simp; all_goals (with_reducible rfl)
                    try simp only [Act.put, List.setIfInBounds_toArray, List.set_cons_zero, List.set_cons_succ, List.getElem_toArray, List.getElem_cons_succ, List.getElem_cons_zero]
                    refine wpAnyH_take (i := 3) (v := ?_) rfl (by kernel_rfl) (by kernel_rfl) (by kernel_rfl) (fun _ _ _ h => h) (Or.inl ⟨by rfl, ?_⟩) (by assumption) ?_
                    rotate_left
                    · intro w hSw; (try dsimp only at hSw); go_simp; all_goals (with_reducible rfl)
                    try simp only [Act.put, List.setIfInBounds_toArray, List.set_cons_zero, List.set_cons_succ, List.getElem_toArray, List.getElem_cons_succ, List.getElem_cons_zero]
                    refine wpAnyH_take (i := 4) (v := ?_) rfl (by kernel_rfl) (by kernel_rfl) (by kernel_rfl) (fun _ _ _ h => h) (Or.inl ⟨by rfl, ?_⟩) (by assumption) ?_
                    rotate_left
                    · intro w hSw; (try dsimp only at hSw); go_simp; all_goals (with_reducible rfl)
                    try simp only [Act.put, List.setIfInBounds_toArray, List.set_cons_zero, List.set_cons_succ, List.getElem_toArray, List.getElem_cons_succ, List.getElem_cons_zero]
                    refine wpAnyH_take (i := 5) (v := ?_) rfl (by kernel_rfl) (by kernel_rfl) (by kernel_rfl) (fun _ _ _ h => h) (Or.inl ⟨by rfl, ?_⟩) (by assumption) ?_
                    rotate_left
                    · intro w hSw; (try dsimp only at hSw); go_simp; all_goals (with_reducible rfl)
                    try simp only [Act.put, List.setIfInBounds_toArray, List.set_cons_zero, List.set_cons_succ, List.getElem_toArray, List.getElem_cons_succ, List.getElem_cons_zero]
                    refine wpAnyH_take (i := 6) (v := ?_) rfl (by kernel_rfl) (by kernel_rfl) (by kernel_rfl) (fun _ _ _ h => h) (Or.inl ⟨by rfl, ?_⟩) (by assumption) ?_
                    rotate_left
                    · intro w hSw; (try dsimp only at hSw); replace hSw := hSw.2.1; go_simp; all_goals (with_reducible rfl)
                    try simp only [Act.put, List.setIfInBounds_toArray, List.set_cons_zero, List.set_cons_succ, List.getElem_toArray, List.getElem_cons_succ, List.getElem_cons_zero]
                    refine wpAnyH_take (i := 7) (v := ?_) rfl (by kernel_rfl) (by kernel_rfl) (by kernel_rfl) (fun _ _ _ h => h) (Or.inl ⟨by rfl, ?_⟩) (by assumption) ?_
                    rotate_left
                    · intro w hSw; (try dsimp only at hSw); go_simp; all_goals (with_reducible rfl)
                    try simp only [Act.put, List.setIfInBounds_toArray, List.set_cons_zero, List.set_cons_succ, List.getElem_toArray, List.getElem_cons_succ, List.getElem_cons_zero]
                    refine wpAnyH_take (i := 8) (v := ?_) rfl (by kernel_rfl) (by kernel_rfl) (by kernel_rfl) (fun _ _ _ h => h) (Or.inl ⟨by rfl, ?_⟩) (by assumption) ?_
                    rotate_left
                    · intro w hSw; (try dsimp only at hSw); go_simp; all_goals (with_reducible rfl)
                    try simp only [Act.put, List.setIfInBounds_toArray, List.set_cons_zero, List.set_cons_succ, List.getElem_toArray, List.getElem_cons_succ, List.getElem_cons_zero]
                    refine wpAnyH_take (i := 9) (v := ?_) rfl (by kernel_rfl) (by kernel_rfl) (by kernel_rfl) (fun _ _ _ h => h) (Or.inl ⟨by rfl, ?_⟩) (by assumption) ?_
                    rotate_left
                    · intro w hSw; (try dsimp only at hSw); go_simp; all_goals (with_reducible rfl)
                    try simp only [Act.put, List.setIfInBounds_toArray, List.set_cons_zero, List.set_cons_succ, List.getElem_toArray, List.getElem_cons_succ, List.getElem_cons_zero]
                    refine wpAnyH_take (i := 10) (v := ?_) rfl (by kernel_rfl) (by kernel_rfl) (by kernel_rfl) (fun _ _ _ h => h) (Or.inl ⟨by rfl, ?_⟩) (by assumption) ?_
                    rotate_left
                    · intro w hSw; (try dsimp only at hSw); go_simp; all_goals (with_reducible rfl)
                    try simp only [Act.put, List.setIfInBounds_toArray, List.set_cons_zero, List.set_cons_succ, List.getElem_toArray, List.getElem_cons_succ, List.getElem_cons_zero]
                    refine wpAnyH_take (i := 11) (v := ?_) rfl (by kernel_rfl) (by kernel_rfl) (by kernel_rfl) (fun _ _ _ h => h) (Or.inl ⟨by rfl, ?_⟩) (by assumption) ?_
                    rotate_left
                    · intro w hSw; (try dsimp only at hSw); go_simp; all_goals (with_reducible rfl)
                    try simp only [Act.put, List.setIfInBounds_toArray, List.set_cons_zero, List.set_cons_succ, List.getElem_toArray, List.getElem_cons_succ, List.getElem_cons_zero]
                    refine wpAnyH_take (i := 12) (v := ?_) rfl (by kernel_rfl) (by kernel_rfl) (by kernel_rfl) (fun _ _ _ h => h) (Or.inl ⟨by rfl, ?_⟩) (by assumption) ?_
                    rotate_left
                    · intro w hSw; (try dsimp only at hSw); replace hSw := hSw.2.2; go_simp; all_goals (with_reducible rfl)
                    try simp only [Act.put, List.setIfInBounds_toArray, List.set_cons_zero, List.set_cons_succ, List.getElem_toArray, List.getElem_cons_succ, List.getElem_cons_zero]
                    refine wpAnyH_take (i := 13) (v := ?_) rfl (by kernel_rfl) (by kernel_rfl) (by kernel_rfl) (fun _ _ _ h => h) (Or.inl ⟨by rfl, ?_⟩) (by assumption) ?_
                    rotate_left
                    · intro w hSw; (try dsimp only at hSw); go_simp; all_goals (with_reducible rfl)
                    try simp only [Act.put, List.setIfInBounds_toArray, List.set_cons_zero, List.set_cons_succ, List.getElem_toArray, List.getElem_cons_succ, List.getElem_cons_zero]
                    refine wpAnyH_take (i := 14) (v := ?_) rfl (by kernel_rfl) (by kernel_rfl) (by kernel_rfl) (fun _ _ _ h => h) (Or.inl ⟨by rfl, ?_⟩) (by assumption) ?_
                    rotate_left
                    · intro w hSw; (try dsimp only at hSw); go_simp; all_goals (with_reducible rfl)
                    try simp only [Act.put, List.setIfInBounds_toArray, List.set_cons_zero, List.set_cons_succ, List.getElem_toArray, List.getElem_cons_succ, List.getElem_cons_zero]
                    refine wpAnyH_take (i := 15) (v := ?_) rfl (by kernel_rfl) (by kernel_rfl) (by kernel_rfl) (fun _ _ _ h => h) (Or.inl ⟨by rfl, ?_⟩) (by assumption) ?_
                    rotate_left
                    · intro w hSw; (try dsimp only at hSw); go_simp; all_goals (with_reducible rfl)
                    try simp only [Act.put, List.setIfInBounds_toArray, List.set_cons_zero, List.set_cons_succ, List.getElem_toArray, List.getElem_cons_succ, List.getElem_cons_zero]
                    refine wpAnyH_take (i := 16) (v := ?_) rfl (by kernel_rfl) (by kernel_rfl) (by kernel_rfl) (fun _ _ _ h => h) (Or.inl ⟨by rfl, ?_⟩) (by assumption) ?_
                    rotate_left
                    · intro w hSw; (try dsimp only at hSw); go_simp; all_goals (with_reducible rfl)
                    try simp only [Act.put, List.setIfInBounds_toArray, List.set_cons_zero, List.set_cons_succ, List.getElem_toArray, List.getElem_cons_succ, List.getElem_cons_zero]
                    refine wpAnyH_take (i := 17) (v := ?_) rfl (by kernel_rfl) (by kernel_rfl) (by kernel_rfl) (fun _ _ _ h => h) (Or.inl ⟨by rfl, ?_⟩) (by assumption) ?_
                    rotate_left
                    · intro w hSw; (try dsimp only at hSw); replace hSw := hSw.1; go_simp; all_goals (with_reducible rfl)
                    try simp only [Act.put, List.setIfInBounds_toArray, List.set_cons_zero, List.set_cons_succ, List.getElem_toArray, List.getElem_cons_succ, List.getElem_cons_zero]
                    refine wpAnyH_take (i := 18) (v := ?_) rfl (by kernel_rfl) (by kernel_rfl) (by kernel_rfl) (fun _ _ _ h => h) (Or.inl ⟨by rfl, ?_⟩) (by assumption) ?_
                    rotate_left
                    · intro w hSw; (try dsimp only at hSw); go_simp; all_goals (with_reducible rfl)
                    try simp only [Act.put, List.setIfInBounds_toArray, List.set_cons_zero, List.set_cons_succ, List.getElem_toArray, List.getElem_cons_succ, List.getElem_cons_zero]
                    refine wpAnyH_ready (rs := [19]) (by kernel_rfl) (by simp) ?_
                    refine AllReadyH.cons rfl (fun K hK => ?_) AllReadyH.nil
                    go_simp
                    refine HI.out.mono ?_
                    rintro e w4 ⟨rfl, hM9⟩
                    have hbw9 : Hid (Bw w w4) := hM9.out.o.bw
                    refine hK.out _ _ (by obtain ⟨q0, -, q2, q3, -⟩ := HC.out w4 hbw9.out; exact ⟨q0, q2, q3⟩) (fun hHeld => ?_)
                    clear hK K
                    try simp only [Act.put, List.setIfInBounds_toArray, List.set_cons_zero, List.set_cons_succ, List.getElem_toArray, List.getElem_cons_succ, List.getElem_cons_zero]
                    refine wpAnyH_done (by kernel_rfl) ?_ _
                    go_wp2
                    go_roundw
                    case rel => exact ⟨k + 1, S.cutW src dst true, CM, WN, _, _, by omega, by go_num, rfl, rfl, hM9.out.once, hE.out.cut src dst true, (by have h1 := hC.out; exact (by omega : CM.length ≤ k + 1)), hm2⟩
                    case measure => simp [intOf]; omega
                  · by_cases e6 : dd = 6
                    · subst e6
                      clear f0 f1 f2 f3 f4 e5
                      have hm2 : Hid ((S.cutW src dst false).m ≤ k + 1) := by show _ ≤ _; have h1 := hM.out; unfold Ai.St.cutW; split <;> (first | (show S.m + 1 ≤ _; omega) | (show S.m ≤ _; omega))
                      have HI : Hid (Calls Try.prog 21 #[.pointer (some ⟨g, 0, none⟩), .int .i64 src, .int .i64 dst, .bool false] (X8.drewN 1) fun e w' => e = .returned (.int .i64 (S.cutE src dst)) ∧ Hid (Mid w w' P g (S.cutW src dst false) cv wv EC EW CM WN z8 D v8)) := mid_cut (hM8.out.keep (Bw.drewN X8 1)) hs64.out ht64.out false (by have h1 := hM.out; omega)
                      go_upto_region 35 with fail
                      have hS8 : (X8.drewN 1).cell? ⟨b, off + k * 5, none⟩ = some (.int .i64 6) ∧ (X8.drewN 1).cell? ⟨b, off + k * 5 + 2, none⟩ = some (.int .i64 src) ∧ (X8.drewN 1).cell? ⟨b, off + k * 5 + 3, none⟩ = some (.int .i64 dst) := ⟨y0, y2, y3⟩
                      clear y0 y1 y2 y3 y4
                      refine wp_region_held_drew (S := fun w' => w'.cell? ⟨b, off + k * 5, none⟩ = some (.int .i64 6) ∧ w'.cell? ⟨b, off + k * 5 + 2, none⟩ = some (.int .i64 src) ∧ w'.cell? ⟨b, off + k * 5 + 3, none⟩ = some (.int .i64 dst)) (by kernel_rfl) (hS8) (fun hHeld => ?_)
                      refine wpAnyH_take (i := 0) (v := ?_) rfl (by kernel_rfl) (by kernel_rfl) (by kernel_rfl) (fun _ _ _ h => h) (Or.inl ⟨by rfl, ?_⟩) (by assumption) ?_
                      rotate_left
                      · intro w hSw; (try dsimp only at hSw); go_simp; all_goals (with_reducible rfl)
                      try simp only [Act.put, List.setIfInBounds_toArray, List.set_cons_zero, List.set_cons_succ, List.getElem_toArray, List.getElem_cons_succ, List.getElem_cons_zero]
                      refine wpAnyH_take (i := 1) (v := ?_) rfl (by kernel_rfl) (by kernel_rfl) (by kernel_rfl) (fun _ _ _ h => h) (Or.inl ⟨by rfl, ?_⟩) (by assumption) ?_
                      rotate_left
                      · intro w hSw; (try dsimp only at hSw); go_simp; all_goals (with_reducible rfl)
                      try simp only [Act.put, List.setIfInBounds_toArray, List.set_cons_zero, List.set_cons_succ, List.getElem_toArray, List.getElem_cons_succ, List.getElem_cons_zero]
                      refine wpAnyH_take (i := 2) (v := ?_) rfl (by kernel_rfl) (by kernel_rfl) (by kernel_rfl) (fun _ _ _ h => h) (Or.inl ⟨by rfl, ?_⟩) (by assumption) ?_
                      rotate_left
                      · intro w hSw; (try dsimp only at hSw); go_simp; all_goals (with_reducible rfl)
                      try simp only [Act.put, List.setIfInBounds_toArray, List.set_cons_zero, List.set_cons_succ, List.getElem_toArray, List.getElem_cons_succ, List.getElem_cons_zero]
                      refine wpAnyH_take (i := 3) (v := ?_) rfl (by kernel_rfl) (by kernel_rfl) (by kernel_rfl) (fun _ _ _ h => h) (Or.inl ⟨by rfl, ?_⟩) (by assumption) ?_
                      rotate_left
                      · intro w hSw; (try dsimp only at hSw); go_simp; all_goals (with_reducible rfl)
                      try simp only [Act.put, List.setIfInBounds_toArray, List.set_cons_zero, List.set_cons_succ, List.getElem_toArray, List.getElem_cons_succ, List.getElem_cons_zero]
                      refine wpAnyH_take (i := 4) (v := ?_) rfl (by kernel_rfl) (by kernel_rfl) (by kernel_rfl) (fun _ _ _ h => h) (Or.inl ⟨by rfl, ?_⟩) (by assumption) ?_
                      rotate_left
                      · intro w hSw; (try dsimp only at hSw); go_simp; all_goals (with_reducible rfl)
                      try simp only [Act.put, List.setIfInBounds_toArray, List.set_cons_zero, List.set_cons_succ, List.getElem_toArray, List.getElem_cons_succ, List.getElem_cons_zero]
                      refine wpAnyH_take (i := 5) (v := ?_) rfl (by kernel_rfl) (by kernel_rfl) (by kernel_rfl) (fun _ _ _ h => h) (Or.inl ⟨by rfl, ?_⟩) (by assumption) ?_
                      rotate_left
                      · intro w hSw; (try dsimp only at hSw); go_simp; all_goals (with_reducible rfl)
                      try simp only [Act.put, List.setIfInBounds_toArray, List.set_cons_zero, List.set_cons_succ, List.getElem_toArray, List.getElem_cons_succ, List.getElem_cons_zero]
                      refine wpAnyH_take (i := 6) (v := ?_) rfl (by kernel_rfl) (by kernel_rfl) (by kernel_rfl) (fun _ _ _ h => h) (Or.inl ⟨by rfl, ?_⟩) (by assumption) ?_
                      rotate_left
                      · intro w hSw; (try dsimp only at hSw); replace hSw := hSw.2.1; go_simp; all_goals (with_reducible rfl)
                      try simp only [Act.put, List.setIfInBounds_toArray, List.set_cons_zero, List.set_cons_succ, List.getElem_toArray, List.getElem_cons_succ, List.getElem_cons_zero]
                      refine wpAnyH_take (i := 7) (v := ?_) rfl (by kernel_rfl) (by kernel_rfl) (by kernel_rfl) (fun _ _ _ h => h) (Or.inl ⟨by rfl, ?_⟩) (by assumption) ?_
                      rotate_left
                      · intro w hSw; (try dsimp only at hSw); go_simp; all_goals (with_reducible rfl)
                      try simp only [Act.put, List.setIfInBounds_toArray, List.set_cons_zero, List.set_cons_succ, List.getElem_toArray, List.getElem_cons_succ, List.getElem_cons_zero]
                      refine wpAnyH_take (i := 8) (v := ?_) rfl (by kernel_rfl) (by kernel_rfl) (by kernel_rfl) (fun _ _ _ h => h) (Or.inl ⟨by rfl, ?_⟩) (by assumption) ?_
                      rotate_left
                      · intro w hSw; (try dsimp only at hSw); go_simp; all_goals (with_reducible rfl)
                      try simp only [Act.put, List.setIfInBounds_toArray, List.set_cons_zero, List.set_cons_succ, List.getElem_toArray, List.getElem_cons_succ, List.getElem_cons_zero]
                      refine wpAnyH_take (i := 9) (v := ?_) rfl (by kernel_rfl) (by kernel_rfl) (by kernel_rfl) (fun _ _ _ h => h) (Or.inl ⟨by rfl, ?_⟩) (by assumption) ?_
                      rotate_left
                      · intro w hSw; (try dsimp only at hSw); go_simp; all_goals (with_reducible rfl)
                      try simp only [Act.put, List.setIfInBounds_toArray, List.set_cons_zero, List.set_cons_succ, List.getElem_toArray, List.getElem_cons_succ, List.getElem_cons_zero]
                      refine wpAnyH_take (i := 10) (v := ?_) rfl (by kernel_rfl) (by kernel_rfl) (by kernel_rfl) (fun _ _ _ h => h) (Or.inl ⟨by rfl, ?_⟩) (by assumption) ?_
                      rotate_left
                      · intro w hSw; (try dsimp only at hSw); go_simp; all_goals (with_reducible rfl)
                      try simp only [Act.put, List.setIfInBounds_toArray, List.set_cons_zero, List.set_cons_succ, List.getElem_toArray, List.getElem_cons_succ, List.getElem_cons_zero]
                      refine wpAnyH_take (i := 11) (v := ?_) rfl (by kernel_rfl) (by kernel_rfl) (by kernel_rfl) (fun _ _ _ h => h) (Or.inl ⟨by rfl, ?_⟩) (by assumption) ?_
                      rotate_left
                      · intro w hSw; (try dsimp only at hSw); go_simp; all_goals (with_reducible rfl)
                      try simp only [Act.put, List.setIfInBounds_toArray, List.set_cons_zero, List.set_cons_succ, List.getElem_toArray, List.getElem_cons_succ, List.getElem_cons_zero]
                      refine wpAnyH_take (i := 12) (v := ?_) rfl (by kernel_rfl) (by kernel_rfl) (by kernel_rfl) (fun _ _ _ h => h) (Or.inl ⟨by rfl, ?_⟩) (by assumption) ?_
                      rotate_left
                      · intro w hSw; (try dsimp only at hSw); replace hSw := hSw.2.2; go_simp; all_goals (with_reducible rfl)
                      try simp only [Act.put, List.setIfInBounds_toArray, List.set_cons_zero, List.set_cons_succ, List.getElem_toArray, List.getElem_cons_succ, List.getElem_cons_zero]
                      refine wpAnyH_take (i := 13) (v := ?_) rfl (by kernel_rfl) (by kernel_rfl) (by kernel_rfl) (fun _ _ _ h => h) (Or.inl ⟨by rfl, ?_⟩) (by assumption) ?_
                      rotate_left
                      · intro w hSw; (try dsimp only at hSw); go_simp; all_goals (with_reducible rfl)
                      try simp only [Act.put, List.setIfInBounds_toArray, List.set_cons_zero, List.set_cons_succ, List.getElem_toArray, List.getElem_cons_succ, List.getElem_cons_zero]
                      refine wpAnyH_take (i := 14) (v := ?_) rfl (by kernel_rfl) (by kernel_rfl) (by kernel_rfl) (fun _ _ _ h => h) (Or.inl ⟨by rfl, ?_⟩) (by assumption) ?_
                      rotate_left
                      · intro w hSw; (try dsimp only at hSw); go_simp; all_goals (with_reducible rfl)
                      try simp only [Act.put, List.setIfInBounds_toArray, List.set_cons_zero, List.set_cons_succ, List.getElem_toArray, List.getElem_cons_succ, List.getElem_cons_zero]
                      refine wpAnyH_take (i := 15) (v := ?_) rfl (by kernel_rfl) (by kernel_rfl) (by kernel_rfl) (fun _ _ _ h => h) (Or.inl ⟨by rfl, ?_⟩) (by assumption) ?_
                      rotate_left
                      · intro w hSw; (try dsimp only at hSw); go_simp; all_goals (with_reducible rfl)
                      try simp only [Act.put, List.setIfInBounds_toArray, List.set_cons_zero, List.set_cons_succ, List.getElem_toArray, List.getElem_cons_succ, List.getElem_cons_zero]
                      refine wpAnyH_take (i := 16) (v := ?_) rfl (by kernel_rfl) (by kernel_rfl) (by kernel_rfl) (fun _ _ _ h => h) (Or.inl ⟨by rfl, ?_⟩) (by assumption) ?_
                      rotate_left
                      · intro w hSw; (try dsimp only at hSw); go_simp; all_goals (with_reducible rfl)
                      try simp only [Act.put, List.setIfInBounds_toArray, List.set_cons_zero, List.set_cons_succ, List.getElem_toArray, List.getElem_cons_succ, List.getElem_cons_zero]
                      refine wpAnyH_take (i := 17) (v := ?_) rfl (by kernel_rfl) (by kernel_rfl) (by kernel_rfl) (fun _ _ _ h => h) (Or.inl ⟨by rfl, ?_⟩) (by assumption) ?_
                      rotate_left
                      · intro w hSw; (try dsimp only at hSw); replace hSw := hSw.1; go_simp; all_goals (with_reducible rfl)
                      try simp only [Act.put, List.setIfInBounds_toArray, List.set_cons_zero, List.set_cons_succ, List.getElem_toArray, List.getElem_cons_succ, List.getElem_cons_zero]
                      refine wpAnyH_take (i := 18) (v := ?_) rfl (by kernel_rfl) (by kernel_rfl) (by kernel_rfl) (fun _ _ _ h => h) (Or.inl ⟨by rfl, ?_⟩) (by assumption) ?_
                      rotate_left
                      · intro w hSw; (try dsimp only at hSw); go_simp; all_goals (with_reducible rfl)
                      try simp only [Act.put, List.setIfInBounds_toArray, List.set_cons_zero, List.set_cons_succ, List.getElem_toArray, List.getElem_cons_succ, List.getElem_cons_zero]
                      refine wpAnyH_ready (rs := [19]) (by kernel_rfl) (by simp) ?_
                      refine AllReadyH.cons rfl (fun K hK => ?_) AllReadyH.nil
                      go_simp
                      refine HI.out.mono ?_
                      rintro e w4 ⟨rfl, hM9⟩
                      have hbw9 : Hid (Bw w w4) := hM9.out.o.bw
                      refine hK.out _ _ (by obtain ⟨q0, -, q2, q3, -⟩ := HC.out w4 hbw9.out; exact ⟨q0, q2, q3⟩) (fun hHeld => ?_)
                      clear hK K
                      try simp only [Act.put, List.setIfInBounds_toArray, List.set_cons_zero, List.set_cons_succ, List.getElem_toArray, List.getElem_cons_succ, List.getElem_cons_zero]
                      refine wpAnyH_done (by kernel_rfl) ?_ _
                      go_wp2
                      go_roundw
                      case rel => exact ⟨k + 1, S.cutW src dst false, CM, WN, _, _, by omega, by go_num, rfl, rfl, hM9.out.once, hE.out.cut src dst false, (by have h1 := hC.out; exact (by omega : CM.length ≤ k + 1)), hm2⟩
                      case measure => simp [intOf]; omega
                    · have f5 : (dd == 5) = false := by rw [beq_eq_false_iff_ne]; exact e5
                      have f6 : (dd == 6) = false := by rw [beq_eq_false_iff_ne]; exact e6
                      clear e5 e6
                      go_wp2
                      go_roundw
                      case rel => exact ⟨k + 1, S, CM, WN, _, _, by omega, by go_num, rfl, rfl, hM8.out.once, hE.out, (by have h1 := hC.out; exact (by omega : CM.length ≤ k + 1)), (by have h1 := hM.out; exact (by omega : S.m ≤ k + 1))⟩
                      case measure => simp [intOf]; omega
      · obtain rfl : k = len0 := by omega
        have hlE := hE.out.length_eq
        obtain ⟨m, hm⟩ : ∃ m, Hid (S.L.length = m) := ⟨_, rfl⟩
        rw [List.length_append, hm.out] at hlE
        have hCn := hC.out
        have hm2 : m ≤ 200 := by omega
        have hCl : Hid (CM.length ≤ 1000) := by show _ ≤ _; omega
        have hWl : Hid (WN.length + m = CM.length) := hlE.symm
        clear hlt hlE hCn hC hM
        go_upto_region 37 with fail
        go_loopw [6, 13] (fun s6 s13 wq => ∃ (q : Nat) (wv2 : Value), q ≤ m ∧ s13 = .int .i64 (q : Int) ∧ wv2 = s6 ∧ Hid (Once w wq g S cv wv2 CM (WN ++ S.L.take q))) (fun _ s13 _ => m - (intOf s13).toNat)
        case atStart => exact ⟨0, _, Nat.zero_le _, rfl, rfl, (by rw [List.take_zero, List.append_nil]; exact hI)⟩
        case round =>
          obtain ⟨wq, rfl⟩ : ∃ x, x = wr := ⟨_, rfl⟩
          obtain ⟨q, wv2, hq, rfl, rfl, hJ⟩ := hrel
          have q0 : (0 : Int) ≤ (q : Int) := Int.natCast_nonneg _
          obtain ⟨P, EC, EW, hO⟩ := hJ.out
          have HCt : Hid (Calls Try.prog 16 #[.pointer (some ⟨g, 0, none⟩)] wq fun e w' => e = .returned (.int .i64 (m : Int)) ∧ w' = wq) := by
            have h1 := count_at hO.air
            rw [hm.out] at h1
            exact h1
          by_cases hlt : q < m
          · have q1 : (q : Int) < (m : Int) := by omega
            have q2 : (q : Int) < 500 := by omega
            have hqL : q < S.L.length := by rw [hm.out]; exact hlt
            obtain ⟨D, hD⟩ : ∃ D, Hid (S.giv (q : Int) = D) := ⟨_, rfl⟩
            have hDq : Hid (S.L[q]? = some D) := by
              refine (?_ : _ = _)
              rw [← hD.out]
              unfold Ai.St.giv
              rw [if_pos (Ai.has_of hqL), Ai.at_of hqL, List.getElem?_eq_getElem hqL]
            have HAt : Hid (Calls Try.prog 13 #[.pointer (some ⟨g, 0, none⟩), .int .i64 (q : Int)] wq fun e w' => ∃ v z W2 W3, e = .returned (.tuple #[.agg #[.int .i64 D.src, .int .i64 D.dst, v], .bool true]) ∧ Hid (Kept w' D v z W2 W3) ∧ Hid (Mid w W3 P g S cv wv2 EC EW CM (WN ++ S.L.take q) z D v)) := by
              have h1 := once_at hO (q : Int)
              rw [hD.out, Ai.has_of hqL] at h1
              exact h1
            have hW1 : Hid ((WN ++ S.L.take q).length ≤ 1000) := by
              show (WN ++ S.L.take q).length ≤ 1000
              have h1 := hWl.out
              have h2 := hCl.out
              rw [List.length_append, List.length_take]
              omega
            have hnx : Hid (WN ++ S.L.take (q + 1) = WN ++ S.L.take q ++ [D]) := by
              refine (?_ : _ = _)
              rw [List.take_add_one, hDq.out, List.append_assoc]; rfl
            clear hO hJ hqL
            go_upto_region 42 with (first
              | (go_at_call 16; refine HCt.out.mono ?_; rintro e w1 ⟨rfl, hw⟩; subst w1)
              | (go_at_call 13; refine HAt.out.mono ?_; rintro e w3 ⟨v8, z8, W8, X8, rfl, hK8, hM8⟩)
              | (rw [hK8.out.2.1.out, hK8.out.1.out]; refine wpList_store_row rfl 35 _ _ rfl z8 (dcs D.src D.dst v8) rfl rfl 35 _ hK8.out.2.2.1.out (dg_info _ _ _) rfl (dg_all _ _ hK8.out.2.2.2.2.out).out ?_; rw [hK8.out.2.2.2.1.out]))
            have hP9 : Hid (PushC w X8 g S wv2 cv (WN ++ S.L.take q) CM D.src D.dst v8 D) := hM8.out.pushW
            have hb9 := hM8.out.box
            clear HAt HCt hK8
            go_wp2_with (first
              | refine wpList_load_row rfl 35 _ rfl z8 rfl 35 #[.int .i64 D.src, .int .i64 D.dst, v8] (0, 0) _ hb9 Try.underlying35 rfl (dg_info _ _ _) ?_
              | (at_builtin; refine wpList_push19 rfl (.tmp 194) (.tmp 196) (by rfl) hP9.out hW1.out (by rfl) (by rfl) ?_; intro g2 c2 w5 hO5))
            go_roundw
            case rel => exact ⟨q + 1, _, by omega, by go_num, rfl, (by rw [hnx.out]; have h7 := hO5.out.swap; rw [List.length_append, List.length_take] at h7; exact h7)⟩
            case measure => simp [intOf]; omega
          · obtain rfl : q = m := by omega
            have hfull : S.L.take q = S.L := by rw [← hm.out, List.take_length]
            rw [hfull] at hO
            obtain ⟨N, hN⟩ : ∃ N, Hid (CM.length = N) := ⟨_, rfl⟩
            have hNw : (WN ++ S.L).length = N := by rw [List.length_append, hm.out, hWl.out, hN.out]
            obtain ⟨Ac, cc, ecv⟩ := hO.cu.form
            obtain ⟨Aw, cw, ewv⟩ := hO.wu.form
            rw [hO.cd.1, hN.out] at ecv
            rw [hO.wd.1, hNw] at ewv
            have hN2 : N ≤ 1000 := by rw [← hN.out]; exact hCl.out
            have hbq : Hid (Bw w wq) := hO.bw
            have HD3 : Hid (∀ q', q' < N → ∃ (ub : Nat) (r : Raw) (x : Ai.Dg), Ac = some ⟨ub, 0, none⟩ ∧ ∀ W, Bw wq W → W.rangeAt ub (q' * 3) r.cells ∧ (∃ a : Nat, Calls Try.prog 23 #[.slice Ac N cc, .agg #[.int .i64 r.src, .int .i64 r.dst, r.v]] W (fun e w' => e = .returned (.int .i64 (a : Int)) ∧ Hid (Bw W w')) ∧ a = Ai.many CM x) ∧ Calls Try.prog 23 #[.slice Aw N cw, .agg #[.int .i64 r.src, .int .i64 r.dst, r.v]] W (fun e w' => e = .returned (.int .i64 ((Ai.many CM x : Nat) : Int)) ∧ Hid (Bw W w'))) := fun q' hq' => by
              obtain ⟨ub, uc, e1, hB⟩ := hO.cu.pos (by rw [hO.cd.1, hN.out]; omega)
              obtain ⟨r, x, hr, hx, e3, e4, e5⟩ := hO.cd.get (i := q') (by rw [hN.out]; exact hq')
              have hAc : Ac = some ⟨ub, 0, none⟩ := by
                rw [ecv] at e1
                simp only [Value.slice.injEq] at e1
                exact e1.1
              have hmany : Ai.many (WN ++ S.L) x = Ai.many CM x := (hE.out.countP_eq _).symm
              refine ⟨ub, r, x, hAc, fun W kw => ⟨(hB.keep kw).range hr, ⟨_, ?_, rfl⟩, ?_⟩⟩
              · have h1 := count19_any (hO.cu.keep kw) (hO.cd.keep kw) (by rw [hN.out]; exact hN2) x (e5.keep kw)
                rw [ecv] at h1
                rw [e3, e4]
                exact h1
              · have h1 := count19_any (hO.wu.keep kw) (hO.wd.keep kw) (by rw [hNw]; exact hN2) x (e5.keep kw)
                rw [ewv, hmany] at h1
                rw [e3, e4]
                exact h1
            subst ecv
            subst ewv
            clear hO hJ hlt hfull hNw hE hI
            go_upto_region 46 with (first
              | (go_at_call 16; refine HCt.out.mono ?_; rintro e w1 ⟨rfl, hw⟩; subst w1))
            go_loopw [16] (fun s16 wr => ∃ q : Nat, q ≤ N ∧ s16 = .int .i64 (q : Int) ∧ Hid (Bw wq wr)) (fun s16 _ => N - (intOf s16).toNat)
            case atStart => exact ⟨0, Nat.zero_le _, rfl, Bw.refl _⟩
            case round =>
              obtain ⟨wz, rfl⟩ : ∃ x, x = wr := ⟨_, rfl⟩
              obtain ⟨j, hj, rfl, hbz⟩ := hrel
              have j0 : (0 : Int) ≤ (j : Int) := Int.natCast_nonneg _
              by_cases hjl : j < N
              · have j1 : (j : Int) < (N : Int) := by omega
                obtain ⟨ub, r, x, rfl, hW⟩ := HD3.out j hjl
                have hbz1 : Hid (Bw wq (wz.drewN 1)) := hbz.out.trans (Bw.drewN wz 1)
                have HRg : Hid (∀ W, Bw (wz.drewN 1) W → W.rangeAt ub (j * 3) r.cells) := fun W kw => (hW W (hbz1.out.trans kw)).1
                obtain ⟨aa, haa⟩ : ∃ aa, Hid (Ai.many CM x = aa) := ⟨_, rfl⟩
                have HC1 : Hid (∀ W, Bw (wz.drewN 1) W → Calls Try.prog 23 #[.slice (some ⟨ub, 0, none⟩) N cc, .agg #[.int .i64 r.src, .int .i64 r.dst, r.v]] W (fun e w' => e = .returned (.int .i64 (aa : Int)) ∧ Hid (Bw W w'))) := fun W kw => by
                  obtain ⟨a, h1, h2⟩ := (hW W (hbz1.out.trans kw)).2.1
                  rw [h2, haa.out] at h1
                  exact h1
                have HC2 : Hid (∀ W, Bw (wz.drewN 1) W → Calls Try.prog 23 #[.slice Aw N cw, .agg #[.int .i64 r.src, .int .i64 r.dst, r.v]] W (fun e w' => e = .returned (.int .i64 (aa : Int)) ∧ Hid (Bw W w'))) := fun W kw => by
                  have h1 := (hW W (hbz1.out.trans kw)).2.2
                  rw [haa.out] at h1
                  exact h1
                have hRg0 : Hid ((wz.drewN 1).rangeAt ub (j * 3) r.cells) := HRg.out _ (Bw.refl _)
                clear hW
                go_upto_region 48 with fail
                refine wp_region_held_drew (S := fun w' => w'.rangeAt ub (j * 3) r.cells) (by kernel_rfl) (hRg0.out) (fun hHeld => ?_)
                refine wpAnyH_take (i := 0) (v := ?_) rfl (by kernel_rfl) (by kernel_rfl) (by kernel_rfl) (fun _ _ _ h => h) (Or.inl ⟨by rfl, ?_⟩) (by assumption) ?_
                rotate_left
                · intro w hSw; (try dsimp only at hSw); go_simp; all_goals (with_reducible rfl)
                try simp only [Act.put, List.setIfInBounds_toArray, List.set_cons_zero, List.set_cons_succ, List.getElem_toArray, List.getElem_cons_succ, List.getElem_cons_zero]
                refine wpAnyH_take (i := 1) (v := ?_) rfl (by kernel_rfl) (by kernel_rfl) (by kernel_rfl) (fun _ _ _ h => h) (Or.inl ⟨by rfl, ?_⟩) (by assumption) ?_
                rotate_left
                · intro w hSw; (try dsimp only at hSw); go_simp; all_goals (with_reducible rfl)
                try simp only [Act.put, List.setIfInBounds_toArray, List.set_cons_zero, List.set_cons_succ, List.getElem_toArray, List.getElem_cons_succ, List.getElem_cons_zero]
                refine wpAnyH_take (i := 2) (v := ?_) rfl (by kernel_rfl) (by kernel_rfl) (by kernel_rfl) (fun _ _ _ h => h) (Or.inl ⟨by rfl, ?_⟩) (by assumption) ?_
                rotate_left
                · intro w hSw; (try dsimp only at hSw); go_simp; all_goals (with_reducible rfl)
                try simp only [Act.put, List.setIfInBounds_toArray, List.set_cons_zero, List.set_cons_succ, List.getElem_toArray, List.getElem_cons_succ, List.getElem_cons_zero]
                refine wpAnyH_take (i := 3) (v := .pointer (some ⟨ub, j * 3, none⟩)) rfl (by kernel_rfl) (by kernel_rfl) (by kernel_rfl) (fun _ _ _ h => h) (Or.inl ⟨by rfl, ?_⟩) (by assumption) ?_
                · intro w hSw; clear hSw; go_simp; try rfl
                try simp only [Act.put, List.setIfInBounds_toArray, List.set_cons_zero, List.set_cons_succ, List.getElem_toArray, List.getElem_cons_succ, List.getElem_cons_zero]
                refine wpAnyH_take (i := 4) rfl (by kernel_rfl) (by kernel_rfl) (by kernel_rfl) (fun _ _ _ h => h) (yieldsIf_load_mid (by rfl) 35 _ (by rfl) ub (j * 3) (by rfl) r.cells _ (fun _ h => h) Try.underlying35 rfl (dg_info _ _ r.v)) (by assumption) ?_
                try simp only [Act.put, List.setIfInBounds_toArray, List.set_cons_zero, List.set_cons_succ, List.getElem_toArray, List.getElem_cons_succ, List.getElem_cons_zero]
                refine wpAnyH_take (i := 6) (v := ?_) rfl (by kernel_rfl) (by kernel_rfl) (by kernel_rfl) (fun _ _ _ h => h) (Or.inl ⟨by rfl, ?_⟩) (by assumption) ?_
                rotate_left
                · intro w hSw; (try dsimp only at hSw); go_simp; all_goals (with_reducible rfl)
                try simp only [Act.put, List.setIfInBounds_toArray, List.set_cons_zero, List.set_cons_succ, List.getElem_toArray, List.getElem_cons_succ, List.getElem_cons_zero]
                refine wpAnyH_take (i := 7) (v := ?_) rfl (by kernel_rfl) (by kernel_rfl) (by kernel_rfl) (fun _ _ _ h => h) (Or.inl ⟨by rfl, ?_⟩) (by assumption) ?_
                rotate_left
                · intro w hSw; (try dsimp only at hSw); go_simp; all_goals (with_reducible rfl)
                try simp only [Act.put, List.setIfInBounds_toArray, List.set_cons_zero, List.set_cons_succ, List.getElem_toArray, List.getElem_cons_succ, List.getElem_cons_zero]
                refine wpAnyH_take (i := 8) (v := ?_) rfl (by kernel_rfl) (by kernel_rfl) (by kernel_rfl) (fun _ _ _ h => h) (Or.inl ⟨by rfl, ?_⟩) (by assumption) ?_
                rotate_left
                · intro w hSw; (try dsimp only at hSw); go_simp; all_goals (with_reducible rfl)
                try simp only [Act.put, List.setIfInBounds_toArray, List.set_cons_zero, List.set_cons_succ, List.getElem_toArray, List.getElem_cons_succ, List.getElem_cons_zero]
                refine wpAnyH_take (i := 9) (v := .pointer (some ⟨ub, j * 3, none⟩)) rfl (by kernel_rfl) (by kernel_rfl) (by kernel_rfl) (fun _ _ _ h => h) (Or.inl ⟨by rfl, ?_⟩) (by assumption) ?_
                · intro w hSw; clear hSw; go_simp; try rfl
                try simp only [Act.put, List.setIfInBounds_toArray, List.set_cons_zero, List.set_cons_succ, List.getElem_toArray, List.getElem_cons_succ, List.getElem_cons_zero]
                refine wpAnyH_take (i := 10) rfl (by kernel_rfl) (by kernel_rfl) (by kernel_rfl) (fun _ _ _ h => h) (yieldsIf_load_mid (by rfl) 35 _ (by rfl) ub (j * 3) (by rfl) r.cells _ (fun _ h => h) Try.underlying35 rfl (dg_info _ _ r.v)) (by assumption) ?_
                try simp only [Act.put, List.setIfInBounds_toArray, List.set_cons_zero, List.set_cons_succ, List.getElem_toArray, List.getElem_cons_succ, List.getElem_cons_zero]
                refine wpAnyH_ready (rs := [5]) (by kernel_rfl) (by simp) ?_
                refine AllReadyH.cons rfl (fun K hK => ?_) AllReadyH.nil
                go_simp
                refine (HC1.out _ (Bw.refl _)).mono ?_
                rintro e w4 ⟨rfl, hb4⟩
                refine hK.out _ _ (HRg.out _ hb4.out) (fun hHeld => ?_)
                clear hK K
                try simp only [Act.put, List.setIfInBounds_toArray, List.set_cons_zero, List.set_cons_succ, List.getElem_toArray, List.getElem_cons_succ, List.getElem_cons_zero]
                refine wpAnyH_ready (rs := [11]) (by kernel_rfl) (by simp) ?_
                refine AllReadyH.cons rfl (fun K hK => ?_) AllReadyH.nil
                go_simp
                refine (HC2.out _ hb4.out).mono ?_
                rintro e w5 ⟨rfl, hb5⟩
                refine hK.out _ _ (HRg.out _ (hb4.out.trans hb5.out)) (fun hHeld => ?_)
                clear hK K
                try simp only [Act.put, List.setIfInBounds_toArray, List.set_cons_zero, List.set_cons_succ, List.getElem_toArray, List.getElem_cons_succ, List.getElem_cons_zero]
                refine wpAnyH_take (i := 12) (v := ?_) rfl (by kernel_rfl) (by kernel_rfl) (by kernel_rfl) (fun _ _ _ h => h) (Or.inl ⟨by rfl, ?_⟩) (by assumption) ?_
                rotate_left
                · intro w hSw; (try dsimp only at hSw); go_simp; all_goals (with_reducible rfl)
                try simp only [Act.put, List.setIfInBounds_toArray, List.set_cons_zero, List.set_cons_succ, List.getElem_toArray, List.getElem_cons_succ, List.getElem_cons_zero]
                refine wpAnyH_done (by kernel_rfl) ?_ _
                go_wp2
                go_roundw
                case rel => exact ⟨j + 1, by omega, by go_num, hbz1.out.trans (hb4.out.trans hb5.out)⟩
                case measure => simp [intOf]; omega
              · obtain rfl : j = N := by omega
                clear hjl HD3
                go_wp2_with (go_at_call 8; refine (wakes19_any _).mono ?_; rintro e w9 ⟨rfl, hb9⟩)
                go_ret
                exact ⟨rfl, hbq.out.trans (hbz.out.trans hb9)⟩

set_option maxRecDepth 100000 in
theorem lifted (os : Os) (started : os.Started) (H : Type) (enc : TypeId × Value → H) :
    ReturnsInHanded {} Try.checked os 6 .any (Rows.airOnceSpec.pre6 enc Try.prog Try.f6 Rows.airOnceRow.domain false) (Rows.airOnceSpec.post enc Try.prog Try.f6 false true false false) := by
  refine returnsInHanded_of_change_sized (C := Try.checked) own started (by kernel_rfl) Try.func6
    (ChangeSpec.witness6 (enc := enc) (C := Try.checked) false ⟨#[], #[.slice none 0 0], []⟩ 8 (by kernel_rfl) (by kernel_rfl) (by kernel_rfl) (by kernel_rfl)) ?_
  intro W base args ds gs before hval0 hW hcnd hsz0 _
  have hval : ∀ (j : Nat) t v, Try.f6.params[j]? = some t → args[j]? = some v → Value.okWide Try.prog W .any base t v := hval0
  have hW' := hW
  obtain ⟨p, q, hA0, hV, rfl, hfz, hnd⟩ := hW
  have hA : DataW.TrodAll enc Try.prog W 0 (fun _ => true) true Try.f6.params.toList args.toList ds p := hA0
  have hsz : (DataW.weightsEach Try.prog (Try.f6.params.toList ++ Rows.airOnceSpec.plain.varTypes Try.prog) (ds ++ gs)).all (· ≤ reachBytes) = true := hsz0
  rw [Try.params6] at hA hval hsz
  obtain ⟨v0, vs0, d0, ds0, p0, q0, hargs, rfl, rfl, h0, r0⟩ := trodAll_cons hA
  obtain ⟨rfl, rfl, rfl⟩ := trodAll_nil r0
  obtain rfl : args = #[v0] := by cases args; simp_all
  obtain ⟨rfl, rfl⟩ := trodVars_none hV
  obtain ⟨a0, len0, cap0, rfl⟩ := okWide_slice Try.underlying22 (hval 0 22 v0 rfl rfl)
  have k0 := h0
  have lt0 : ∀ x ∈ p0, x.block < W.heap.size := by obtain ⟨m, hm⟩ := k0; exact DataW.trod_lt m _ _ _ hm
  obtain ⟨X0, w0⟩ := open_acts19 h0 (fun x hx => by simpa using List.all_eq_true.1 hsz x (DataW.weights_mem_each (j := 0) (t := 22) rfl rfl x hx))
  clear hA0 hval0
  refine (walk a0 len0 cap0 X0 W w0).mono fun e W' ⟨he, bel⟩ => ?_
  subst he
  exact ⟨_, rfl, _, _, _, [], _, [], hW', trodAll_mk1 (shut_bool Try.underlying4 _), (trodAll_cons_mk (Below.trod laidOut (by kernel_rfl) (of_decide_eq_true (by kernel_rfl)) k0 bel lt0) trodAll_mk0), rfl, bel.frame _, fun h => by cases h⟩

theorem over : Rows.airOnceRow.holds Try.pinned (OpenSpec.ofChange Rows.airOnceSpec) :=
  OpenClaim.holds_of_wide 6 Try.f6 rfl rfl rfl rfl rfl rfl rfl ⟨rfl, rfl, rfl, rfl, rfl⟩ rfl rfl rfl rfl rfl (by kernel_rfl) Try.func6 (by kernel_rfl)
    (of_decide_eq_true (by kernel_rfl)) (by unfold Func.isWrapper; first | (rw [if_pos (by decide +kernel)]; kernel_rfl) | (rw [if_neg (by decide +kernel)]; exact ⟨rfl, rfl⟩))
    (fun os started H enc _ => lifted os started H enc)

theorem proved : Rows.AirOnceSaid := over
#print axioms proved
end Go.Proofs.Ytjjnbpbbjaabeaa.airOnce
