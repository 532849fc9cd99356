/- Layer 16: both spaces side by side (SpacePlays). -/
import Derived.Test.YtfdfkhmaeeonpaaRx
namespace Go.Proofs.Ytfdfkhmaeeonpaa
open Go.RowKit Go.Deep
set_option linter.unusedVariables false
set_option linter.unusedSimpArgs false

/-- which cells are taken, by the free runs -/
def takenF (L : List Sp.Rn) : Nat → Bool := fun j => decide (Sp.cov L j = 0)
theorem takenF_free {L : List Sp.Rn} {j : Nat} : takenF L j = false ↔ 0 < Sp.cov L j := by unfold takenF; rw [decide_eq_false_iff_not]; omega
theorem takenF_taken {L : List Sp.Rn} {j : Nat} : takenF L j = true ↔ Sp.cov L j = 0 := by unfold takenF; rw [decide_eq_true_eq]
/-- a space, and the document's -/
structure Bt16 (w0 : World) (g n : Nat) (L : List Sp.Rn) (rg rb : Nat) (w : World) : Prop where
  sp : Sps w0 g n L w
  rf : RfAt w rg rb n (takenF L)
  gl : w0.heap.size ≤ rg
  bl : w0.heap.size ≤ rb
namespace Bt16
variable {w0 w w' : World} {g n rg rb : Nat} {L M : List Sp.Rn}
theorem keep (h : Bt16 w0 g n L rg rb w) (k : Bw w w') : Bt16 w0 g n L rg rb w' := ⟨h.sp.keep k, h.rf.keep k, h.gl, h.bl⟩
theorem bw (h : Bt16 w0 g n L rg rb w) : Bw w0 w := h.sp.bw
end Bt16
theorem RfAt.keeps {w w' : World} {g b n c rg rb m : Nat} {L : List Sp.Rn} {f : Nat → Bool} (h : RfAt w rg rb m f) (hs : SpAt w g n b c L) (k : Bx (fun y => y = g ∨ y = b) w w') : RfAt w' rg rb m f := by
  obtain ⟨cur, hb, _⟩ := hs.row
  obtain ⟨cur2, hr, _⟩ := h.row
  refine h.keepx k ?_ ?_
  · rintro (e | e)
    · have h2 := h.hd
      rw [e, hs.cells] at h2
      simp only [Option.some.injEq, Obj.cells.injEq] at h2
      exact absurd h2.2.1 (by decide)
    · have h2 := h.hd
      rw [e, hb] at h2
      simp only [Option.some.injEq, Obj.cells.injEq] at h2
      exact absurd h2.2.1 (by decide)
  · rintro (e | e)
    · rw [e, hs.cells] at hr
      simp only [Option.some.injEq, Obj.cells.injEq] at hr
      exact absurd hr.2.1 (by decide)
    · rw [e, hb] at hr
      simp only [Option.some.injEq, Obj.cells.injEq] at hr
      exact absurd hr.2.1 (by decide)
theorem Sps.keepr {w0 w w' : World} {g n rg rb m : Nat} {L : List Sp.Rn} {f : Nat → Bool} (h : Sps w0 g n L w) (hr : RfAt w rg rb m f) (hb : w0.heap.size ≤ rb) (k : Bx (· = rb) w w') : Sps w0 g n L w' := by
  obtain ⟨b, c, h⟩ := h
  obtain ⟨cur, h1, _⟩ := hr.row
  obtain ⟨cur2, h2, _⟩ := h.sp.row
  refine ⟨b, c, h.sp.keepx k ?_ ?_, h.gl, h.bl, Below.trans h.bw (k.below h.bw.size (fun y e => by rw [e]; exact hb))⟩
  · intro e
    have h3 := h.sp.cells
    rw [e, h1] at h3
    simp only [Option.some.injEq, Obj.cells.injEq] at h3
    exact absurd h3.2.1 (by decide)
  · intro e
    rw [e, h1] at h2
    simp only [Option.some.injEq, Obj.cells.injEq] at h2
    exact absurd h2.2.1 (by decide)
theorem freeAt_all {L : List Sp.Rn} {n y K : Nat} (hn : Sp.Norm n L) (hK : 1 ≤ K) : FreeAt (takenF L) n y K ↔ Sp.AllFree L y K := by
  constructor
  · rintro ⟨h1, h2⟩ j hj1 hj2
    exact takenF_free.1 (h2 j hj1 hj2)
  · intro h
    obtain ⟨r, hr, h1, h2⟩ := (Sp.allfree_in hn hK).1 h
    exact ⟨by have := (hn.ok r hr).2; omega, fun j hj1 hj2 => takenF_free.2 (h j hj1 hj2)⟩
theorem takenF_cut {L M : List Sp.Rn} {n x K : Nat} (hn : Sp.Norm n L) (h : ∀ j, Sp.cov M j + Sp.inr (x, K) j = Sp.cov L j) (j : Nat) : takenF M j = setF (takenF L) x K true j := by
  have h1 := h j
  have h2 := hn.cov_le j
  unfold setF
  by_cases e : x ≤ j ∧ j < x + K
  · rw [if_pos e]
    rw [Sp.inr_yes (r := (x, K)) e] at h1
    exact takenF_taken.2 (by omega)
  · rw [if_neg e]
    rw [Sp.inr_no (r := (x, K)) e] at h1
    unfold takenF
    rw [← h1]; rfl
theorem takenF_join {L M : List Sp.Rn} {x K : Nat} (h : ∀ j, Sp.cov M j = Sp.cov L j + Sp.inr (x, K) j) (j : Nat) : takenF M j = setF (takenF L) x K false j := by
  have h1 := h j
  unfold setF
  by_cases e : x ≤ j ∧ j < x + K
  · rw [if_pos e]
    rw [Sp.inr_yes (r := (x, K)) e] at h1
    exact takenF_free.2 (by omega)
  · rw [if_neg e]
    rw [Sp.inr_no (r := (x, K)) e] at h1
    unfold takenF
    rw [h1]; rfl
/-- the program answered e; the document's answers the same, and both are alike again -/
def Like16 (w0 : World) (g n rg rb F : Nat) (args : Array Value) (e : Ending) (w1 : World) : Prop :=
  Bw w0 w1 ∧ ∀ w2, Bw w1 w2 → Calls Try.prog F args w2 fun e' w3 => e' = e ∧ Hid (∃ M, Bt16 w0 g n M rg rb w3)
theorem bt_take {w0 w : World} {g n rg rb : Nat} {L : List Sp.Rn} (h : Bt16 w0 g n L rg rb w) (k : Int) (hk : k < 9223372036854775808) :
    Calls Try.prog 10 #[.pointer (some ⟨g, 0, none⟩), .int .i64 k] w fun e w1 => ∃ x c : Int, e = .returned (.tuple #[.int .i64 x, .int .i64 c]) ∧ Hid (Like16 w0 g n rg rb 11 #[.pointer (some ⟨rg, 0, none⟩), .int .i64 k] (.returned (.tuple #[.int .i64 x, .int .i64 c])) w1) := by
  obtain ⟨b, c, hs⟩ := h.sp
  have hnm := hs.sp.norm
  refine (stake_any hs.sp k).mono ?_
  rintro e w1 (⟨h1, h2, h3⟩ | ⟨K, h1, h2, h3, h4, h5⟩ | ⟨K, x, M, h1, h2, h3, h4, h5, h6, h7⟩)
  · refine ⟨0, 1, h2, h.bw.trans h3, fun w2 k2 => ?_⟩
    have hb := (h.keep h3).keep k2
    refine (rtake16_any hb.rf k hk).mono ?_
    rintro e' w3 (⟨a1, a2, a3⟩ | ⟨K', a1, a2, _⟩ | ⟨K', x', a1, a2, _⟩)
    · exact ⟨a2, L, hb.keep a3⟩
    · omega
    · omega
  · refine ⟨0, 3, h4, h.bw.trans h5, fun w2 k2 => ?_⟩
    have hb := (h.keep h5).keep k2
    refine (rtake16_any hb.rf k hk).mono ?_
    rintro e' w3 (⟨a1, a2, a3⟩ | ⟨K', a1, a2, a3, a4, a5⟩ | ⟨K', x', a1, a2, a3, _⟩)
    · omega
    · exact ⟨a4, L, hb.keep a5⟩
    · obtain rfl : K = K' := by omega
      exact absurd ((freeAt_all hnm h2).1 a3) (h3 x')
  · have hS := Sps.after hs h6
    have hr1 : RfAt w1 rg rb n (takenF L) := by
      obtain ⟨b', c', _, _, hx⟩ := h6
      exact h.rf.keeps hs.sp hx
    refine ⟨x, 0, h5, hS.bw, fun w2 k2 => ?_⟩
    have hr2 := hr1.keep k2
    refine (rtake16_any hr2 k hk).mono ?_
    rintro e' w3 (⟨a1, a2, a3⟩ | ⟨K', a1, a2, a3, a4, a5⟩ | ⟨K', x', a1, a2, a3, a4, a5, a6, a7⟩)
    · omega
    · obtain rfl : K = K' := by omega
      exact absurd ((freeAt_all hnm h2).2 h3.here) (a3 x)
    · obtain rfl : K = K' := by omega
      have hp : Sp.Place L K x' := ⟨(freeAt_all hnm h2).1 a3, fun y hy ha => a4 y hy ((freeAt_all hnm h2).2 ha)⟩
      obtain rfl := Sp.place_uniq h3 hp
      exact ⟨a5, M, ⟨(hS.keep k2).keepr hr2 h.bl a7, a6.congr (fun j _ => takenF_cut hnm h7 j), h.gl, h.bl⟩⟩
theorem bt_hold {w0 w : World} {g n rg rb : Nat} {L : List Sp.Rn} (h : Bt16 w0 g n L rg rb w) (x k : Int) (x0 : -9223372036854775808 ≤ x ∧ x < 9223372036854775808) (k0 : -9223372036854775808 ≤ k ∧ k < 9223372036854775808) :
    Calls Try.prog 12 #[.pointer (some ⟨g, 0, none⟩), .agg #[.int .i64 x, .int .i64 k]] w fun e w1 => ∃ c : Int, e = .returned (.int .i64 c) ∧ Hid (Like16 w0 g n rg rb 13 #[.pointer (some ⟨rg, 0, none⟩), .agg #[.int .i64 x, .int .i64 k]] (.returned (.int .i64 c)) w1) := by
  obtain ⟨b, c, hs⟩ := h.sp
  have hnm := hs.sp.norm
  have hn1 := hs.sp.n1
  refine (shold_any hs.sp x k x0 k0).mono ?_
  rintro e w1 (⟨h1, h2, h3⟩ | ⟨X, K, h1, h2, h3, h4, (⟨h5, h6, h7⟩ | ⟨h5, h6, M, h7, h8⟩)⟩)
  · refine ⟨1, h2, h.bw.trans h3, fun w2 k2 => ?_⟩
    have hb := (h.keep h3).keep k2
    refine (rhold16_any hb.rf x k).mono ?_
    rintro e' w3 (⟨a1, a2, a3⟩ | ⟨X', K', a1, a2, a3, a4, _⟩)
    · exact ⟨a2, L, hb.keep a3⟩
    · exact absurd (show Sp.Right n x k by unfold Sp.Right; omega) h1
  · refine ⟨5, h6, h.bw.trans h7, fun w2 k2 => ?_⟩
    have hb := (h.keep h7).keep k2
    refine (rhold16_any hb.rf x k).mono ?_
    rintro e' w3 (⟨a1, a2, a3⟩ | ⟨X', K', a1, a2, a3, a4, (⟨a5, a6, a7⟩ | ⟨a5, a6, a7⟩)⟩)
    · exact absurd (show Sp.Right n x k by unfold Sp.Right; omega) a1
    · exact ⟨a6, L, hb.keep a7⟩
    · obtain rfl : X = X' := by omega
      obtain rfl : K = K' := by omega
      exact absurd (fun j hj1 hj2 => takenF_free.1 (a5 j hj1 hj2)) h5
  · have hS := Sps.after hs h7
    have hr1 : RfAt w1 rg rb n (takenF L) := by
      obtain ⟨b', c', _, _, hx⟩ := h7
      exact h.rf.keeps hs.sp hx
    refine ⟨0, h6, hS.bw, fun w2 k2 => ?_⟩
    have hr2 := hr1.keep k2
    refine (rhold16_any hr2 x k).mono ?_
    rintro e' w3 (⟨a1, a2, a3⟩ | ⟨X', K', a1, a2, a3, a4, (⟨a5, a6, a7⟩ | ⟨a5, a6, a7, a8⟩)⟩)
    · exact absurd (show Sp.Right n x k by unfold Sp.Right; omega) a1
    · obtain rfl : X = X' := by omega
      obtain rfl : K = K' := by omega
      exact absurd (fun j hj1 hj2 => takenF_free.2 (h5 j hj1 hj2)) a5
    · obtain rfl : X = X' := by omega
      obtain rfl : K = K' := by omega
      exact ⟨a6, M, ⟨(hS.keep k2).keepr hr2 h.bl a8, a7.congr (fun j _ => takenF_cut hnm h8 j), h.gl, h.bl⟩⟩
theorem bt_give {w0 w : World} {g n rg rb : Nat} {L : List Sp.Rn} (h : Bt16 w0 g n L rg rb w) (x k : Int) (x0 : -9223372036854775808 ≤ x ∧ x < 9223372036854775808) (k0 : -9223372036854775808 ≤ k ∧ k < 9223372036854775808) :
    Calls Try.prog 14 #[.pointer (some ⟨g, 0, none⟩), .agg #[.int .i64 x, .int .i64 k]] w fun e w1 => ∃ c : Int, e = .returned (.int .i64 c) ∧ Hid (Like16 w0 g n rg rb 15 #[.pointer (some ⟨rg, 0, none⟩), .agg #[.int .i64 x, .int .i64 k]] (.returned (.int .i64 c)) w1) := by
  obtain ⟨b, c, hs⟩ := h.sp
  have hnm := hs.sp.norm
  have hn1 := hs.sp.n1
  refine (sgive_any hs.sp x k x0 k0).mono ?_
  rintro e w1 (⟨h1, h2, h3⟩ | ⟨X, K, h1, h2, h3, h4, (⟨h5, h6, h7⟩ | ⟨h5, h6, M, h7, h8⟩)⟩)
  · refine ⟨1, h2, h.bw.trans h3, fun w2 k2 => ?_⟩
    have hb := (h.keep h3).keep k2
    refine (rgive16_any hb.rf x k).mono ?_
    rintro e' w3 (⟨a1, a2, a3⟩ | ⟨X', K', a1, a2, a3, a4, _⟩)
    · exact ⟨a2, L, hb.keep a3⟩
    · exact absurd (show Sp.Right n x k by unfold Sp.Right; omega) h1
  · refine ⟨4, h6, h.bw.trans h7, fun w2 k2 => ?_⟩
    have hb := (h.keep h7).keep k2
    refine (rgive16_any hb.rf x k).mono ?_
    rintro e' w3 (⟨a1, a2, a3⟩ | ⟨X', K', a1, a2, a3, a4, (⟨a5, a6, a7⟩ | ⟨a5, a6, a7⟩)⟩)
    · exact absurd (show Sp.Right n x k by unfold Sp.Right; omega) a1
    · exact ⟨a6, L, hb.keep a7⟩
    · obtain rfl : X = X' := by omega
      obtain rfl : K = K' := by omega
      exact absurd (fun j hj1 hj2 => takenF_taken.1 (a5 j hj1 hj2)) h5
  · have hS := Sps.after hs h7
    have hr1 : RfAt w1 rg rb n (takenF L) := by
      obtain ⟨b', c', _, _, hx⟩ := h7
      exact h.rf.keeps hs.sp hx
    refine ⟨0, h6, hS.bw, fun w2 k2 => ?_⟩
    have hr2 := hr1.keep k2
    refine (rgive16_any hr2 x k).mono ?_
    rintro e' w3 (⟨a1, a2, a3⟩ | ⟨X', K', a1, a2, a3, a4, (⟨a5, a6, a7⟩ | ⟨a5, a6, a7, a8⟩)⟩)
    · exact absurd (show Sp.Right n x k by unfold Sp.Right; omega) a1
    · obtain rfl : X = X' := by omega
      obtain rfl : K = K' := by omega
      exact absurd (fun j hj1 hj2 => takenF_taken.2 (h5 j hj1 hj2)) a5
    · obtain rfl : X = X' := by omega
      obtain rfl : K = K' := by omega
      exact ⟨a6, M, ⟨(hS.keep k2).keepr hr2 h.bl a8, a7.congr (fun j _ => takenF_join h8 j), h.gl, h.bl⟩⟩
theorem cov_taken {n : Nat} {L : List Sp.Rn} (h : Sp.Norm n L) (j : Nat) : Sp.cov L j = if j < n ∧ takenF L j = false then 1 else 0 := by
  have h1 := h.cov_le j
  by_cases e : 0 < Sp.cov L j
  · obtain ⟨r, hr, h2⟩ := Sp.cov_ex e
    rw [if_pos ⟨by have := (h.ok r hr).2; omega, takenF_free.2 e⟩]
    omega
  · rw [if_neg (fun h => e (takenF_free.1 h.2))]
    omega
theorem bt_free {w0 w : World} {g n rg rb : Nat} {L : List Sp.Rn} (h : Bt16 w0 g n L rg rb w) :
    Calls Try.prog 16 #[.pointer (some ⟨g, 0, none⟩)] w fun e w' => e = .returned (.int .i64 (Sp.tot L : Int)) ∧ Hid (Bt16 w0 g n L rg rb w') := by
  obtain ⟨b, c, hs⟩ := h.sp
  refine (sfree_any hs.sp).mono ?_
  rintro e w' ⟨h1, h2⟩
  exact ⟨h1, h.keep h2⟩
theorem bt_rfree {w0 w : World} {g n rg rb : Nat} {L : List Sp.Rn} (h : Bt16 w0 g n L rg rb w) :
    Calls Try.prog 17 #[.pointer (some ⟨rg, 0, none⟩)] w fun e w' => e = .returned (.int .i64 (Sp.tot L : Int)) ∧ Hid (Bt16 w0 g n L rg rb w') := by
  have hnm := h.sp.norm
  refine (rfree16_any h.rf).mono ?_
  rintro e w' ⟨h1, h2⟩
  have e1 : cntF (takenF L) n = Sp.tot L := by
    rw [cntF_sum (takenF L) L n (fun j hj => by rw [cov_taken hnm j]; by_cases e : takenF L j = false; rw [if_pos ⟨hj, e⟩, if_pos e]; rw [if_neg (fun h => e h.2), if_neg e])]
    exact Sp.tot_sum (fun r hr => (hnm.ok r hr).2)
  rw [e1] at h1
  exact ⟨h1, h.keep h2⟩
theorem bt_runs {w0 w : World} {g n rg rb m : Nat} {L : List Sp.Rn} (h : Bt16 w0 g n L rg rb w) (hm : L.length = m) :
    Calls Try.prog 19 #[.pointer (some ⟨g, 0, none⟩)] w fun e w' => ∃ b2, e = .returned (.slice (some ⟨b2, 0, none⟩) m m) ∧ Hid (RsAt w' (some ⟨b2, 0, none⟩) L ∧ Bt16 w0 g n L rg rb w') := by
  obtain ⟨b, c, hs⟩ := h.sp
  refine (sruns_any hs.sp).mono ?_
  rintro e w' ⟨b2, h1, h2, h3, h4⟩
  rw [hm] at h1
  exact ⟨b2, h1, h2.src0, h.keep h4⟩
theorem bt_rruns {w0 w : World} {g n rg rb m : Nat} {L : List Sp.Rn} (h : Bt16 w0 g n L rg rb w) (hm : L.length = m) :
    Calls Try.prog 20 #[.pointer (some ⟨rg, 0, none⟩)] w fun e w' => ∃ A c, e = .returned (.slice A m c) ∧ Hid (RsAt w' A L ∧ Bt16 w0 g n L rg rb w' ∧ Bw w w') := by
  have hnm := h.sp.norm
  refine (rruns16_any h.rf).mono ?_
  rintro e w' ⟨v, M, h1, h2, h3, h4⟩
  obtain rfl : M = L := Sp.Norm.uniq h3.norm hnm (fun j => by rw [h3.cov j, cov_taken hnm j])
  obtain ⟨A, c, e1, h5, _, _⟩ := h2.src
  rw [hm] at e1
  subst e1
  exact ⟨A, c, h1, h5, h.keep h4, h4⟩
theorem bt_new {w w1 w2 : World} {N g b c rg rb : Nat} (h4 : SpAt w1 g N b c (Sp.wc [(0, N)])) (h5 : w.heap.size ≤ g) (h6 : w.heap.size ≤ b) (h7 : Bw w w1) (r1 : RfAt w2 rg rb N (fun _ => false)) (r2 : w1.heap.size ≤ rg) (r3 : w1.heap.size ≤ rb) (r4 : Bw w1 w2) : Bt16 w g N (Sp.wc [(0, N)]) rg rb w2 :=
  ⟨(sps_new h4 h5 h6 h7).keep r4, r1.congr (fun j hj => by
    refine takenF_free.2 ?_
    rw [Sp.wc_cov, Sp.cov, Sp.inr_yes (r := (0, N)) ⟨Nat.zero_le _, by show j < 0 + N; omega⟩]
    omega), Nat.le_trans h7.size r2, Nat.le_trans h7.size r3⟩
end Go.Proofs.Ytfdfkhmaeeonpaa
