/- Layer 16: the document's Same at lists that are the same; a space and a list of its runs. -/
import Derived.Test.YtfdfkhmaeeonpaaRq
import Derived.Laws.StructEq
namespace Go.Proofs.Ytfdfkhmaeeonpaa
open Go.RowKit Go.Deep
set_option linter.unusedVariables false
set_option linter.unusedSimpArgs false

set_option maxRecDepth 100000 in
set_option maxHeartbeats 2000000 in
theorem rsame16_yes (A B : Option Addr) (n c c' : Nat) (L : List Sp.Rn) (u : World) (hA : RsAt u A L) (hB : RsAt u B L) (hn : L.length = n) (hn2 : n ≤ 65536) :
    Calls Try.prog 18 #[.slice A n c, .slice B n c'] u fun e w' => e = .returned (.bool true) ∧ Bw u w' := by
  have HA : Hid (RsAt u A L) := hA
  have HB : Hid (RsAt u B L) := hB
  have HN : Hid (L.length = n) := hn
  clear hA hB hn
  go_enter Try.func18, Try.ntmps18
  go_wp2
  go_loopw [5] (fun s5 wr => ∃ j : Nat, s5 = .int .i64 (j : Int) ∧ j ≤ n ∧ Hid (Bw u wr)) (fun s5 _ => n - (intOf s5).toNat)
  case atStart => exact ⟨0, rfl, Nat.zero_le _, Bw.refl _⟩
  case round =>
    obtain ⟨j, rfl, hj, hbw⟩ := hrel
    have j0 : (0 : Int) ≤ (j : Int) := Int.natCast_nonneg _
    by_cases hlt : j < n
    · have j1 : (j : Int) < (n : Int) := by omega
      obtain ⟨r, hr⟩ : ∃ r, Hid (L[j]? = some r) := ⟨_, List.getElem?_eq_getElem (by rw [HN.out]; exact hlt)⟩
      have qa := HA.out.keep hbw.out
      have qb := HB.out.keep hbw.out
      obtain ⟨a0, o0, rfl⟩ : ∃ b0 o0, A = some ⟨b0, o0, none⟩ := by
        rcases qa with h0 | ⟨b0, o0, e, _⟩
        · rw [h0] at hr; exact absurd hr.out (by simp)
        · exact ⟨b0, o0, e⟩
      obtain ⟨a1, o1, rfl⟩ : ∃ b0 o0, B = some ⟨b0, o0, none⟩ := by
        rcases qb with h0 | ⟨b0, o0, e, _⟩
        · rw [h0] at hr; exact absurd hr.out (by simp)
        · exact ⟨b0, o0, e⟩
      obtain ⟨x0, x1⟩ := qa.at hr.out
      obtain ⟨y0, y1⟩ := qb.at hr.out
      go_upto_region 6 with fail
      go_quiet (fail)
      go_wp2
      go_roundw
      case rel => exact ⟨j + 1, by go_num, by omega, hbw.out.trans (Bw.drewN _ _)⟩
      case measure => simp [intOf]; omega
    · obtain rfl : j = n := by omega
      go_wp2
      go_ret
      exact ⟨rfl, hbw.out⟩
/-- a space, and a list of runs of the statement's own -/
structure Two (w0 w : World) (g n b c : Nat) (M : List Sp.Rn) (bw : Nat) (L : List Sp.Rn) : Prop where
  st : St w0 w g n b c M
  was : RB w 32 bw L.length L
  ng : bw ≠ g
  nb : bw ≠ b
theorem Two.keep {w0 w w' : World} {g n b c bw : Nat} {M L : List Sp.Rn} (h : Two w0 w g n b c M bw L) (k : Bw w w') : Two w0 w' g n b c M bw L := ⟨h.st.keep k, h.was.keep k, h.ng, h.nb⟩
theorem Two.after {w0 w w' : World} {g n b c bw : Nat} {M M' L : List Sp.Rn} (h : Two w0 w g n b c M bw L) (k : SpEnds g n b M' w w') : ∃ b' c', Two w0 w' g n b' c' M' bw L := by
  have hl := h.was.lt
  obtain ⟨b', c', h1, h2, h3⟩ := h.st.after k
  refine ⟨b', c', h1, h.was.keepx h3 (by rintro (e | e); exact h.ng e; exact h.nb e), h.ng, ?_⟩
  rcases h2 with h2 | h2
  · rw [h2]; exact h.nb
  · omega
def Twos (w0 : World) (g n : Nat) (M : List Sp.Rn) (bw : Nat) (L : List Sp.Rn) (w : World) : Prop := ∃ b c, Two w0 w g n b c M bw L
theorem Twos.keep {w0 w w' : World} {g n bw : Nat} {M L : List Sp.Rn} (h : Twos w0 g n M bw L w) (k : Bw w w') : Twos w0 g n M bw L w' := by obtain ⟨b, c, h⟩ := h; exact ⟨b, c, h.keep k⟩
theorem Twos.after {w0 w w' : World} {g n b c bw : Nat} {M M' L : List Sp.Rn} (h : Two w0 w g n b c M bw L) (k : SpEnds g n b M' w w') : Twos w0 g n M' bw L w' := by
  obtain ⟨b', c', h⟩ := h.after k
  exact ⟨b', c', h⟩
theorem Twos.bw {w0 w : World} {g n bw : Nat} {M L : List Sp.Rn} (h : Twos w0 g n M bw L w) : Bw w0 w := by obtain ⟨b, c, h⟩ := h; exact h.st.bw
theorem Twos.norm {w0 w : World} {g n bw : Nat} {M L : List Sp.Rn} (h : Twos w0 g n M bw L w) : Sp.Norm n M := by obtain ⟨b, c, h⟩ := h; exact h.st.sp.norm
theorem Twos.was {w0 w : World} {g n bw : Nat} {M L : List Sp.Rn} (h : Twos w0 g n M bw L w) : RB w 32 bw L.length L := by obtain ⟨b, c, h⟩ := h; exact h.was
theorem tw_new {w0 w : World} {g n : Nat} {L : List Sp.Rn} (h : Sps w0 g n L w) : Calls Try.prog 19 #[.pointer (some ⟨g, 0, none⟩)] w fun e w' => ∃ bw, e = .returned (.slice (some ⟨bw, 0, none⟩) L.length L.length) ∧ Twos w0 g n L bw L w' := by
  obtain ⟨b, c, h⟩ := h
  refine (sruns_any h.sp).mono ?_
  rintro e w' ⟨bw, h1, h2, h3, h4⟩
  have hg := h.sp.lt
  have hb := h.sp.row.lt
  exact ⟨bw, h1, b, c, h.keep h4, h2, by omega, by omega⟩
/-- Runs again: the same, if the space is as it was -/
theorem tw_runs {w0 w : World} {g n bw : Nat} {L : List Sp.Rn} (h : Twos w0 g n L bw L w) : Calls Try.prog 19 #[.pointer (some ⟨g, 0, none⟩)] w fun e w' => ∃ b2, e = .returned (.slice (some ⟨b2, 0, none⟩) L.length L.length) ∧ Twos w0 g n L bw L w' ∧ RB w' 32 b2 L.length L := by
  obtain ⟨b, c, h⟩ := h
  refine (sruns_any h.st.sp).mono ?_
  rintro e w' ⟨b2, h1, h2, h3, h4⟩
  exact ⟨b2, h1, ⟨b, c, h.keep h4⟩, h2⟩
theorem tw_take_bad {w0 w : World} {g n bw : Nat} {M L : List Sp.Rn} (h : Twos w0 g n M bw L w) {k : Int} (hk : k < 1) : Calls Try.prog 10 #[.pointer (some ⟨g, 0, none⟩), .int .i64 k] w fun e w' => e = .returned (.tuple #[.int .i64 0, .int .i64 1]) ∧ Twos w0 g n M bw L w' := by
  obtain ⟨b, c, h⟩ := h
  refine (stake_any h.st.sp k).mono ?_
  rintro e w' (⟨h1, h2, h3⟩ | ⟨K', h1, h2, _⟩ | ⟨K', x', M', h1, h2, _⟩)
  · exact ⟨h2, b, c, h.keep h3⟩
  · omega
  · omega
theorem tw_take_full {w0 w : World} {g n bw : Nat} {M L : List Sp.Rn} (h : Twos w0 g n M bw L w) {K : Nat} (hK : 1 ≤ K) (hp : ∀ x, ¬ Sp.Place M K x) : Calls Try.prog 10 #[.pointer (some ⟨g, 0, none⟩), .int .i64 (K : Int)] w fun e w' => e = .returned (.tuple #[.int .i64 0, .int .i64 3]) ∧ Twos w0 g n M bw L w' := by
  obtain ⟨b, c, h⟩ := h
  refine (stake_any h.st.sp (K : Int)).mono ?_
  rintro e w' (⟨h1, h2, h3⟩ | ⟨K', h1, h2, h3, h4, h5⟩ | ⟨K', x', M', h1, h2, h3, _⟩)
  · omega
  · exact ⟨h4, b, c, h.keep h5⟩
  · obtain rfl : K = K' := by omega
    exact absurd h3 (hp x')
theorem tw_take {w0 w : World} {g n bw : Nat} {M L : List Sp.Rn} (h : Twos w0 g n M bw L w) {K x : Nat} (hK : 1 ≤ K) (hp : Sp.Place M K x) : Calls Try.prog 10 #[.pointer (some ⟨g, 0, none⟩), .int .i64 (K : Int)] w fun e w' => e = .returned (.tuple #[.int .i64 (x : Int), .int .i64 0]) ∧ ∃ M', Twos w0 g n M' bw L w' ∧ x + K ≤ n ∧ ∀ j, Sp.cov M' j + Sp.inr (x, K) j = Sp.cov M j := by
  obtain ⟨b, c, h⟩ := h
  refine (stake_any h.st.sp (K : Int)).mono ?_
  rintro e w' (⟨h1, h2, h3⟩ | ⟨K', h1, h2, h3, h4, h5⟩ | ⟨K', x', M', h1, h2, h3, h4, h5, h6, h7⟩)
  · omega
  · obtain rfl : K = K' := by omega
    exact absurd hp.here (h3 x)
  · obtain rfl : K = K' := by omega
    obtain rfl := Sp.place_uniq hp h3
    exact ⟨h5, M', Twos.after h h6, h4, h7⟩
theorem tw_give {w0 w : World} {g n bw : Nat} {M L : List Sp.Rn} (h : Twos w0 g n M bw L w) {K x : Nat} (hK : 1 ≤ K) (hn : x + K ≤ n) (hL : Sp.Norm n L) (hc : ∀ j, Sp.cov M j + Sp.inr (x, K) j = Sp.cov L j) :
    Calls Try.prog 14 #[.pointer (some ⟨g, 0, none⟩), .agg #[.int .i64 (x : Int), .int .i64 (K : Int)]] w fun e w' => e = .returned (.int .i64 0) ∧ Twos w0 g n L bw L w' := by
  obtain ⟨b, c, h⟩ := h
  have hn1 := h.st.sp.n1
  have hnf : Sp.NoneFree M x K := fun j h1 h2 => by
    have := hc j
    have := hL.cov_le j
    rw [Sp.inr_yes (r := (x, K)) ⟨h1, h2⟩] at *
    omega
  refine (sgive_any h.st.sp (x : Int) (K : Int) (by omega) (by omega)).mono ?_
  rintro e w' (⟨h1, _⟩ | ⟨X', K', h1, h2, h3, h4, (⟨h5, _⟩ | ⟨h5, h6, M', h7, h8⟩)⟩)
  · exact absurd (show Sp.Right n (x : Int) (K : Int) by unfold Sp.Right; omega) h1
  · obtain rfl : x = X' := by omega
    obtain rfl : K = K' := by omega
    exact absurd hnf h5
  · obtain rfl : x = X' := by omega
    obtain rfl : K = K' := by omega
    have h9 := Twos.after h h7
    obtain rfl : M' = L := Sp.Norm.uniq h9.norm hL (fun j => by rw [h8 j, hc j])
    exact ⟨h6, h9⟩
theorem tw_hold_not {w0 w : World} {g n bw : Nat} {M L : List Sp.Rn} (h : Twos w0 g n M bw L w) {K x : Nat} (hK : K ≤ 65536) (hx : x ≤ 65536) (hp : ¬ Sp.AllFree M x K) :
    Calls Try.prog 12 #[.pointer (some ⟨g, 0, none⟩), .agg #[.int .i64 (x : Int), .int .i64 (K : Int)]] w fun e w' => ∃ v : Int, e = .returned (.int .i64 v) ∧ v ≠ 0 ∧ Twos w0 g n M bw L w' := by
  obtain ⟨b, c, h⟩ := h
  refine (shold_any h.st.sp (x : Int) (K : Int) (by omega) (by omega)).mono ?_
  rintro e w' (⟨h1, h2, h3⟩ | ⟨X', K', h1, h2, h3, h4, (⟨h5, h6, h7⟩ | ⟨h5, h6⟩)⟩)
  · exact ⟨1, h2, by decide, b, c, h.keep h3⟩
  · exact ⟨5, h6, by decide, b, c, h.keep h7⟩
  · obtain rfl : x = X' := by omega
    obtain rfl : K = K' := by omega
    exact absurd h5 hp
theorem tw_hold {w0 w : World} {g n bw : Nat} {M L : List Sp.Rn} (h : Twos w0 g n M bw L w) {K x : Nat} (hK : 1 ≤ K) (hn : x + K ≤ n) (hp : Sp.AllFree M x K) :
    Calls Try.prog 12 #[.pointer (some ⟨g, 0, none⟩), .agg #[.int .i64 (x : Int), .int .i64 (K : Int)]] w fun e w' => e = .returned (.int .i64 0) ∧ Bw w0 w' := by
  obtain ⟨b, c, h⟩ := h
  have hn1 := h.st.sp.n1
  refine (shold_any h.st.sp (x : Int) (K : Int) (by omega) (by omega)).mono ?_
  rintro e w' (⟨h1, h2, h3⟩ | ⟨X', K', h1, h2, h3, h4, (⟨h5, h6, h7⟩ | ⟨h5, h6, M', h7, h8⟩)⟩)
  · exact absurd (show Sp.Right n (x : Int) (K : Int) by unfold Sp.Right; omega) h1
  · obtain rfl : x = X' := by omega
    obtain rfl : K = K' := by omega
    exact absurd hp h5
  · exact ⟨h6, (Twos.after h h7).bw⟩
/-- a space of some runs, and what is done to it -/
def Any16 (w0 : World) (g n : Nat) (w : World) : Prop := ∃ L, Sps w0 g n L w
theorem any_take {w0 w : World} {g n : Nat} (h : Any16 w0 g n w) (k : Int) : Calls Try.prog 10 #[.pointer (some ⟨g, 0, none⟩), .int .i64 k] w fun e w' => ∃ v, e = .returned v ∧ Any16 w0 g n w' := by
  obtain ⟨L, b, c, h⟩ := h
  refine (stake_any h.sp k).mono ?_
  rintro e w' (⟨h1, h2, h3⟩ | ⟨K', h1, h2, h3, h4, h5⟩ | ⟨K', x', M', h1, h2, h3, h4, h5, h6, h7⟩)
  · exact ⟨_, h2, L, b, c, h.keep h3⟩
  · exact ⟨_, h4, L, b, c, h.keep h5⟩
  · exact ⟨_, h5, M', Sps.after h h6⟩
theorem any_hold {w0 w : World} {g n : Nat} (h : Any16 w0 g n w) (x k : Int) (x0 : -9223372036854775808 ≤ x ∧ x < 9223372036854775808) (k0 : -9223372036854775808 ≤ k ∧ k < 9223372036854775808) : Calls Try.prog 12 #[.pointer (some ⟨g, 0, none⟩), .agg #[.int .i64 x, .int .i64 k]] w fun e w' => ∃ v, e = .returned v ∧ Any16 w0 g n w' := by
  obtain ⟨L, b, c, h⟩ := h
  refine (shold_any h.sp x k x0 k0).mono ?_
  rintro e w' (⟨h1, h2, h3⟩ | ⟨X', K', h1, h2, h3, h4, (⟨h5, h6, h7⟩ | ⟨h5, h6, M', h7, h8⟩)⟩)
  · exact ⟨_, h2, L, b, c, h.keep h3⟩
  · exact ⟨_, h6, L, b, c, h.keep h7⟩
  · exact ⟨_, h6, M', Sps.after h h7⟩
theorem any_give {w0 w : World} {g n : Nat} (h : Any16 w0 g n w) (x k : Int) (x0 : -9223372036854775808 ≤ x ∧ x < 9223372036854775808) (k0 : -9223372036854775808 ≤ k ∧ k < 9223372036854775808) : Calls Try.prog 14 #[.pointer (some ⟨g, 0, none⟩), .agg #[.int .i64 x, .int .i64 k]] w fun e w' => ∃ v, e = .returned v ∧ Any16 w0 g n w' := by
  obtain ⟨L, b, c, h⟩ := h
  refine (sgive_any h.sp x k x0 k0).mono ?_
  rintro e w' (⟨h1, h2, h3⟩ | ⟨X', K', h1, h2, h3, h4, (⟨h5, h6, h7⟩ | ⟨h5, h6, M', h7, h8⟩)⟩)
  · exact ⟨_, h2, L, b, c, h.keep h3⟩
  · exact ⟨_, h6, L, b, c, h.keep h7⟩
  · exact ⟨_, h6, M', Sps.after h h7⟩
end Go.Proofs.Ytfdfkhmaeeonpaa
