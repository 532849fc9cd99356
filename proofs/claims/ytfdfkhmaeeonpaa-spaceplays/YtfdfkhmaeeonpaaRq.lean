/- Layer 16: a space made since a world; wakes. -/
import Derived.Test.YtfdfkhmaeeonpaaRp
namespace Go.Proofs.Ytfdfkhmaeeonpaa
open Go.RowKit Go.Deep
set_option linter.unusedVariables false
set_option linter.unusedSimpArgs false

/-- a space that was made since -/
structure St (w0 w : World) (g n b c : Nat) (L : List Sp.Rn) : Prop where
  sp : SpAt w g n b c L
  gl : w0.heap.size ≤ g
  bl : w0.heap.size ≤ b
  bw : Bw w0 w
theorem St.keep {w0 w w' : World} {g n b c : Nat} {L : List Sp.Rn} (h : St w0 w g n b c L) (k : Bw w w') : St w0 w' g n b c L := ⟨h.sp.keep k, h.gl, h.bl, h.bw.trans k⟩
theorem St.after {w0 w w' : World} {g n b c : Nat} {L M : List Sp.Rn} (h : St w0 w g n b c L) (k : SpEnds g n b M w w') : ∃ b' c', St w0 w' g n b' c' M ∧ (b' = b ∨ w.heap.size ≤ b') ∧ Bx (fun y => y = g ∨ y = b) w w' := by
  obtain ⟨b', c', h1, h2, h3⟩ := k
  have hs := h.bw.size
  refine ⟨b', c', ⟨h1, h.gl, ?_, Below.trans h.bw (h3.below hs ?_)⟩, h2, h3⟩
  · rcases h2 with h2 | h2
    · rw [h2]; exact h.bl
    · omega
  · rintro y (rfl | rfl)
    · exact h.gl
    · exact h.bl
/-- it is there, somewhere -/
def Sps (w0 : World) (g n : Nat) (L : List Sp.Rn) (w : World) : Prop := ∃ b c, St w0 w g n b c L
theorem Sps.norm {w0 w : World} {g n : Nat} {L : List Sp.Rn} (h : Sps w0 g n L w) : Sp.Norm n L := by obtain ⟨b, c, h⟩ := h; exact h.sp.norm
theorem Sps.bw {w0 w : World} {g n : Nat} {L : List Sp.Rn} (h : Sps w0 g n L w) : Bw w0 w := by obtain ⟨b, c, h⟩ := h; exact h.bw
theorem Sps.keep {w0 w w' : World} {g n : Nat} {L : List Sp.Rn} (h : Sps w0 g n L w) (k : Bw w w') : Sps w0 g n L w' := by obtain ⟨b, c, h⟩ := h; exact ⟨b, c, h.keep k⟩
theorem Sps.after {w0 w w' : World} {g n b c : Nat} {L M : List Sp.Rn} (h : St w0 w g n b c L) (k : SpEnds g n b M w w') : Sps w0 g n M w' := by
  obtain ⟨b', c', h, _⟩ := h.after k
  exact ⟨b', c', h⟩
theorem sps_new {w w' : World} {g N b c : Nat} {L : List Sp.Rn} (h : SpAt w' g N b c L) (hg : w.heap.size ≤ g) (hb : w.heap.size ≤ b) (k : Bw w w') : Sps w g N L w' := ⟨b, c, h, hg, hb, k⟩
/-- Take, where it is known what it answers -/
theorem take_to {w0 w : World} {g n : Nat} {L M : List Sp.Rn} (h : Sps w0 g n L w) {K x : Nat} (hK : 1 ≤ K) (hp : Sp.Place L K x) (hM : Sp.Norm n M) (hc : ∀ j, Sp.cov M j + Sp.inr (x, K) j = Sp.cov L j) :
    Calls Try.prog 10 #[.pointer (some ⟨g, 0, none⟩), .int .i64 (K : Int)] w fun e w' => e = .returned (.tuple #[.int .i64 (x : Int), .int .i64 0]) ∧ Sps w0 g n M w' := by
  obtain ⟨b, c, h⟩ := h
  refine (stake_any h.sp (K : Int)).mono ?_
  rintro e w' (⟨h1, _⟩ | ⟨K', h1, _, h2, _⟩ | ⟨K', x', M', h1, h2, h3, h4, h5, h6, h7⟩)
  · omega
  · obtain rfl : K = K' := by omega
    exact absurd hp.here (h2 x)
  · obtain rfl : K = K' := by omega
    obtain rfl := Sp.place_uniq hp h3
    have h8 := Sps.after h h6
    obtain rfl : M' = M := Sp.Norm.uniq h8.norm hM (fun j => by have := h7 j; have := hc j; omega)
    exact ⟨h5, h8⟩
theorem give_to {w0 w : World} {g n : Nat} {L M : List Sp.Rn} (h : Sps w0 g n L w) {K x : Nat} (hK : 1 ≤ K) (hn : x + K ≤ n) (hp : Sp.NoneFree L x K) (hM : Sp.Norm n M) (hc : ∀ j, Sp.cov M j = Sp.cov L j + Sp.inr (x, K) j) :
    Calls Try.prog 14 #[.pointer (some ⟨g, 0, none⟩), .agg #[.int .i64 (x : Int), .int .i64 (K : Int)]] w fun e w' => e = .returned (.int .i64 0) ∧ Sps w0 g n M w' := by
  obtain ⟨b, c, h⟩ := h
  have hn1 := h.sp.n1
  refine (sgive_any h.sp (x : Int) (K : Int) (by omega) (by omega)).mono ?_
  rintro e w' (⟨h1, _⟩ | ⟨X', K', h1, h2, h3, h4, (⟨h5, _⟩ | ⟨h5, h6, M', h7, h8⟩)⟩)
  · exact absurd (show Sp.Right n (x : Int) (K : Int) by unfold Sp.Right; omega) h1
  · obtain rfl : x = X' := by omega
    obtain rfl : K = K' := by omega
    exact absurd hp h5
  · obtain rfl : x = X' := by omega
    obtain rfl : K = K' := by omega
    have h9 := Sps.after h h7
    obtain rfl : M' = M := Sp.Norm.uniq h9.norm hM (fun j => by rw [h8 j, hc j])
    exact ⟨h6, h9⟩
theorem hold_not {w0 w : World} {g n : Nat} {L : List Sp.Rn} (h : Sps w0 g n L w) {K x : Nat} (hK : 1 ≤ K) (hn : x + K ≤ n) (hp : ¬ Sp.AllFree L x K) :
    Calls Try.prog 12 #[.pointer (some ⟨g, 0, none⟩), .agg #[.int .i64 (x : Int), .int .i64 (K : Int)]] w fun e w' => e = .returned (.int .i64 5) ∧ Sps w0 g n L w' := by
  obtain ⟨b, c, h⟩ := h
  have hn1 := h.sp.n1
  refine (shold_any h.sp (x : Int) (K : Int) (by omega) (by omega)).mono ?_
  rintro e w' (⟨h1, _⟩ | ⟨X', K', h1, h2, h3, h4, (⟨h5, h6, h7⟩ | ⟨h5, h6⟩)⟩)
  · exact absurd (show Sp.Right n (x : Int) (K : Int) by unfold Sp.Right; omega) h1
  · exact ⟨h6, b, c, h.keep h7⟩
  · obtain rfl : x = X' := by omega
    obtain rfl : K = K' := by omega
    exact absurd h5 hp
theorem free_to {w0 w : World} {g n : Nat} {L : List Sp.Rn} (h : Sps w0 g n L w) : Calls Try.prog 16 #[.pointer (some ⟨g, 0, none⟩)] w fun e w' => e = .returned (.int .i64 (Sp.tot L : Int)) ∧ Sps w0 g n L w' := by
  obtain ⟨b, c, h⟩ := h
  refine (sfree_any h.sp).mono ?_
  rintro e w' ⟨h1, h2⟩
  exact ⟨h1, b, c, h.keep h2⟩
namespace Sp
theorem norm_one {n x k : Nat} (h1 : 1 ≤ k) (h2 : x + k ≤ n) : Norm n [(x, k)] := ⟨fun r hr => by simp at hr; subst hr; exact ⟨h1, h2⟩, List.pairwise_singleton _ _⟩
theorem norm_two {n x k y l : Nat} (h1 : 1 ≤ k) (h2 : x + k < y) (h3 : 1 ≤ l) (h4 : y + l ≤ n) : Norm n [(x, k), (y, l)] :=
  ⟨fun r hr => by simp at hr; rcases hr with rfl | rfl; exact ⟨h1, by show x + k ≤ n; omega⟩; exact ⟨h3, h4⟩, List.pairwise_cons.2 ⟨fun s hs => by simp at hs; subst hs; exact h2, List.pairwise_singleton _ _⟩⟩
theorem ten_new : wc [(0, 10)] = [(0, 10)] := rfl
end Sp
set_option maxRecDepth 100000 in
set_option maxHeartbeats 4000000 in
theorem wakes16_any (w : World) : Calls Try.prog 7 #[] w fun e w' => e = .returned (.bool true) ∧ Bw w w' := by
  have n0 : Sp.Norm 10 [(0, 10)] := Sp.norm_one (by omega) (by omega)
  have n1 : Sp.Norm 10 [(3, 7)] := Sp.norm_one (by omega) (by omega)
  have n2 : Sp.Norm 10 [(5, 5)] := Sp.norm_one (by omega) (by omega)
  have n3 : Sp.Norm 10 [(0, 3), (5, 5)] := Sp.norm_two (by omega) (by omega) (by omega) (by omega)
  have n4 : Sp.Norm 10 [(0, 3), (9, 1)] := Sp.norm_two (by omega) (by omega) (by omega) (by omega)
  have p0 : Sp.Place [(0, 10)] 3 0 := ⟨(Sp.allfree_in n0 (by omega)).2 ⟨_, List.mem_singleton.2 rfl, by decide, by decide⟩, fun y hy => by omega⟩
  have p1 : Sp.Place [(3, 7)] 2 3 := ⟨(Sp.allfree_in n1 (by omega)).2 ⟨_, List.mem_singleton.2 rfl, by decide, by decide⟩, fun y hy ha => by
    obtain ⟨r, hr, h1, h2⟩ := (Sp.allfree_in n1 (by omega)).1 ha
    simp at hr; subst hr; dsimp only at h1; omega⟩
  have p3 : Sp.Place [(0, 3), (5, 5)] 4 5 := ⟨(Sp.allfree_in n3 (by omega)).2 ⟨(5, 5), by simp, by decide, by decide⟩, fun y hy ha => by
    obtain ⟨r, hr, h1, h2⟩ := (Sp.allfree_in n3 (by omega)).1 ha
    simp at hr; rcases hr with rfl | rfl <;> dsimp only at h1 h2 <;> omega⟩
  have q2 : Sp.NoneFree [(5, 5)] 0 3 := (Sp.nonefree_meets n2 (by omega)).2 (fun r hr => by simp at hr; subst hr; dsimp only; omega)
  have q4 : ¬ Sp.AllFree [(0, 3), (9, 1)] 5 1 := fun ha => by
    obtain ⟨r, hr, h1, h2⟩ := (Sp.allfree_in n4 (by omega)).1 ha
    simp at hr; rcases hr with rfl | rfl <;> dsimp only at h1 h2 <;> omega
  have c1 : ∀ j, Sp.cov [(3, 7)] j + Sp.inr (0, 3) j = Sp.cov [(0, 10)] j := fun j => by simp only [Sp.cov, Sp.inr]; split <;> split <;> split <;> omega
  have c2 : ∀ j, Sp.cov [(5, 5)] j + Sp.inr (3, 2) j = Sp.cov [(3, 7)] j := fun j => by simp only [Sp.cov, Sp.inr]; split <;> split <;> split <;> omega
  have c3 : ∀ j, Sp.cov [(0, 3), (5, 5)] j = Sp.cov [(5, 5)] j + Sp.inr (0, 3) j := fun j => by simp only [Sp.cov, Sp.inr]; split <;> split <;> omega
  have c4 : ∀ j, Sp.cov [(0, 3), (9, 1)] j + Sp.inr (5, 4) j = Sp.cov [(0, 3), (5, 5)] j := fun j => by simp only [Sp.cov, Sp.inr]; split <;> split <;> split <;> split <;> omega
  have H0 : Hid (Calls Try.prog 8 #[.int .i64 10] w fun e w' => ∃ g, e = .returned (.tuple #[.pointer (some ⟨g, 0, none⟩), .int .i64 0]) ∧ Hid (Sps w g 10 [(0, 10)] w')) := by
    refine (snew_any 10 w).mono ?_
    rintro e w' (⟨h, _⟩ | ⟨h, _⟩ | ⟨N, g, b, c, h1, h2, h3, h4, h5, h6, h7⟩)
    · omega
    · omega
    · obtain rfl : N = 10 := by omega
      exact ⟨g, h3, sps_new h4 h5 h6 h7⟩
  have T1 : Hid (∀ g u, Sps w g 10 [(0, 10)] u → Calls Try.prog 10 #[.pointer (some ⟨g, 0, none⟩), .int .i64 3] u fun e w' => e = .returned (.tuple #[.int .i64 0, .int .i64 0]) ∧ Hid (Sps w g 10 [(3, 7)] w')) := fun g u h => take_to h (K := 3) (by omega) p0 n1 c1
  have T2 : Hid (∀ g u, Sps w g 10 [(3, 7)] u → Calls Try.prog 10 #[.pointer (some ⟨g, 0, none⟩), .int .i64 2] u fun e w' => e = .returned (.tuple #[.int .i64 3, .int .i64 0]) ∧ Hid (Sps w g 10 [(5, 5)] w')) := fun g u h => take_to h (K := 2) (by omega) p1 n2 c2
  have T3 : Hid (∀ g u, Sps w g 10 [(5, 5)] u → Calls Try.prog 14 #[.pointer (some ⟨g, 0, none⟩), .agg #[.int .i64 0, .int .i64 3]] u fun e w' => e = .returned (.int .i64 0) ∧ Hid (Sps w g 10 [(0, 3), (5, 5)] w')) := fun g u h => give_to h (K := 3) (x := 0) (by omega) (by omega) q2 n3 c3
  have T4 : Hid (∀ g u, Sps w g 10 [(0, 3), (5, 5)] u → Calls Try.prog 10 #[.pointer (some ⟨g, 0, none⟩), .int .i64 4] u fun e w' => e = .returned (.tuple #[.int .i64 5, .int .i64 0]) ∧ Hid (Sps w g 10 [(0, 3), (9, 1)] w')) := fun g u h => take_to h (K := 4) (by omega) p3 n4 c4
  have T5 : Hid (∀ g u, Sps w g 10 [(0, 3), (9, 1)] u → Calls Try.prog 16 #[.pointer (some ⟨g, 0, none⟩)] u fun e w' => e = .returned (.int .i64 4) ∧ Hid (Sps w g 10 [(0, 3), (9, 1)] w')) := fun g u h => free_to h
  have T6 : Hid (∀ g u, Sps w g 10 [(0, 3), (9, 1)] u → Calls Try.prog 12 #[.pointer (some ⟨g, 0, none⟩), .agg #[.int .i64 5, .int .i64 1]] u fun e w' => e = .returned (.int .i64 5) ∧ Hid (Sps w g 10 [(0, 3), (9, 1)] w')) := fun g u h => hold_not h (K := 1) (x := 5) (by omega) (by omega) q4
  have HB : Hid (∀ g u, Sps w g 10 [(0, 3), (9, 1)] u → Bw w u) := fun g u h => h.bw
  clear n0 n1 n2 n3 n4 p0 p1 p3 q2 q4 c1 c2 c3 c4
  have tok0 : Hid (w = w) := rfl
  go_enter Try.func7, Try.ntmps7
  go_wp2_with (first
    | (go_at_call 8; refine H0.out.mono ?_; rintro e w1 ⟨g, rfl, h1⟩; have tok1 : Hid (w = w) := rfl)
    | (go_at_call 10; clear tok1; refine (T1.out _ _ h1.out).mono ?_; rintro e w2 ⟨rfl, h2⟩; have tok2 : Hid (w = w) := rfl)
    | (go_at_call 10; clear tok2; refine (T2.out _ _ h2.out).mono ?_; rintro e w3 ⟨rfl, h3⟩; have tok3 : Hid (w = w) := rfl)
    | (go_at_call 14; refine (T3.out _ _ h3.out).mono ?_; rintro e w4 ⟨rfl, h4⟩)
    | (go_at_call 10; clear tok3; refine (T4.out _ _ h4.out).mono ?_; rintro e w5 ⟨rfl, h5⟩)
    | (go_at_call 16; refine (T5.out _ _ h5.out).mono ?_; rintro e w6 ⟨rfl, h6⟩)
    | (go_at_call 12; refine (T6.out _ _ h6.out).mono ?_; rintro e w7 ⟨rfl, h7⟩))
  go_ret
  exact ⟨rfl, HB.out _ _ h7.out⟩
end Go.Proofs.Ytfdfkhmaeeonpaa
