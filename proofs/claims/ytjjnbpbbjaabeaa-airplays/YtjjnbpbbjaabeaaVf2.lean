/- Layer 19: the play of both airs. -/
import Derived.Test.YtjjnbpbbjaabeaaVe2
namespace Go.Proofs.Ytjjnbpbbjaabeaa
open Go.RowKit Go.Deep
set_option linter.unusedVariables false
set_option linter.unusedSimpArgs false

theorem act_info (x0 x1 x2 x3 : Int) (v : Value) : (Try.prog.info? 37).map (·.size) = some (#[.int .i64 x0, .int .i64 x1, .int .i64 x2, .int .i64 x3, v] : Array Value).size := by kernel_rfl
/-- both airs, in new memory -/
def PlaysI (w wr : World) (ga gb : Nat) (S : Ai.St) : Prop := ∃ P R, AirAt wr P ga S ∧ RefAt wr R gb S ∧ (∀ b, P b → ¬ R b) ∧ (∀ b, P b → w.heap.size ≤ b) ∧ (∀ b, R b → w.heap.size ≤ b) ∧ Bw w wr
theorem PlaysI.bw {w wr : World} {ga gb : Nat} {S : Ai.St} (h : PlaysI w wr ga gb S) : Bw w wr := by obtain ⟨P, R, h1, h2, h3, h4, h5, h6⟩ := h; exact h6
theorem plays_both {w wr : World} {ga gb : Nat} {S : Ai.St} (h : PlaysI w wr ga gb S) {dd nn src dst : Int} {u : Value} {dl : List Nat} (hrow : RowV w u dl) (hs : In64 src) (ht : In64 dst) {k : Nat} (hm : S.m ≤ k) (hk : k ≤ 1000) :
    Calls Try.prog 11 #[.pointer (some ⟨ga, 0, none⟩), .pointer (some ⟨gb, 0, none⟩), .agg #[.int .i64 dd, .int .i64 nn, .int .i64 src, .int .i64 dst, u]] wr fun e w' => e = .returned (.bool true) ∧ ∃ S', Hid (PlaysI w w' ga gb S') ∧ Hid (S'.m ≤ k + 1) := by
  obtain ⟨P, R, h1, h2, h3, h4, h5, h6⟩ := h
  refine (both19_any h1 h2 h3 (hrow.keep h6) (hrow.low.mono (fun b hb => ⟨fun e => by have := h4 b e; omega, fun e => by have := h5 b e; omega⟩)) hs ht (by omega)).mono ?_
  rintro e w' ⟨rfl, S', ⟨P', R', q1, q2, q3, q4, q5, q6⟩, hm'⟩
  refine ⟨rfl, S', (⟨P', R', q1, q2, q3, fun b hb => ?_, fun b hb => ?_, ?_⟩ : PlaysI _ _ _ _ _), (by show _ ≤ _; omega)⟩
  · rcases q4 b hb with q | q
    · exact h4 b q
    · exact Nat.le_trans h6.size q
  · rcases q5 b hb with q | q
    · exact h5 b q
    · exact Nat.le_trans h6.size q
  · refine ⟨q6.os.trans h6.os, q6.tape.trans h6.tape, q6.output.trans h6.output, Nat.le_trans h6.size q6.size, fun b hb => ?_⟩
    rw [q6.block b (Nat.lt_of_lt_of_le hb h6.size) (fun e => by
      rcases e with e | e | e
      · have := h4 b e; omega
      · have := h5 b e; omega
      · exact e)]
    exact h6.block b hb
theorem plays_same {w wr : World} {ga gb : Nat} {S : Ai.St} (h : PlaysI w wr ga gb S) {k : Nat} (hm : S.m ≤ k) (hk : k ≤ 1000) :
    Calls Try.prog 12 #[.pointer (some ⟨ga, 0, none⟩), .pointer (some ⟨gb, 0, none⟩)] wr fun e w' => e = .returned (.bool true) ∧ Hid (PlaysI w w' ga gb S) := by
  obtain ⟨P, R, h1, h2, h3, h4, h5, h6⟩ := h
  refine (sameA_any h1 h2 (by have := h1.ok.few; omega) (by omega)).mono ?_
  rintro e w' ⟨rfl, hb⟩
  exact ⟨rfl, P, R, h1.keep hb, h2.keep hb, h3, h4, h5, h6.trans hb⟩
theorem plays_new (m : Nat) (h1 : 1 ≤ m) (h2 : m ≤ 64) (w : World) :
    Calls Try.prog 9 #[.int .i64 (m : Int)] w fun e w' => ∃ ga, e = .returned (.tuple #[.pointer (some ⟨ga, 0, none⟩), .int .i64 0]) ∧ Hid (Calls Try.prog 10 #[.int .i64 (m : Int)] w' fun e2 w2 => ∃ gb, e2 = .returned (.tuple #[.pointer (some ⟨gb, 0, none⟩), .int .i64 0]) ∧ Hid (PlaysI w w2 ga gb (Ai.new m))) := by
  refine (new_at m h1 h2 w).mono ?_
  rintro e w1 ⟨g, rfl, hA, hb⟩
  refine ⟨g, rfl, ?_⟩
  show Calls _ _ _ _ _
  refine (rnew_any (m : Int) w1).mono ?_
  rintro e w2 (⟨h, _⟩ | ⟨h, _⟩ | ⟨m', g2, e1, _, _, rfl, hR, hg, hb2⟩)
  · omega
  · omega
  · obtain rfl : m' = m := by omega
    have hl := hR.lt
    refine ⟨g2, rfl, Gr (fun _ => False) w w1, (fun b => w1.heap.size ≤ b ∧ b < w2.heap.size), hA.keep hb2, ⟨_, _, _, _, hR, fun b hb => ?_, fun r hr => (by cases hr), fun b hb => hb.2⟩, fun b hp hr => ?_, fun b hp => ?_, fun b hr => Nat.le_trans hb.size hr.1, hb.trans hb2⟩
    · rcases hb with rfl | hb | hb
      · exact ⟨hg, hl⟩
      · cases hb
      · cases hb
    · rcases hp with hp | hp
      · exact hp
      · have := hp.2; omega
    · rcases hp with hp | hp
      · exact hp.elim
      · exact hp.1
theorem new_bad (n : Int) (h : n < 1 ∨ 64 < n) : ∃ c : Int, ∀ w, (Calls Try.prog 9 #[.int .i64 n] w fun e w' => e = .returned (.tuple #[.pointer none, .int .i64 c]) ∧ w' = w) ∧ (Calls Try.prog 10 #[.int .i64 n] w fun e w' => e = .returned (.tuple #[.pointer none, .int .i64 c]) ∧ w' = w) := by
  rcases h with h | h
  · refine ⟨1, fun w => ⟨(new_any n w).mono ?_, (rnew_any n w).mono ?_⟩⟩
    · rintro e w' (⟨_, q1, q2⟩ | ⟨q, _⟩ | ⟨m', g, gm, e1, q, _⟩)
      · exact ⟨q1, q2⟩
      · omega
      · omega
    · rintro e w' (⟨_, q1, q2⟩ | ⟨q, _⟩ | ⟨m', g, e1, q, _⟩)
      · exact ⟨q1, q2⟩
      · omega
      · omega
  · refine ⟨2, fun w => ⟨(new_any n w).mono ?_, (rnew_any n w).mono ?_⟩⟩
    · rintro e w' (⟨q, _⟩ | ⟨_, q1, q2⟩ | ⟨m', g, gm, e1, _, q, _⟩)
      · omega
      · exact ⟨q1, q2⟩
      · omega
    · rintro e w' (⟨q, _⟩ | ⟨_, q1, q2⟩ | ⟨m', g, e1, _, q, _⟩)
      · omega
      · exact ⟨q1, q2⟩
      · omega
end Go.Proofs.Ytjjnbpbbjaabeaa
