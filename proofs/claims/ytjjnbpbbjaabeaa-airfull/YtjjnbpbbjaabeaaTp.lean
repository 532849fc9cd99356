/- Layer 19: an air that is filled (for AirFull). -/
import Derived.Test.YtjjnbpbbjaabeaaTm
namespace Go.Proofs.Ytjjnbpbbjaabeaa
open Go.RowKit Go.Deep
set_option linter.unusedVariables false
set_option linter.unusedSimpArgs false

/-- an air beside a datagram in block z; so many under way, two parties, all ways whole -/
def FullAt (w W : World) (g z : Nat) (u : Value) (k : Nat) : Prop := ∃ P S, AirAt W P g S ∧ (∀ b, P b → w.heap.size ≤ b) ∧ Bw w W ∧ ¬ P z ∧ DgAt W z 1 0 u ∧ S.L.length = k ∧ S.n = 2 ∧ ∀ p q, S.cut p q = false
theorem FullAt.box {w W : World} {g z k : Nat} {u : Value} (h : FullAt w W g z u k) : DgAt W z 1 0 u := by obtain ⟨P, S, _, _, _, _, h, _⟩ := h; exact h
theorem FullAt.bw {w W : World} {g z k : Nat} {u : Value} (h : FullAt w W g z u k) : Bw w W := by obtain ⟨P, S, _, _, h, _⟩ := h; exact h
theorem full_new {w W W' : World} {g z : Nat} {u : Value} (h : AirAt W (Gr (fun _ => False) w W) g (Ai.new 2)) (k : Bw w W) (hz : W.heap.size = z) (kb : Bw W W') (hd : DgAt W' z 1 0 u) : FullAt w W' g z u 0 :=
  ⟨_, _, h.keep kb, fun b hb => by rcases hb with hb | hb; exact hb.elim; exact hb.1, k.trans kb, fun hb => by rcases hb with hb | hb; exact hb.elim; omega, hd, rfl, rfl, fun _ _ => rfl⟩
theorem FullAt.turn {w W W' : World} {P : Nat → Prop} {g z k : Nat} {u : Value} {S : Ai.St} (h2 : ∀ b, P b → w.heap.size ≤ b) (h3 : Bw w W) (h4 : ¬ P z) (h5 : DgAt W z 1 0 u) (hA : AirAt W' (Gr P W W') g S) (kx : Bx P W W') (e1 : S.L.length = k) (e2 : S.n = 2) (e3 : ∀ p q, S.cut p q = false) : FullAt w W' g z u k := by
  have hz := (Array.getElem?_eq_some_iff.1 h5).1
  refine ⟨_, S, hA, fun b hb => ?_, Below.trans h3 (kx.below h3.size h2), fun hb => ?_, (kx.block z hz h4).trans h5, e1, e2, e3⟩
  · rcases hb with hb | hb
    · exact h2 b hb
    · exact Nat.le_trans h3.size hb.1
  · rcases hb with hb | hb
    · exact h4 hb
    · omega
theorem full_fits {S : Ai.St} (e2 : S.n = 2) (l : List Nat) : S.fits ⟨1, 0, l⟩ = true := by
  unfold Ai.St.fits Ai.St.is
  rw [e2]; rfl
theorem full_send {w W : World} {g z k : Nat} {u : Value} {l : List Nat} (h : FullAt w W g z u k) (hu : RowV W u l) (hl : l.length ≤ 16) (hk : k < 4096) :
    Calls Try.prog 15 #[.pointer (some ⟨g, 0, none⟩), .agg #[.int .i64 1, .int .i64 0, u]] W fun e w' => e = .returned (.int .i64 0) ∧ Hid (FullAt w w' g z u (k + 1)) := by
  obtain ⟨P, S, h1, h2, h3, h4, h5, e1, e2, e3⟩ := h
  have hg : S.goes ⟨1, 0, l⟩ = true := by unfold Ai.St.goes; rw [full_fits e2, e3, decide_eq_true (show l.length ≤ 262144 by omega), decide_eq_true (by omega)]; rfl
  have hE : S.sendE ⟨1, 0, l⟩ = 0 := by unfold Ai.St.sendE; rw [full_fits e2, if_neg (by decide), if_neg (by show ¬ 262144 < l.length; omega), if_neg (by rw [e3]; decide), if_neg (by omega)]
  have hS : S.send ⟨1, 0, l⟩ = { S with L := S.L ++ [⟨1, 0, l⟩] } := by unfold Ai.St.send; rw [if_pos hg]
  refine (send_at h1 (d := ⟨1, 0, l⟩) (by unfold In64; dsimp only; omega) (by unfold In64; dsimp only; omega) hu).mono ?_
  rintro e w' ⟨rfl, k1, k2⟩
  rw [hS] at k1
  refine ⟨by rw [hE], FullAt.turn h2 h3 h4 h5 k1 k2 ?_ e2 e3⟩
  show (S.L ++ [_]).length = _
  rw [List.length_append, e1]; rfl
theorem full_send_no {w W : World} {g z : Nat} {u : Value} {l : List Nat} (h : FullAt w W g z u 4096) (hu : RowV W u l) (hl : l.length ≤ 16) :
    Calls Try.prog 15 #[.pointer (some ⟨g, 0, none⟩), .agg #[.int .i64 1, .int .i64 0, u]] W fun e w' => e = .returned (.int .i64 3) ∧ Hid (FullAt w w' g z u 4096) := by
  obtain ⟨P, S, h1, h2, h3, h4, h5, e1, e2, e3⟩ := h
  have hg : ¬ S.goes ⟨1, 0, l⟩ = true := by unfold Ai.St.goes; rw [decide_eq_false (show ¬ S.L.length < 4096 by omega), Bool.and_false]; decide
  have hE : S.sendE ⟨1, 0, l⟩ = 3 := by unfold Ai.St.sendE; rw [full_fits e2, if_neg (by decide), if_neg (by show ¬ 262144 < l.length; omega), if_neg (by rw [e3]; decide), if_pos (by omega)]
  have hS : S.send ⟨1, 0, l⟩ = S := by unfold Ai.St.send; rw [if_neg hg]
  refine (send_at h1 (d := ⟨1, 0, l⟩) (by unfold In64; dsimp only; omega) (by unfold In64; dsimp only; omega) hu).mono ?_
  rintro e w' ⟨rfl, k1, k2⟩
  rw [hS] at k1
  exact ⟨by rw [hE], FullAt.turn h2 h3 h4 h5 k1 k2 e1 e2 e3⟩
theorem full_dbl {w W : World} {g z k i : Nat} {u : Value} (h : FullAt w W g z u k) (hi : i < k) (hk : k < 4096) :
    Calls Try.prog 19 #[.pointer (some ⟨g, 0, none⟩), .int .i64 (i : Int)] W fun e w' => e = .returned (.bool true) ∧ Hid (FullAt w w' g z u (k + 1)) := by
  obtain ⟨P, S, h1, h2, h3, h4, h5, e1, e2, e3⟩ := h
  have hd : S.dbl (i : Int) = true := by unfold Ai.St.dbl; rw [Ai.has_of (by omega), decide_eq_true (by omega)]; rfl
  have hS : S.twice (i : Int) = { S with L := S.L ++ [S.at (i : Int)] } := by unfold Ai.St.twice; rw [if_pos hd]
  refine (twice_at h1 (i : Int)).mono ?_
  rintro e w' ⟨rfl, k1, k2⟩
  rw [hS] at k1
  refine ⟨by rw [hd], FullAt.turn h2 h3 h4 h5 k1 k2 ?_ e2 e3⟩
  show (S.L ++ [_]).length = _
  rw [List.length_append, e1]; rfl
theorem full_dbl_no {w W : World} {g z : Nat} {i : Int} {u : Value} (h : FullAt w W g z u 4096) :
    Calls Try.prog 19 #[.pointer (some ⟨g, 0, none⟩), .int .i64 i] W fun e w' => e = .returned (.bool false) ∧ Hid (FullAt w w' g z u 4096) := by
  obtain ⟨P, S, h1, h2, h3, h4, h5, e1, e2, e3⟩ := h
  have hd : S.dbl i = false := by unfold Ai.St.dbl; rw [decide_eq_false (by omega), Bool.and_false]
  have hS : S.twice i = S := by unfold Ai.St.twice; rw [if_neg (by rw [hd]; decide)]
  refine (twice_at h1 i).mono ?_
  rintro e w' ⟨rfl, k1, k2⟩
  rw [hS] at k1
  exact ⟨by rw [hd], FullAt.turn h2 h3 h4 h5 k1 k2 e1 e2 e3⟩
theorem full_lose {w W : World} {g z k i : Nat} {u : Value} (h : FullAt w W g z u (k + 1)) (hi : i < k + 1) :
    Calls Try.prog 18 #[.pointer (some ⟨g, 0, none⟩), .int .i64 (i : Int)] W fun e w' => e = .returned (.bool true) ∧ Hid (FullAt w w' g z u k) := by
  obtain ⟨P, S, h1, h2, h3, h4, h5, e1, e2, e3⟩ := h
  have hd : S.has (i : Int) = true := Ai.has_of (by omega)
  have hS : S.lose (i : Int) = { S with L := S.L.eraseIdx i } := by unfold Ai.St.lose; rw [if_pos hd, Int.toNat_natCast]
  refine (lose_at h1 (i : Int)).mono ?_
  rintro e w' ⟨rfl, k1, k2⟩
  rw [hS] at k1
  have hz := (Array.getElem?_eq_some_iff.1 h5).1
  refine ⟨by rw [hd], ⟨P, _, k1, h2, Below.trans h3 (k2.below h3.size h2), h4, (k2.block z hz h4).trans h5, ?_, e2, e3⟩⟩
  show (S.L.eraseIdx i).length = _
  rw [List.length_eraseIdx, if_pos (by omega), e1]; rfl
theorem full_count {w W : World} {g z k : Nat} {u : Value} (h : FullAt w W g z u k) :
    Calls Try.prog 16 #[.pointer (some ⟨g, 0, none⟩)] W fun e w' => e = .returned (.int .i64 (k : Int)) ∧ w' = W := by
  obtain ⟨P, S, h1, h2, h3, h4, h5, e1, e2, e3⟩ := h
  rw [← e1]
  exact count_at h1
end Go.Proofs.Ytjjnbpbbjaabeaa
