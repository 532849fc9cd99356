/- Layer 19: an air in memory; the program's small calls. -/
import Derived.Test.YtjjnbpbbjaabeaaTc
namespace Go.Proofs.Ytjjnbpbbjaabeaa
open Go.RowKit Go.Deep
set_option linter.unusedVariables false
set_option linter.unusedSimpArgs false

def acells (v : Value) (gm n : Nat) : Array Value := #[.int .i64 (n : Int), v, .map (some gm)]
/-- one of an air's own blocks -/
def aIn (g : Nat) (v : Value) (gm b : Nat) : Prop := b = g ∨ b = gm ∨ v.ownBlock = some b
/-- an air in block g, its datagrams at v, its map in block gm -/
structure AirX (w : World) (g : Nat) (v : Value) (gm : Nat) (E : List Raw) (S : Ai.St) : Prop where
  cells : w.heap[g]? = some (.cells (acells v gm S.n) 54 (0, 0))
  und : UndAt w v E
  dgs : DgsV w E S.L
  map : CutAt w gm S.m S.cut
  ok : S.Ok
  sep : EIn (fun b => ¬ aIn g v gm b) E
namespace AirX
variable {w w' : World} {g gm : Nat} {v : Value} {E : List Raw} {S : Ai.St}
theorem lt (h : AirX w g v gm E S) : g < w.heap.size := (Array.getElem?_eq_some_iff.1 h.cells).1
theorem len (h : AirX w g v gm E S) : E.length = S.L.length := h.dgs.1
theorem nev (h : AirX w g v gm E S) : v.ownBlock ≠ some g := fun e => by
  rcases h.und with ⟨rfl, _⟩ | ⟨b, c, rfl, ⟨cur, h1, _⟩⟩
  · cases e
  · have e' : b = g := by simpa [Value.ownBlock] using e
    have h2 := h.cells
    rw [← e', h1] at h2
    simp only [Option.some.injEq, Obj.cells.injEq] at h2
    exact absurd h2.2.1 (by decide)
theorem nem (h : AirX w g v gm E S) : g ≠ gm := fun e => by
  obtain ⟨es, c, h1⟩ := h.map.block
  have h2 := h.cells
  rw [e, h1] at h2
  cases h2
theorem nevm (h : AirX w g v gm E S) : v.ownBlock ≠ some gm := fun e => by
  obtain ⟨es, c, h0⟩ := h.map.block
  rcases h.und with ⟨rfl, _⟩ | ⟨b, c, rfl, ⟨cur, h1, _⟩⟩
  · cases e
  · have e' : b = gm := by simpa [Value.ownBlock] using e
    rw [e', h0] at h1
    cases h1
theorem keep (h : AirX w g v gm E S) (k : Bw w w') : AirX w' g v gm E S := ⟨(k.block g h.lt).trans h.cells, h.und.keep k, h.dgs.keep k, h.map.keep k, h.ok, h.sep⟩
theorem keepx {P : Nat → Prop} (h : AirX w g v gm E S) (k : Bx P w w') (h1 : ∀ b, aIn g v gm b → ¬ P b) (h2 : EIn (fun b => ¬ P b) E) : AirX w' g v gm E S :=
  ⟨(k.block g h.lt (h1 g (.inl rfl))).trans h.cells, h.und.keepx k (fun b hb => h1 b (.inr (.inr hb))), h.dgs.keepx k h2, h.map.keepx k (h1 gm (.inr (.inl rfl))), h.ok, h.sep⟩
theorem inlt (h : AirX w g v gm E S) : ∀ b, aIn g v gm b → b < w.heap.size := fun b hb => by
  rcases hb with rfl | rfl | hb
  · exact h.lt
  · exact h.map.lt
  · exact h.und.lt b hb
theorem c0 (h : AirX w g v gm E S) : w.cell? ⟨g, 0, none⟩ = some (.int .i64 (S.n : Int)) := cell_of_row w g 0 _ _ _ h.cells
theorem c1 (h : AirX w g v gm E S) : w.cell? ⟨g, 1, none⟩ = some v := cell_of_row w g 1 _ _ _ h.cells
theorem c2 (h : AirX w g v gm E S) : w.cell? ⟨g, 2, none⟩ = some (.map (some gm)) := cell_of_row w g 2 _ _ _ h.cells
theorem f1 (h : AirX w g v gm E S) : w.frozen? ⟨g, 1, none⟩ = false := frozen_of_row w g 1 _ _ h.cells
theorem form (h : AirX w g v gm E S) : ∃ A c, v = .slice A S.L.length c := by rw [← h.len]; exact h.und.form
end AirX
/-- an air all of whose blocks are in P -/
def AirAt (w : World) (P : Nat → Prop) (g : Nat) (S : Ai.St) : Prop := ∃ v gm E, AirX w g v gm E S ∧ (∀ b, aIn g v gm b → P b) ∧ EIn P E ∧ (∀ b, P b → b < w.heap.size)
namespace AirAt
variable {w w' : World} {P : Nat → Prop} {g : Nat} {S : Ai.St}
theorem keep (h : AirAt w P g S) (k : Bw w w') : AirAt w' P g S := by
  obtain ⟨v, gm, E, h1, h2, h3, h4⟩ := h
  exact ⟨v, gm, E, h1.keep k, h2, h3, fun b hb => Nat.lt_of_lt_of_le (h4 b hb) k.size⟩
theorem keepx {Q : Nat → Prop} (h : AirAt w P g S) (k : Bx Q w w') (hQ : ∀ b, P b → ¬ Q b) : AirAt w' P g S := by
  obtain ⟨v, gm, E, h1, h2, h3, h4⟩ := h
  exact ⟨v, gm, E, h1.keepx k (fun b hb => hQ b (h2 b hb)) (h3.mono hQ), h2, h3, fun b hb => Nat.lt_of_lt_of_le (h4 b hb) k.size⟩
theorem ok (h : AirAt w P g S) : S.Ok := by obtain ⟨v, gm, E, h1, _⟩ := h; exact h1.ok
theorem low (h : AirAt w P g S) : ∀ b, P b → b < w.heap.size := by obtain ⟨v, gm, E, _, _, _, h4⟩ := h; exact h4
theorem more {Q : Nat → Prop} (h : AirAt w P g S) (k : ∀ b, P b → Q b) (kl : ∀ b, Q b → b < w.heap.size) : AirAt w Q g S := by
  obtain ⟨v, gm, E, h1, h2, h3, h4⟩ := h
  exact ⟨v, gm, E, h1, fun b hb => k b (h2 b hb), h3.mono k, kl⟩
theorem self (h : AirAt w P g S) : P g := by obtain ⟨v, gm, E, _, h2, _⟩ := h; exact h2 g (.inl rfl)
end AirAt

set_option maxRecDepth 100000 in
theorem party_any {w : World} {g : Nat} {v : Value} {gm : Nat} {E : List Raw} {S : Ai.St} (h : AirX w g v gm E S) (p : Int) :
    Calls Try.prog 35 #[.pointer (some ⟨g, 0, none⟩), .int .i64 p] w fun e w' => e = .returned (.bool (S.is p)) ∧ w' = w := by
  have c := h.c0
  unfold Ai.St.is
  obtain ⟨n, hn⟩ : ∃ n, S.n = n := ⟨_, rfl⟩
  rw [hn] at c ⊢
  clear h hn
  by_cases h0 : (0 : Int) ≤ p
  · have d0 : decide ((0 : Int) ≤ p) = true := decide_eq_true h0
    rw [d0]
    go_enter Try.func35, Try.ntmps35
    go_wp2
    go_ret
    exact ⟨rfl, rfl⟩
  · have d0 : decide ((0 : Int) ≤ p) = false := decide_eq_false h0
    rw [d0]
    go_enter Try.func35, Try.ntmps35
    go_wp2
    go_ret
    exact ⟨rfl, rfl⟩
set_option maxRecDepth 100000 in
theorem has_any {w : World} {g : Nat} {v : Value} {gm : Nat} {E : List Raw} {S : Ai.St} (h : AirX w g v gm E S) (i : Int) :
    Calls Try.prog 33 #[.pointer (some ⟨g, 0, none⟩), .int .i64 i] w fun e w' => e = .returned (.bool (S.has i)) ∧ w' = w := by
  have c := h.c1
  obtain ⟨A, cap, rfl⟩ := h.form
  unfold Ai.St.has
  obtain ⟨n, hn⟩ : ∃ n, S.L.length = n := ⟨_, rfl⟩
  rw [hn] at c ⊢
  clear h hn
  by_cases h0 : (0 : Int) ≤ i
  · have d0 : decide ((0 : Int) ≤ i) = true := decide_eq_true h0
    rw [d0]
    go_enter Try.func33, Try.ntmps33
    go_wp2
    go_ret
    exact ⟨rfl, rfl⟩
  · have d0 : decide ((0 : Int) ≤ i) = false := decide_eq_false h0
    rw [d0]
    go_enter Try.func33, Try.ntmps33
    go_wp2
    go_ret
    exact ⟨rfl, rfl⟩
theorem has_nil (i : Int) (w : World) : Calls Try.prog 33 #[.pointer none, .int .i64 i] w fun e w' => e = .returned (.bool false) ∧ w' = w := by
  go_enter Try.func33, Try.ntmps33
  go_wp2
  go_ret
  exact ⟨rfl, rfl⟩
theorem count_nil (w : World) : Calls Try.prog 16 #[.pointer none] w fun e w' => e = .returned (.int .i64 0) ∧ w' = w := by
  go_enter Try.func16, Try.ntmps16
  go_wp2
  go_ret
  exact ⟨rfl, rfl⟩
theorem count_any {w : World} {g : Nat} {v : Value} {gm : Nat} {E : List Raw} {S : Ai.St} (h : AirX w g v gm E S) :
    Calls Try.prog 16 #[.pointer (some ⟨g, 0, none⟩)] w fun e w' => e = .returned (.int .i64 (S.L.length : Int)) ∧ w' = w := by
  have c := h.c1
  obtain ⟨A, cap, rfl⟩ := h.form
  obtain ⟨n, hn⟩ : ∃ n, S.L.length = n := ⟨_, rfl⟩
  rw [hn] at c ⊢
  clear h hn
  go_enter Try.func16, Try.ntmps16
  go_wp2
  go_ret
  exact ⟨rfl, rfl⟩
theorem is_nil (p q : Int) (w : World) : Calls Try.prog 22 #[.pointer none, .int .i64 p, .int .i64 q] w fun e w' => e = .returned (.bool false) ∧ w' = w := by
  go_enter Try.func22, Try.ntmps22
  go_wp2
  go_ret
  exact ⟨rfl, rfl⟩
theorem cut_nil (p q : Int) (b : Bool) (w : World) : Calls Try.prog 21 #[.pointer none, .int .i64 p, .int .i64 q, .bool b] w fun e w' => e = .returned (.int .i64 8) ∧ w' = w := by
  go_enter Try.func21, Try.ntmps21
  go_wp2
  go_ret
  exact ⟨rfl, rfl⟩
theorem send_nil (p q : Int) (v : Value) (w : World) : Calls Try.prog 15 #[.pointer none, .agg #[.int .i64 p, .int .i64 q, v]] w fun e w' => e = .returned (.int .i64 8) ∧ Bw w w' := by
  go_enter Try.func15, Try.ntmps15
  go_wp2
  go_ret
  exact ⟨rfl, bw_allocx (Bw.refl _)⟩
theorem hold_nil (i : Int) (w : World) : Calls Try.prog 20 #[.pointer none, .int .i64 i] w fun e w' => e = .returned (.bool false) ∧ w' = w := by
  go_enter Try.func20, Try.ntmps20
  go_wp2_with (go_at_call 33; refine (has_nil _ _).mono ?_; rintro e w1 ⟨rfl, hw⟩; subst w1)
  go_ret
  exact ⟨rfl, rfl⟩
theorem lose_nil (i : Int) (w : World) : Calls Try.prog 18 #[.pointer none, .int .i64 i] w fun e w' => e = .returned (.bool false) ∧ w' = w := by
  go_enter Try.func18, Try.ntmps18
  go_wp2_with (go_at_call 20; refine (hold_nil _ _).mono ?_; rintro e w1 ⟨rfl, hw⟩; subst w1)
  go_ret
  exact ⟨rfl, rfl⟩
theorem dbl_nil (i : Int) (w : World) : Calls Try.prog 19 #[.pointer none, .int .i64 i] w fun e w' => e = .returned (.bool false) ∧ w' = w := by
  go_enter Try.func19, Try.ntmps19
  go_wp2_with (go_at_call 33; refine (has_nil _ _).mono ?_; rintro e w1 ⟨rfl, hw⟩; subst w1)
  go_ret
  exact ⟨rfl, rfl⟩
end Go.Proofs.Ytjjnbpbbjaabeaa
