/- Layer 19: Lose, Carry. -/
import Derived.Test.YtjjnbpbbjaabeaaTg
namespace Go.Proofs.Ytjjnbpbbjaabeaa
open Go.RowKit Go.Deep
set_option linter.unusedVariables false
set_option linter.unusedSimpArgs false

set_option maxRecDepth 100000 in
theorem lose_no {w : World} (p : Option Addr) (i : Int) (HH : Calls Try.prog 33 #[.pointer p, .int .i64 i] w fun e w' => e = .returned (.bool false) ∧ w' = w) :
    Calls Try.prog 18 #[.pointer p, .int .i64 i] w fun e w' => e = .returned (.bool false) ∧ w' = w := by
  have H1 : Hid (Calls Try.prog 20 #[.pointer p, .int .i64 i] w fun e w' => e = .returned (.bool false) ∧ w' = w) := hold_no p i HH
  clear HH
  go_enter Try.func18, Try.ntmps18
  go_wp2_with (go_at_call 20; refine H1.out.mono ?_; rintro e w1 ⟨rfl, hw⟩; subst w1)
  go_ret
  exact ⟨rfl, rfl⟩
/-- how Lose ends -/
def LoseEnds (w : World) (g : Nat) (v : Value) (gm : Nat) (E : List Raw) (S : Ai.St) (w' : World) : Prop := ∃ E' v', AirX w' g v' gm E' S ∧ v'.ownBlock = v.ownBlock ∧ (∀ Q : Nat → Prop, EIn Q E → EIn Q E') ∧ Bx (fun b => b = g ∨ v.ownBlock = some b) w w'
set_option maxRecDepth 100000 in
set_option maxHeartbeats 4000000 in
theorem lose_yes {w : World} {g : Nat} {v : Value} {gm : Nat} {E : List Raw} {S : Ai.St} (h : AirX w g v gm E S) {k : Nat} (hk : k < S.L.length) :
    Calls Try.prog 18 #[.pointer (some ⟨g, 0, none⟩), .int .i64 (k : Int)] w fun e w' => e = .returned (.bool true) ∧ LoseEnds w g v gm E (S.lose (k : Int)) w' := by
  have hlose : S.lose (k : Int) = { S with L := S.L.eraseIdx k } := by unfold Ai.St.lose; rw [if_pos (Ai.has_of hk), Int.toNat_natCast]
  have hok : ({ S with L := S.L.eraseIdx k } : Ai.St).Ok := by rw [← hlose]; exact Ai.lose_ok h.ok _
  rw [hlose]
  obtain ⟨ub, uc, rfl, hB0⟩ := h.und.pos (by rw [h.len]; omega)
  obtain ⟨q, hq⟩ : ∃ q, S.L.length = q + 1 := ⟨S.L.length - 1, by omega⟩
  have hn : E.length = q + 1 := by rw [h.len, hq]
  have hhold : S.hold (k : Int) = { S with L := S.L.eraseIdx k ++ [S.at (k : Int)] } := by unfold Ai.St.hold; rw [if_pos (Ai.has_of hk), Int.toNat_natCast]
  have hle : (S.L.eraseIdx k).length = q := by rw [List.length_eraseIdx, if_pos hk, hq]; rfl
  have HY : Hid (Calls Try.prog 20 #[.pointer (some ⟨g, 0, none⟩), .int .i64 (k : Int)] w fun e w' => ∃ E', e = .returned (.bool true) ∧ AirX w' g (.slice (some ⟨ub, 0, none⟩) E.length uc) gm E' (S.hold (k : Int)) ∧ (∀ Q : Nat → Prop, EIn Q E → EIn Q E') ∧ Bx (fun b => (Value.slice (some ⟨ub, 0, none⟩) E.length uc).ownBlock = some b) w w') := hold_yes h hk
  have hcu : Hid (q < uc ∧ uc ≤ maxLen) := ⟨by have := hB0.le; omega, hB0.cap⟩
  have hgu : g ≠ ub := fun e => h.nev (by rw [e]; rfl)
  have HF : Hid (∀ w1 E1, AirX w1 g (.slice (some ⟨ub, 0, none⟩) E.length uc) gm E1 (S.hold (k : Int)) → (∀ Q : Nat → Prop, EIn Q E → EIn Q E1) → Bx (fun b => (Value.slice (some ⟨ub, 0, none⟩) E.length uc).ownBlock = some b) w w1 →
      w1.cell? ⟨g, 1, none⟩ = some (.slice (some ⟨ub, 0, none⟩) (q + 1) uc) ∧ Hid (w1.there ub (q * 3) 3) ∧
      (w1.setCells ub (q * 3) Raw.zero.cells).cell? ⟨g, 1, none⟩ = some (.slice (some ⟨ub, 0, none⟩) (q + 1) uc) ∧ (w1.setCells ub (q * 3) Raw.zero.cells).frozen? ⟨g, 1, none⟩ = false ∧
      Hid (LoseEnds w g (.slice (some ⟨ub, 0, none⟩) E.length uc) gm E { S with L := S.L.eraseIdx k } ((w1.setCells ub (q * 3) Raw.zero.cells).setCell ⟨g, 1, none⟩ (.slice (some ⟨ub, 0, none⟩) q uc)))) := fun w1 E1 hA hQ hbx => by
    have c1 := hA.c1
    rw [hn] at c1
    have hE1 : E1.length = q + 1 := by rw [hA.len, hhold]; show (S.L.eraseIdx k ++ [_]).length = _; rw [List.length_append, hle]; rfl
    have hB : DB w1 ub uc E1 := by
      rcases hA.und with ⟨e, _⟩ | ⟨b, c, e, hB⟩
      · cases e
      · simp only [Value.slice.injEq, Option.some.injEq, Addr.mk.injEq, and_true] at e
        rw [e.1, e.2.2]; exact hB
    obtain ⟨hB2, hX2⟩ := hB.put (i := q) (by omega) Raw.zero
    have c2 : (w1.setCells ub (q * 3) Raw.zero.cells).heap[g]? = some (.cells (acells (.slice (some ⟨ub, 0, none⟩) E.length uc) gm S.n) 54 (0, 0)) := by
      rw [hX2.block g hA.lt (fun e => hgu e), hA.cells, hhold]
    have d1 : (w1.setCells ub (q * 3) Raw.zero.cells).cell? ⟨g, 1, none⟩ = some (.slice (some ⟨ub, 0, none⟩) (q + 1) uc) := by rw [← hn]; exact cell_of_row _ g 1 _ _ _ c2
    refine ⟨c1, hB.there (by omega), d1, frozen_of_row _ g 1 _ _ c2, ?_⟩
    have hB3 := hB2.take q
    rw [List.take_set_of_le (Nat.le_refl _)] at hB3
    have hX3 : Bx (· = g) (w1.setCells ub (q * 3) Raw.zero.cells) ((w1.setCells ub (q * 3) Raw.zero.cells).setCell ⟨g, 1, none⟩ (.slice (some ⟨ub, 0, none⟩) q uc)) := (Bx.refl _ _).put rfl
    have hX : Bx (fun b => b = g ∨ b = ub) w1 ((w1.setCells ub (q * 3) Raw.zero.cells).setCell ⟨g, 1, none⟩ (.slice (some ⟨ub, 0, none⟩) q uc)) := (hX2.more (fun b hb => .inr hb)).trans (hX3.more (fun b hb => .inl hb))
    have hQt : ∀ Q : Nat → Prop, EIn Q E → EIn Q (E1.take q) := fun Q hE r hr => hQ Q hE r (List.mem_of_mem_take hr)
    have hd : DgsV w1 (E1.take q) (S.L.eraseIdx k) := by
      have h1 := hA.dgs.take q
      rw [hhold] at h1
      have e : (S.L.eraseIdx k ++ [S.at (k : Int)]).take q = S.L.eraseIdx k := by rw [← hle, List.take_left']; rfl
      dsimp only at h1
      rw [e] at h1; exact h1
    have hsep : EIn (fun b => ¬ aIn g (.slice (some ⟨ub, 0, none⟩) E.length uc) gm b) (E1.take q) := fun r hr => hA.sep r (List.mem_of_mem_take hr)
    have hl : (E1.take q).length = q := by rw [List.length_take]; omega
    refine ⟨E1.take q, .slice (some ⟨ub, 0, none⟩) q uc, ⟨?_, .inr ⟨ub, uc, by rw [hl], hB3.keepx hX3 (fun e => hgu e.symm)⟩, hd.keepx hX (hsep.mono (fun b hb e => hb (e.imp id (fun e2 => .inr (by rw [e2]; rfl))))), ?_, hok, hsep⟩, rfl, hQt, ?_⟩
    · exact heap_setCell_same _ g 1 _ _ _ c2
    · have hm := hA.map
      rw [hhold] at hm
      exact hm.keepx hX (fun e => e.elim (fun e => hA.nem e.symm) (fun e => hA.nevm (by rw [e]; rfl)))
    · exact (hbx.more (fun b hb => .inr hb)).trans (hX.more (fun b hb => hb.imp id (fun e => by rw [e]; rfl)))
  have q0 : (0 : Int) ≤ (q : Int) := by omega
  have q1 : (q : Int) < ((q + 1 : Nat) : Int) := by omega
  have q4 : (q : Int) ≤ 4096 := by have := h.ok.few; omega
  have q2 : q ≤ uc := by have := hcu.out.1; omega
  have q3 : (q : Int) ≤ (uc : Int) := by omega
  clear h hk hlose hok hB0 hq hn hhold hle
  go_enter Try.func18, Try.ntmps18
  go_wp2_with (first
    | (go_at_call 20; refine HY.out.mono ?_; rintro e w1 ⟨E1, rfl, hA, hQ, hbx⟩; obtain ⟨c1, ht, c2, f2, hE⟩ := HF.out w1 E1 hA hQ hbx; clear hA hQ hbx)
    | refine wpList_store_mid rfl 35 _ _ rfl ub (q * 3) Raw.zero.cells.toArray (by rfl) (by rfl) ht.out (dg_info _ _ _) (dg_all _ _ rfl).out ?_)
  go_ret
  exact ⟨rfl, hE.out⟩
end Go.Proofs.Ytjjnbpbbjaabeaa
