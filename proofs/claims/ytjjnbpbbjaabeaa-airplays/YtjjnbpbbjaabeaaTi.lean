/- Layer 19: Carry; the contracts of calls that only read or take out, over an air all of whose blocks are in P. -/
import Derived.Test.YtjjnbpbbjaabeaaTh
namespace Go.Proofs.Ytjjnbpbbjaabeaa
open Go.RowKit Go.Deep
set_option linter.unusedVariables false
set_option linter.unusedSimpArgs false

/-- the datagram i, or none -/
def Ai.St.giv (S : Ai.St) (i : Int) : Ai.Dg := if S.has i = true then S.at i else Ai.zero
/-- what At and Carry answer -/
def Gave (w w' : World) (d : Ai.Dg) (b : Bool) (e : Ending) : Prop := ∃ v, e = .returned (.tuple #[.agg #[.int .i64 d.src, .int .i64 d.dst, v], .bool b]) ∧ RowV w' v d.b ∧ VIn (fun b => w.heap.size ≤ b) v
theorem Gave.from {w W w' : World} {d : Ai.Dg} {b : Bool} {e : Ending} (h : Gave W w' d b e) (k : Bw w W) : Gave w w' d b e := by
  obtain ⟨v, h1, h2, h3⟩ := h
  exact ⟨v, h1, h2, h3.mono (fun b hb => Nat.le_trans k.size hb)⟩
set_option maxRecDepth 100000 in
set_option maxHeartbeats 4000000 in
theorem carry_gen {w : World} (p : Option Addr) (i : Int) (d : Ai.Dg) (b c : Bool) (Q : Nat → Prop) (R : World → Prop) (hQ : ∀ x, Q x → x < w.heap.size)
    (HA : ∀ u, Bw w u → Calls Try.prog 13 #[.pointer p, .int .i64 i] u fun e w' => Gave u w' d b e ∧ Bw u w')
    (HL : ∀ u, Bw w u → Calls Try.prog 18 #[.pointer p, .int .i64 i] u fun e w' => e = .returned (.bool c) ∧ R w' ∧ Bx Q u w')
    (hR : ∀ u u', R u → Bx (fun x => w.heap.size ≤ x) u u' → R u') :
    Calls Try.prog 14 #[.pointer p, .int .i64 i] w fun e w' => Gave w w' d b e ∧ R w' ∧ Bx Q w w' := by
  obtain ⟨z, hz⟩ : ∃ z, Hid (w.heap.size = z) := ⟨_, rfl⟩
  obtain ⟨W1, hW1⟩ : ∃ W, Hid (w.alloc (.cells #[.int .i64 0, .int .i64 0, .slice none 0 0] 35) = W) := ⟨_, rfl⟩
  have kW : Bw w W1 := by rw [← hW1.out]; exact bw_allocx (Bw.refl _)
  have hD : DgAt W1 z 0 0 (.slice none 0 0) := by rw [← hW1.out, ← hz.out]; exact heap_alloc_new _ _
  have hs : z < W1.heap.size := (Array.getElem?_eq_some_iff.1 hD).1
  have HA1 : Hid (Calls Try.prog 13 #[.pointer p, .int .i64 i] W1 fun e w' => Gave W1 w' d b e ∧ Bw W1 w') := HA W1 kW
  have HL1 : Hid (∀ u, Bw w u → Calls Try.prog 18 #[.pointer p, .int .i64 i] u fun e w' => e = .returned (.bool c) ∧ R w' ∧ Bx Q u w') := HL
  have hQH : Hid (∀ x, Q x → x < w.heap.size) := hQ
  have hRH : Hid (∀ u u', R u → Bx (fun x => w.heap.size ≤ x) u u' → R u') := hR
  clear HA HL hQ hR
  -- the copy of it in a block of its own
  have HN : Hid (∀ w1 v, Bw W1 w1 → RowV w1 v d.b → VIn (fun b => W1.heap.size ≤ b) v → ∃ z2 W2 W3, Hid (w1.heap.size = z2) ∧ Hid (w1.alloc (.cells #[.int .i64 0, .int .i64 0, .slice none 0 0] 35) = W2) ∧ Hid (DgAt W2 z2 0 0 (.slice none 0 0)) ∧ Hid (W2.setRow z2 (dcs d.src d.dst v) = W3) ∧ Hid (v.oneCell' = true) ∧ Hid (Calls Try.prog 18 #[.pointer p, .int .i64 i] W3 fun e w' => e = .returned (.bool c) ∧ Hid (DgAt w' z 0 0 (.slice none 0 0) ∧ DgAt w' z2 d.src d.dst v ∧ Gave w (w'.setRow z (dcs d.src d.dst v)) d b (.returned (.tuple #[.agg #[.int .i64 d.src, .int .i64 d.dst, v], .bool b])) ∧ R (w'.setRow z (dcs d.src d.dst v)) ∧ Bx Q w (w'.setRow z (dcs d.src d.dst v))))) := fun w1 v k1 hr hv => by
    refine ⟨_, _, _, rfl, rfl, heap_alloc_new _ _, rfl, dg_oneCell hr, ?_⟩
    have kA : Bw w1 (w1.alloc (.cells #[.int .i64 0, .int .i64 0, .slice none 0 0] 35)) := bw_allocx (Bw.refl _)
    obtain ⟨W2, hW2⟩ : ∃ W, w1.alloc (.cells #[.int .i64 0, .int .i64 0, .slice none 0 0] 35) = W := ⟨_, rfl⟩
    have hD2 : DgAt W2 w1.heap.size 0 0 (.slice none 0 0) := by rw [← hW2]; exact heap_alloc_new _ _
    rw [hW2] at kA ⊢
    have kB : Bw w1 (W2.setRow w1.heap.size (dcs d.src d.dst v)) := bw_setRow kA (Nat.le_refl _) _
    have kT := (kW.trans k1).trans kB
    show Calls _ _ _ _ _
    refine (HL1.out _ kT).mono ?_
    rintro e w' ⟨rfl, hRw, hbx⟩
    refine ⟨rfl, (?_ : _ ∧ _)⟩
    have hz1 : (W2.setRow w1.heap.size (dcs d.src d.dst v)).heap[z]? = some (.cells (dcs 0 0 (.slice none 0 0)) 35 (0, 0)) := ((k1.trans kB).block z hs).trans hD
    have hzw : w.heap.size ≤ z := Nat.le_of_eq hz.out
    have h1 : DgAt w' z 0 0 (.slice none 0 0) := (hbx.block z (Array.getElem?_eq_some_iff.1 hz1).1 (fun hq => by have := hQH.out z hq; omega)).trans hz1
    have hz2 : DgAt (W2.setRow w1.heap.size (dcs d.src d.dst v)) w1.heap.size d.src d.dst v := setRow_heap _ _ _ _ _ _ hD2
    have hsz := (kW.trans k1).size
    have h2 : DgAt w' w1.heap.size d.src d.dst v := (hbx.block _ (Array.getElem?_eq_some_iff.1 hz2).1 (fun hq => by have := hQH.out _ hq; omega)).trans hz2
    have hX : Bx (fun x => x = z) w' (w'.setRow z (dcs d.src d.dst v)) := bx_setRow (S := (· = z)) (Bx.refl _ _) rfl _
    have hvz : VIn (fun b => ¬ b = z) v := hv.mono (fun b hb e => by omega)
    have hvq : VIn (fun b => ¬ Q b) v := hv.mono (fun b hb e => by have := hQH.out b e; have := kW.size; omega)
    refine ⟨h1, h2, ⟨v, rfl, ((hr.keep kB).keepx hbx hvq).keepx hX hvz, hv.mono (fun b hb => Nat.le_trans kW.size hb)⟩, hRH.out _ _ hRw (hX.more (fun b hb => by rw [hb]; exact hzw)), ?_⟩
    have hbx2 : Bx Q w w' := (Bx.of_bw kT).trans hbx
    exact ⟨hbx2.os, hbx2.tape, hbx2.output, by rw [size_setRow]; exact hbx2.size, fun b hb hn => (setRow_other w' z b _ (by omega)).trans (hbx2.block b hb hn)⟩
  clear hQH hRH HL1
  go_enter Try.func14, Try.ntmps14
  go_upto_region 1 with fail
  rw [hW1.out, hz.out]
  go_wp2_with (first
    | (go_at_call 13; refine HA1.out.mono ?_; rintro e w1 ⟨⟨v, rfl, hr1, hv1⟩, k1⟩; obtain ⟨z2, W2, W3, hz2, hW2, hD2, hW3, ho, HL2⟩ := HN.out w1 v k1 hr1 hv1)
    | (rw [hW2.out, hz2.out]; refine wpList_store_row rfl 35 _ _ rfl z2 (dcs d.src d.dst v) rfl rfl 35 _ hD2.out (dg_info _ _ _) rfl (dg_all _ _ ho.out).out ?_; rw [hW3.out])
    | (go_at_call 18; refine HL2.out.mono ?_; rintro e w4 ⟨rfl, hE⟩)
    | refine wpList_load_row rfl 35 _ rfl z2 rfl 35 (dcs d.src d.dst v) (0, 0) _ hE.out.2.1 Try.underlying35 rfl (dg_info _ _ _) ?_
    | refine wpList_store_row rfl 35 _ _ rfl z (dcs d.src d.dst v) rfl rfl 35 _ hE.out.1 (dg_info _ _ _) rfl (dg_all _ _ ho.out).out ?_)
  try simp only [Exit.inBlock, Exit.then]
  refine bodyPost_ret (results_row_tmp (p := 4) (u := 5) (by rfl) _ _ z 35 (dcs d.src d.dst v) (0, 0) _ (by rfl) (setRow_heap _ _ _ _ _ _ hE.out.1) Try.underlying35 rfl (dg_info _ _ _)) rfl ?_
  exact hE.out.2.2
end Go.Proofs.Ytjjnbpbbjaabeaa
