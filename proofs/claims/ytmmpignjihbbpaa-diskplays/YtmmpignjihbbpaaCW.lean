/- Layer 14: what a small disk does (the statements' own 'wakes'). -/
import Derived.Test.YtmmpignjihbbpaaCR
import Derived.Great.BuildSlice
namespace Go.Proofs.Ytmmpignjihbbpaa
open Go.RowKit Go.Deep Go.Maps
set_option linter.unusedVariables false
set_option linter.unusedSimpArgs false

/-- the bytes that it is given -/
def wkB (i : Nat) : Int := if i = 9 then 8 else if i = 0 then 7 else 0
theorem wkB_bd (i : Nat) : 0 ≤ wkB i ∧ wkB i < 256 := by unfold wkB; split; decide; split <;> decide
def wk1 : Dsk := (Dsk.new 4).burnt.put 1 1 wkB
def wk2 : Dsk := wk1.again (fun _ => 9) 1
theorem wk1_cnt : Dsk.cnt wk1.is wk1.n = 1 := by decide
theorem wk1_9 : wk1.read (64 * 1 + 9) = 8 := by decide
theorem wk2_0 : wk2.read (64 * 1 + 0) = 7 := by decide
theorem wk2_9 : wk2.read (64 * 1 + 9) = 0 := by decide
theorem wkM {M : Array Value} (hM : M.size = 64) (h : ∀ i, i < 64 → M[i]? = some (.int .u8 0)) : ∀ i, i < 64 → ((M.setIfInBounds 0 (.int .u8 7)).setIfInBounds 9 (.int .u8 8))[i]? = some (.int .u8 (wkB i)) := fun i hi => by
  unfold wkB
  by_cases h9 : i = 9
  · subst h9; rw [Array.getElem?_setIfInBounds_self_of_lt (by simp; omega)]; rfl
  · rw [Array.getElem?_setIfInBounds_ne (Ne.symm h9), if_neg h9]
    by_cases h0 : i = 0
    · subst h0; rw [Array.getElem?_setIfInBounds_self_of_lt (by omega)]; rfl
    · rw [Array.getElem?_setIfInBounds_ne (Ne.symm h0), if_neg h0, h i hi]
theorem ints_new (W : World) (v : Int) (hv : -9223372036854775808 ≤ v ∧ v ≤ 9223372036854775807) (t : TypeId) : IntsAt (W.alloc (.cells #[.int .i64 v] t)) (some ⟨W.heap.size, 0, none⟩) 1 (fun _ => v) :=
  ⟨Or.inr ⟨W.heap.size, 0, rfl, fun i hi => by rw [Nat.zero_add, World.cell?_alloc_at _ t _ i rfl]; obtain rfl : i = 0 := (by omega); rfl⟩, fun _ => hv⟩
set_option maxRecDepth 100000 in
set_option maxHeartbeats 4000000 in
theorem wakes14_any (w : World) : Calls Try.prog 9 #[] w fun e w' => e = .returned (.bool true) ∧ Bw w w' := by
  obtain ⟨M, hM, hM0, hmk⟩ := made_bytes 64 (by omega)
  replace hmk : ∀ w, (Instr.makeSlice 33 (.int .i64 64) (.int .i64 64)).run Try.prog w = .ok (.slice (some ⟨w.heap.size, 0, none⟩) 64 64) (w.alloc (.cells M 5)) := hmk
  have m0 := hM0 0 (by omega)
  have m9 := hM0 9 (by omega)
  have hM2 := wkM hM hM0
  obtain ⟨M2, HM2⟩ : ∃ M2, Hid ((M.setIfInBounds 0 (.int .u8 7)).setIfInBounds 9 (.int .u8 8) = M2) := ⟨_, rfl⟩
  rw [HM2.out] at hM2
  have HM : Hid (∀ i, i < 64 → M2[i]? = some (.int .u8 (wkB i))) := hM2
  have HN := new_ok 4 (by omega) (by omega) w
  have HZ : Hid (∀ W, Calls Try.prog 10 #[.int .i64 0] W fun e w' => e = .returned (.tuple #[.pointer none, .int .i64 1]) ∧ w' = W) := fun W => by
    have := new_no 0 (by omega) (by omega) (by omega) W
    simpa using this
  clear hM0 hM2
  have hc0 := wk1_cnt
  have tok1 : Hid (w = w) := rfl
  go_enter Try.func9, Try.ntmps9
  go_wp2_with (first
    | (clear tok1; go_at_call 10; refine HN.mono ?_; rintro e w1 ⟨g, lb, gm, rfl, hd1, hge, hb1⟩; clear HN; have tok2 : Hid (w = w) := rfl)
    | (clear tok2; go_at_call 22; rw [HM2.out]; have hbw0 : Bw w1 (w1.alloc (.cells M2 5)) := Below.alloc (Bw.refl _) (Nat.le_refl _) _; refine (write_ok (hd1.keep hbw0) 1 64 (some ⟨w1.heap.size, 0, none⟩) 64 wkB 1 rfl (by decide) rfl (by decide) (row_new w1 M2 5 64 wkB wkB_bd HM.out) (fun b o e _ hin => by cases e; exact absurd (hd1.low _ hin) (Nat.lt_irrefl _)) (Nat.le_refl _)).mono ?_; rintro e w2 ⟨rfl, hd2, hx2⟩; replace hd2 : DiskAt w2 g lb gm wk1 := hd2; have hb2 : Bw w w2 := Below.trans (hb1.trans hbw0) (hx2.below (hb1.trans hbw0).size hge); clear hx2 hbw0 hb1 hd1; have tok3 : Hid (w = w) := rfl)
    | (clear tok3; go_at_call 14; refine (waiting_any hd2).mono ?_; rintro e w3 ⟨rfl, hw⟩; obtain rfl := hw.symm; rw [wk1_cnt]; have tok4 : Hid (w = w) := rfl)
    | (clear tok4; go_at_call 21; refine (read_ok hd2 1 1 rfl (by decide)).mono ?_; rintro e w3 ⟨z3, rfl, hz3, hB3, hb3⟩; have hl2 : Hid (∀ b, dIn g lb gm b → b < w2.heap.size) := hd2.low; replace hd2 := hd2.keep hb3; have tok5 : Hid (w = w) := rfl)
    | (clear tok5; go_at_call 17; have hbw0 : Bw w3 (w3.alloc (.cells #[.int .i64 9] 3)) := Below.alloc (Bw.refl _) (Nat.le_refl _) _; refine (restart_any (hd2.keep hbw0) (some ⟨w3.heap.size, 0, none⟩) 1 1 (fun _ => 9) (by decide) (ints_new w3 9 (by decide) 3) (fun b o e _ hin => by cases e; exact absurd (hd2.low _ hin) (Nat.lt_irrefl _))).mono ?_; rintro e w4 ⟨rfl, hd4, hx4⟩; replace hd4 : DiskAt w4 g lb gm wk2 := hd4; have hb4 : Bw w w4 := Below.trans ((hb2.trans hb3).trans hbw0) (hx4.below ((hb2.trans hb3).trans hbw0).size hge); replace hB3 : BlockIs w4 z3 64 (fun i => wk1.read (64 * 1 + i)) := (BlkT.keepx (t := 5) (hB3.keep hbw0) hx4 (fun hin => absurd (hl2.out _ hin) (Nat.not_lt.2 hz3))); clear hx4 hbw0 hb3 hd2; have tok6 : Hid (w = w) := rfl)
    | (clear tok6; go_at_call 21; refine (read_ok hd4 1 1 rfl (by decide)).mono ?_; rintro e w5 ⟨z5, rfl, hz5, hB5, hb5⟩; have hd5 := hd4.keep hb5; have hb5' := hb4.trans hb5; have x9 := ((hB3.keep hb5).cell (c := 9) (by omega)).1; have y0 := (hB5.cell (c := 0) (by omega)).1; have y9 := (hB5.cell (c := 9) (by omega)).1; rw [wk1_9] at x9; rw [wk2_0] at y0; rw [wk2_9] at y9; clear hB3 hB5 hb4 hb5 hd4; have tok7 : Hid (w = w) := rfl)
    | (clear tok7; go_at_call 10; refine (HZ.out _).mono ?_; rintro e w6 ⟨rfl, hw⟩; obtain rfl := hw.symm; have tok8 : Hid (w = w) := rfl)
    | (clear tok8; go_at_call 16; refine (size_any hd5).mono ?_; rintro e w6 ⟨rfl, hw⟩; obtain rfl := hw.symm))
  go_ret
  exact ⟨rfl, hb5'⟩
end Go.Proofs.Ytmmpignjihbbpaa
