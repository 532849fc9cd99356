/- Contracts of the program's Dot and Plus. -/
import Derived.Test.YtpgjkhlffcomgaaP6
namespace Go.Proofs.Ytpgjkhlffcomgaa
open Go.RowKit

/-- two rows' heads beside one another -/
theorem mat_two (w : World) (A B : Option Addr) (la ca lb cb : Nat) (f g : Nat → Int) (ha : RowAt w A la f) (hb : RowAt w B lb g) :
    MatAt (w.alloc (.cells #[.slice A la ca, .slice B lb cb] 22)) (some ⟨w.heap.size, 0, none⟩) 2 (fun r => if r = 0 then A else B) (fun r => if r = 0 then la else lb) (fun r => if r = 0 then ca else cb) (fun r => if r = 0 then f else g) := by
  have hbw : Bw w (w.alloc (.cells #[.slice A la ca, .slice B lb cb] 22)) := (Below.refl _ _).alloc (Nat.le_refl _) _
  refine ⟨Or.inr ⟨w.heap.size, 0, rfl, fun r hr => ?_⟩, fun r hr => ?_⟩
  · rw [Nat.zero_add, World.cell?_alloc_at _ _ _ r rfl]
    rcases (show r = 0 ∨ r = 1 by omega) with rfl | rfl <;> rfl
  · rcases (show r = 0 ∨ r = 1 by omega) with rfl | rfl
    · exact ha.keep hbw
    · exact hb.keep hbw

theorem wrong_two {L : Nat → Nat} {x : Int} (h : Wrong 2 L x) : x = twoE (L 0) (L 1) := by
  unfold twoE
  rcases h with ⟨rfl, h | ⟨r, hr, h⟩⟩ | ⟨rfl, _, h1, r, hr, h⟩ | ⟨rfl, _, h1, h⟩
  · omega
  · rcases (show r = 0 ∨ r = 1 by omega) with rfl | rfl
    · rw [if_pos (Or.inl h)]
    · rw [if_pos (Or.inr h)]
  · have a0 := h1 0 (by omega)
    have a1 := h1 1 (by omega)
    rcases (show r = 0 ∨ r = 1 by omega) with rfl | rfl
    · exact absurd rfl h
    · rw [if_neg (by omega), if_pos (fun e => h e.symm)]
  · have a0 := h1 0 (by omega)
    have a1 := h1 1 (by omega)
    rw [if_neg (by omega), if_neg (fun e => e (h 1 (by omega)).symm)]

def dotE (la lb : Nat) (f g : Nat → Int) : Int := if twoE la lb = 0 then dotU f g la else 0

theorem dot_any (A B : Option Addr) (la ca lb cb : Nat) (f g : Nat → Int) (w : World) (ha : RowAt w A la f) (hb : RowAt w B lb g) :
    Calls Try.prog 11 #[.slice A la ca, .slice B lb cb] w fun e w' => e = .returned (.tuple #[.int .u8 (dotE la lb f g), .int .i64 (twoE la lb)]) ∧ Bw w w' := by
  have hmat := mat_two w A B la ca lb cb f g ha hb
  have hbw : Bw w (w.alloc (.cells #[.slice A la ca, .slice B lb cb] 22)) := (Below.refl _ _).alloc (Nat.le_refl _) _
  by_cases h0 : twoE la lb = 0
  · have e1 : dotE la lb f g = dotU f g la := by unfold dotE; rw [if_pos h0]
    rw [e1, h0]
    have hl : la = lb ∧ la ≤ 131072 := by
      unfold twoE at h0
      split at h0
      · cases h0
      · split at h0
        · cases h0
        · omega
    obtain ⟨rfl, hL⟩ := hl
    go_enter Try.func11, Try.ntmps11
    go_wp2_with (go_at_call 29; refine (wrong_any _ _ _ _ _ _ _ _ hmat).mono ?_; rintro e w' ⟨x, rfl, hx, hw'⟩; subst w'; obtain rfl : x = 0 := (wrong_two hx).trans h0)
    go_loopw [7, 18] (fun x i wr => ∃ k : Nat, k ≤ la ∧ i = .int .i64 k ∧ x = .int .u8 (dotU f g k) ∧ Bw w wr) (fun _ i _ => la - (intOf i).toNat)
    case atStart => exact ⟨0, Nat.zero_le _, rfl, rfl, hbw⟩
    case round =>
      obtain ⟨k, hk, rfl, rfl, hw⟩ := hrel
      by_cases hlt : k < la
      · obtain ⟨b1, o1, rfl, hc1⟩ := (ha.keep hw).at hlt
        obtain ⟨b2, o2, rfl, hc2⟩ := (hb.keep hw).at hlt
        have h1 := hc1 k hlt
        have h2 := hc2 k hlt
        have f1 := ha.2 k
        have g1 := hb.2 k
        have d1 := dotU_bd f g ha.2 k
        have m1 := mulI_bd (f k) (g k) f1.2
        have k0 : (0 : Int) ≤ (k : Int) := Int.natCast_nonneg _
        have k1 : (k : Int) < (la : Int) := by omega
        clear hc1 hc2
        go_wp2
        go_quiet (first | (go_at_call 32; exact Calls.quiet_of_same (mul_any _ _ (by omega) (by omega) (by omega) (by omega) _)) | (go_at_call 31; exact Calls.quiet_of_same (add_any _ _ (by omega) (by omega) (by omega) (by omega) _)))
        go_wp2
        go_roundw
        case rel => exact ⟨k + 1, by omega, by go_num, rfl, hw.trans (Bw.drewN _ _)⟩
        case measure => simp [intOf]; omega
      · have ek : la = k := by omega
        subst ek
        go_wp2
        go_ret2
        exact ⟨rfl, hw⟩
  · have e1 : dotE la lb f g = 0 := by unfold dotE; rw [if_neg h0]
    rw [e1]
    have h0' : (twoE la lb != 0) = true := by simpa using h0
    go_enter Try.func11, Try.ntmps11
    go_wp2_with (go_at_call 29; refine (wrong_any _ _ _ _ _ _ _ _ hmat).mono ?_; rintro e w' ⟨x, rfl, hx, hw'⟩; subst w'; obtain rfl : x = twoE la lb := wrong_two hx)
    go_ret2
    exact ⟨rfl, hbw⟩

/-- a row that was made since the block base -/
structure NewRow (w : World) (base : Nat) (A : Option Addr) (n : Nat) (f : Nat → Int) : Prop where
  row : RowAt w A n f
  new : n = 0 ∨ ∃ g o, A = some ⟨g, o, none⟩ ∧ base ≤ g ∧ g < w.heap.size

theorem row_none (w : World) : RowAt w none 0 (fun _ => 0) := ⟨Or.inl rfl, fun _ => ⟨Int.le_refl 0, show (0 : Int) < 256 by decide⟩⟩

set_option maxRecDepth 100000 in
theorem plus_any (A B : Option Addr) (la ca lb cb : Nat) (f g : Nat → Int) (c : Int) (c0 : 0 ≤ c) (c1 : c < 256) (w : World) (ha : RowAt w A la f) (hb : RowAt w B lb g) :
    Calls Try.prog 10 #[.slice A la ca, .slice B lb cb, .int .u8 c] w fun e w' => ∃ A' n' cap' h, e = .returned (.tuple #[.slice A' n' cap', .int .i64 (twoE la lb)]) ∧ NewRow w' w.heap.size A' n' h ∧ Bw w w' ∧
      ((twoE la lb = 0 ∧ n' = la ∧ ∀ i, i < la → h i = addI (f i) (mulI c (g i))) ∨ (twoE la lb ≠ 0 ∧ n' = 0)) := by
  have hmat := mat_two w A B la ca lb cb f g ha hb
  have hbw : Bw w (w.alloc (.cells #[.slice A la ca, .slice B lb cb] 22)) := (Below.refl _ _).alloc (Nat.le_refl _) _
  by_cases h0 : twoE la lb = 0
  · rw [h0]
    have hl : la = lb ∧ la ≤ 131072 := by
      unfold twoE at h0
      split at h0
      · cases h0
      · split at h0
        · cases h0
        · omega
    obtain ⟨rfl, hL⟩ := hl
    obtain ⟨M0, hM, hM0, hmk⟩ := made_bytes la (by omega)
    have hcopy : ∀ W1, W1 = w.alloc (.cells #[.slice A la ca, .slice B la cb] 22) → ∃ W2, (Builtin.copy_ #[22, 22] 3 #[.slice (some ⟨W1.heap.size, 0, none⟩) la la, .slice A la ca]).run Try.prog (W1.alloc (.cells M0 5)) = .ok (goInt la) W2 ∧
        BlockIs W2 W1.heap.size la (cpyF (fun _ => 0) 0 la f) ∧ RowAt W2 B la g ∧ Bw w W2 ∧ w.heap.size ≤ W1.heap.size := by
      intro W1 hW1
      have hs1 : W1.heap.size = w.heap.size + 1 := by rw [hW1, size_alloc]
      rw [← hW1] at hbw
      have hbw2 : Bw W1 (W1.alloc (.cells M0 5)) := (Below.refl _ _).alloc (Nat.le_refl _) _
      have hblk : BlockIs (W1.alloc (.cells M0 5)) W1.heap.size la (fun _ => 0) := ⟨M0, heap_alloc_new _ _, hM, hM0⟩
      obtain ⟨W2, hcp, hblk2, hx2⟩ := copy_ok W1.heap.size 0 la la la la ca 3 (fun _ => 0) f A _ hblk (by omega) (Nat.le_refl _) ((ha.keep hbw).keep hbw2)
      refine ⟨W2, hcp, hblk2, ((hb.keep hbw).keep hbw2).keepx hx2 (fun b o e h => ?_), ?_, by omega⟩
      · have := RowAt.lt (e ▸ hb) (k := 0) h
        omega
      · have hw3 := hbw.trans hbw2
        exact (Below.trans hw3 (hx2.below hw3.size (fun b e => by omega)))
    have hdis : ∀ W1 : World, w.heap.size ≤ W1.heap.size → ∀ a, B = some a → a.block ≠ W1.heap.size ∨ a.off + la ≤ 0 ∨ 0 + la ≤ a.off := by
      intro W1 hW1 a e
      by_cases h : la = 0
      · right; right; omega
      · left
        obtain ⟨b, o, e', hc⟩ := hb.at (k := 0) (by omega)
        have := block_lt_of_cell (hc 0 (by omega))
        rw [e] at e'; cases e'; simp only at this ⊢; omega
    have hz : ∀ i, 0 ≤ cpyF (fun _ => 0) 0 la f i ∧ cpyF (fun _ => 0) 0 la f i < 256 := cpyF_bd (fun _ => ⟨Int.le_refl 0, show (0 : Int) < 256 by decide⟩) ha.2
    go_enter Try.func10, Try.ntmps10
    go_wp2_with (first | (go_at_call 29; refine (wrong_any _ _ _ _ _ _ _ _ hmat).mono ?_; rintro e W1 ⟨x, rfl, hx, hw'⟩; obtain rfl : x = 0 := (wrong_two hx).trans h0; obtain ⟨W2, hcp, hblk2, hb2, hw2, hs1⟩ := hcopy W1 hw'; clear hw') | (go_at_call 30; refine (add_any' _ 0 la la la cb _ g B c (by omega) (by omega) _ hblk2 (by omega) (by omega) hz hb2 (hdis W1 hs1)).mono ?_; rintro e W3 ⟨rfl, hblk3, hx3⟩))
    go_ret2
    have hlt3 : W1.heap.size < W3.heap.size := by obtain ⟨cur, hcur, _⟩ := hblk3; exact (Array.getElem?_eq_some_iff.1 hcur).1
    refine ⟨_, _, _, _, rfl, ⟨hblk3.row (addF_bd hz c1), Or.inr ⟨_, _, rfl, hs1, hlt3⟩⟩, ?_, Or.inl ⟨by first | rfl | trivial, by first | rfl | trivial, fun i hi => ?_⟩⟩
    · exact Below.trans hw2 (hx3.below hw2.size (fun b e => by omega))
    · unfold addF cpyF; rw [if_pos (by omega), if_pos (by omega)]; rfl
  · have h0' : (twoE la lb != 0) = true := by simpa using h0
    go_enter Try.func10, Try.ntmps10
    go_wp2_with (go_at_call 29; refine (wrong_any _ _ _ _ _ _ _ _ hmat).mono ?_; rintro e w' ⟨x, rfl, hx, hw'⟩; subst w'; obtain rfl : x = twoE la lb := wrong_two hx)
    go_ret2
    exact ⟨none, 0, 0, fun _ => 0, rfl, ⟨row_none _, Or.inl rfl⟩, hbw, Or.inr ⟨h0, rfl⟩⟩

end Go.Proofs.Ytpgjkhlffcomgaa
