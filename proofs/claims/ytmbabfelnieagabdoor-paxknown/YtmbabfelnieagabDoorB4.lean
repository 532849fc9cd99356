/- What is thrown: must, mustBePair; what is caught. -/
import Derived.Test.YtmbabfelnieagabDoorB3
import Derived.Defers
import Derived.Recover
import Derived.WalkLawsBesides
import Derived.Laws.Pointers
namespace Go.Proofs.YtmbabfelnieagabDoor
open Go.RowKit Go.Deep
set_option linter.unusedVariables false
set_option linter.unusedSimpArgs false

/-- how a call ends that throws an error but 0 -/
def thrown (er : Nat) : Ending := .panicked [{ v := .iface 28 (.int .i64 (er : Int)), recovered := false }]
set_option maxHeartbeats 1000000 in
theorem must_yes (t : Bool) (ht : t = true) (er : Int) (w : World) : Calls Tryd.prog 28 #[.bool t, .int .i64 er] w fun e w' => e = .returned (.tuple #[]) ∧ w' = w := by
  subst ht
  go_enter Tryd.func28, Tryd.ntmps28
  go_wp2
  refine bodyPost_end (results_none rfl _ _ _) rfl ?_
  exact ⟨rfl, rfl⟩
set_option maxHeartbeats 1000000 in
theorem must_no (t : Bool) (ht : t = false) (er : Nat) (x : Int) (hx : x = (er : Int)) (w : World) : Calls Tryd.prog 28 #[.bool t, .int .i64 x] w fun e w' => e = thrown er ∧ w' = w := by
  subst hx; subst ht
  go_enter Tryd.func28, Tryd.ntmps28
  go_wp2
  exact ⟨rfl, rfl, rfl⟩
theorem Px.fits_key {a b : Px.B} (h : Px.keyF a = false) : Px.fits (a, b) = 91 := by unfold Px.fits; rw [if_pos h]
theorem Px.fits_long {a b : Px.B} (h : Px.keyF a = true) (hb : 1024 < b.length) : Px.fits (a, b) = 2 := by unfold Px.fits; rw [if_neg (by rw [h]; exact fun h => by cases h), if_pos hb]
theorem Px.fits_good {a b : Px.B} (h : Px.keyF a = true) (hb : ¬ 1024 < b.length) : Px.fits (a, b) = 0 := by unfold Px.fits; rw [if_neg (by rw [h]; exact fun h => by cases h), if_neg hb]
/-- what asks that something hold: it returns, or throws -/
def Asks (er : Nat) (e : Ending) : Prop := er = 0 ∧ e = .returned (.tuple #[]) ∨ er ≠ 0 ∧ e = thrown er
set_option maxHeartbeats 1000000 in
theorem mbp_any (a b : ByteArray) (ha : a.size ≤ 140737488355328) (hb : b.size ≤ 140737488355328) (w : World) :
    Calls Tryd.prog 32 #[.agg #[.string a, .string b]] w fun e w' => Asks (Px.fits (a.toList, b.toList)) e ∧ Bw w w' := by
  have hw0 : Bw w (w.alloc (.cells #[.string a, .string b] 23)) := Below.alloc (Below.refl _ _) (Nat.le_refl _) _
  have HP : Hid (∀ W, Bw (w.alloc (.cells #[.string a, .string b] 23)) W → W.cell? ⟨w.heap.size, 0, none⟩ = some (.string a) ∧ W.cell? ⟨w.heap.size, 1, none⟩ = some (.string b)) := fun W h => by
    have g := (h.block _ (by simp)).trans (World.alloc_heap_new w (.cells #[.string a, .string b] 23))
    exact ⟨cell_of_row W _ 0 _ _ _ g, cell_of_row W _ 1 _ _ _ g⟩
  have hl : Hid (b.toList.length = b.size) := Nm.size_toList b
  by_cases hk : Px.keyF a.toList = true
  · have HK : Hid (Px.keyF a.toList = true) := hk
    have tok0 : Hid (w = w) := rfl
    have tok1 : Hid (w = w) := rfl
    by_cases hb2 : 1024 < b.size
    · have hF : Hid (Px.fits (a.toList, b.toList) = 2) := Px.fits_long hk (by rw [hl.out]; exact hb2)
      have i2 : ¬ (b.size : Int) ≤ 1024 := by omega
      clear hk
      rw [hF.out]
      go_enter Tryd.func32, Tryd.ntmps32
      go_wp2_with (first
        | (go_at_call 41; refine (iskey_any a ha _).mono ?_; rintro e w1 ⟨rfl, hw1⟩; rw [HK.out]; obtain ⟨c1, c2⟩ := HP.out w1 hw1)
        | (go_at_call 28; clear tok0; refine (must_yes _ (by first | rfl | exact decide_eq_true (by omega)) _ _).mono ?_; rintro e w2 ⟨rfl, hw2⟩; subst w2)
        | (go_at_call 28; clear tok1; refine (must_no _ (by first | rfl | exact decide_eq_false (by omega)) 2 2 rfl _).mono ?_; rintro e w3 ⟨rfl, hw3⟩; subst w3; unfold thrown))
      exact ⟨rfl, .inr ⟨by decide, rfl⟩, hw0.trans hw1⟩
    · have hF : Hid (Px.fits (a.toList, b.toList) = 0) := Px.fits_good hk (by rw [hl.out]; exact hb2)
      have i2 : (b.size : Int) ≤ 1024 := by omega
      clear hk
      rw [hF.out]
      go_enter Tryd.func32, Tryd.ntmps32
      go_wp2_with (first
        | (go_at_call 41; refine (iskey_any a ha _).mono ?_; rintro e w1 ⟨rfl, hw1⟩; rw [HK.out]; obtain ⟨c1, c2⟩ := HP.out w1 hw1)
        | (go_at_call 28; clear tok0; refine (must_yes _ (by first | rfl | exact decide_eq_true (by omega)) _ _).mono ?_; rintro e w2 ⟨rfl, hw2⟩; subst w2)
        | (go_at_call 28; clear tok1; refine (must_yes _ (by first | rfl | exact decide_eq_true (by omega)) _ _).mono ?_; rintro e w3 ⟨rfl, hw3⟩; subst w3))
      refine bodyPost_end (results_none rfl _ _ _) rfl ?_
      exact ⟨.inl ⟨rfl, rfl⟩, hw0.trans hw1⟩
  · have HK : Hid (Px.keyF a.toList = false) := by show _ = _; cases h : Px.keyF a.toList <;> simp_all
    have tok0 : Hid (w = w) := rfl
    have hF : Hid (Px.fits (a.toList, b.toList) = 91) := Px.fits_key HK.out
    clear hk
    rw [hF.out]
    go_enter Tryd.func32, Tryd.ntmps32
    go_wp2_with (first
      | (go_at_call 41; refine (iskey_any a ha _).mono ?_; rintro e w1 ⟨rfl, hw1⟩; rw [HK.out]; obtain ⟨c1, c2⟩ := HP.out w1 hw1)
      | (go_at_call 28; clear tok0; refine (must_no _ rfl 91 91 rfl _).mono ?_; rintro e w2 ⟨rfl, hw2⟩; subst w2; unfold thrown))
    exact ⟨rfl, .inr ⟨by decide, rfl⟩, hw0.trans hw1⟩
end Go.Proofs.YtmbabfelnieagabDoor
