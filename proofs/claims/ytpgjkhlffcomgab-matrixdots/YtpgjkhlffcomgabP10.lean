/- The program's Rank and Inverse. -/
import Derived.Test.YtpgjkhlffcomgabP9
namespace Go.Proofs.Ytpgjkhlffcomgab
open Go.RowKit

theorem copy_grid {g h n m r L cb : Nat} {P : Nat → Nat} {Z : Nat → Nat → Int} {f : Nat → Int} {B : Option Addr} (ty : TypeId) {w : World} (d : Grid w g h n m P Z) (hr : r < n) (hL : L ≤ m) (hB : RowAt w B L f) :
    ∃ w', (Builtin.copy_ #[22, 22] ty #[.slice (some ⟨g, P r * m, none⟩) m m, .slice B L cb]).run Try.prog w = .ok (goInt L) w' ∧ Grid w' g h n m P (upd Z r (fun c => if c < L then f c else Z r c)) ∧ Bx (· = g) w w' := by
  obtain ⟨F, hb, hF, hZ⟩ := d.cells
  have hle := cut_le (m := m) (c := m) (d.lt r hr) (Nat.le_refl _)
  obtain ⟨w', h1, h2, h3⟩ := copy_ok g (P r * m) m m (n * m) L cb ty F f B w hb (by omega) hL hB
  refine ⟨w', h1, d.turned h3 hr hZ h2 (cpyF_bd hF hB.2) (fun i => ?_) (fun i hi => ?_) (fun i hi => ?_), h3⟩
  · split
    · exact hB.2 i
    · exact d.bd r i
  · unfold cpyF
    by_cases e : i < L
    · rw [if_pos (by omega), if_pos e, Nat.add_sub_cancel_left]
    · rw [if_neg (by omega), if_neg e, hZ r i hr hi]
  · unfold cpyF; rw [if_neg (by omega)]

/-- k rows laid over -/
def rowsW (n : Nat) (Z : Nat → Nat → Int) (k r c : Nat) : Int := if r < k then capZ n Z r c else 0
theorem rowsW_bd {w : World} {A : Option Addr} {n : Nat} {R : Nat → Option Addr} {L C : Nat → Nat} {Z : Nat → Nat → Int} (h : MatAt w A n R L C Z) (k r c : Nat) : 0 ≤ rowsW n Z k r c ∧ rowsW n Z k r c < 256 := by
  unfold rowsW; split
  · exact capZ_bd h r c
  · decide

theorem StepInv.from_ {n m j r : Nat} {Z0 Z1 Z : Nat → Nat → Int} {p : Nat → Nat} (h : StepInv n m j r Z0 Z p) (e : ∀ i j, i < n → j < m → Z0 i j = Z1 i j) : StepInv n m j r Z1 Z p :=
  ⟨(La.RowEq.of_eq (A := fm Z1) (W := fm Z0) (fun i j hi hj => by unfold fm; rw [e i j hi hj])).trans h.1, h.2⟩

/-- what Rank says -/
def RankSays (n : Nat) (L : Nat → Nat) (Z : Nat → Nat → Int) (x : Int) (r : Nat) : Prop :=
  (Wrong n L x ∧ x ≠ 0 ∧ r = 0) ∨ (Wrong n L 0 ∧ x = 0 ∧ La.IsRank n (colsN n L) (fm Z) r)

end Go.Proofs.Ytpgjkhlffcomgab
