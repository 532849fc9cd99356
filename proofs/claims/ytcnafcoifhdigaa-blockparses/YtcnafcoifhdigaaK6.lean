/- The statements' own wakes, of layer 4. -/
import Derived.Test.YtcnafcoifhdigaaK5
import Derived.Lib.SlBytesConst
import Derived.Lib.SmallJoins
namespace Go.Proofs.Ytcnafcoifhdigaa
open Go.RowKit Go.Deep

/-- the nine digits -/
def f9 (i : Nat) : Int := if i < 9 then 49 + (i : Int) else 0
theorem f9_bd (i : Nat) : 0 ≤ f9 i ∧ f9 i < 256 := by unfold f9; split <;> omega
theorem f9_sum : Crc.more 0 (nb f9) 9 = 3808858755 := by decide +kernel

theorem sealF_nb {f : Nat → Int} (n i : Nat) (hi : i < n) : nb (sealF f n) i = nb f i := by
  unfold nb sealF; rw [if_pos hi]
/-- a seal is opened -/
theorem seal_open (f : Nat → Int) (n : Nat) : Crc.Opens (nb (sealF f n)) n := by
  intro k hk
  rw [Crc.more_congr n (g := nb f) (fun i hi => sealF_nb n i hi)]
  show (sealF f n (n + k)).toNat = _
  unfold sealF
  rw [if_neg (by omega), Nat.add_sub_cancel_left, Int.toNat_natCast]

theorem row9 (W : World) (fr : Nat × Nat) : RowAt (W.alloc (.cells #[.int .u8 49, .int .u8 50, .int .u8 51, .int .u8 52, .int .u8 53, .int .u8 54, .int .u8 55, .int .u8 56, .int .u8 57] 5 fr)) (some ⟨W.heap.size, 0, none⟩) 9 f9 := by
  refine ⟨Or.inr ⟨W.heap.size, 0, rfl, fun i hi => ?_⟩, f9_bd⟩
  rw [Nat.zero_add, World.cell?_alloc_mark]
  have h : i = 0 ∨ i = 1 ∨ i = 2 ∨ i = 3 ∨ i = 4 ∨ i = 5 ∨ i = 6 ∨ i = 7 ∨ i = 8 := by omega
  rcases h with rfl | rfl | rfl | rfl | rfl | rfl | rfl | rfl | rfl <;> rfl

theorem str9 : (str (sealF f9 9) 9).toList = [49, 50, 51, 52, 53, 54, 55, 56, 57] := by
  rw [ByteArray.toList_eq]
  show (strOfNums _).data.toList = _
  rw [strOfNums_data]
  rfl

theorem seal9 : sealF f9 9 9 = 131 := by
  unfold sealF
  rw [if_neg (by omega), f9_sum]
  decide

theorem open9 {f : Nat → Int} {x : Bool} {n m : Nat} (h : OpenSays (m + 4) f x n) (ho : Crc.Opens (nb f) m) : x = true ∧ n = m := by
  obtain ⟨h1, h2⟩ := h
  have hx : x = true := h1.2 ⟨by omega, by rw [Nat.add_sub_cancel]; exact ho⟩
  subst hx
  exact ⟨rfl, h2⟩
theorem Bw.past {w w' : World} {o : Obj} (h : Bw (w.alloc o) w') : Bw w w' := Bw.trans (Below.alloc (Below.refl _ _) (Nat.le_refl _) _) h

end Go.Proofs.Ytcnafcoifhdigaa
