/- The library's own table of powers of ten: what the card's condition tells of it. -/
import Derived.Test.YtmbabfelnieagabDoorAG
import Derived.Test.YtmbabfelnieagabDoorRows
import Derived.LaidMore
import Derived.LaidSub
import Derived.Lib.LaidTab
import Derived.Lib.ItoaNum
import Derived.Lib.SmallJoins
import Derived.Stop.Joined
namespace Go.Proofs.YtmbabfelnieagabDoor
open Go.RowKit Go.Deep

/-- the powers of ten stand in the library's own table -/
def KAt (w : World) : Prop := Lib.TabIs Tryd.prog w "internal/strconv.uint64pow10" .u64 Lib.pow10Tab
theorem gK : ∃ g, Tryd.prog.globalNamed "internal/strconv.uint64pow10" = some g ∧ (Tryd.prog.globals[g]?).map (·.type) = some 100 := ⟨1, by kernel_rfl, by kernel_rfl⟩
theorem KAt.keep {w w' : World} (h : KAt w) (k : Bw w w') : KAt w' := by
  obtain ⟨g, hg, -⟩ := gK
  exact Joins.tab_stays hg h k (Nat.le_refl _)
def laidK : List (String × DataW Unit) := [("math/bits.deBruijn32tab", Rows.laid_math_bits_deBruijn32tab), ("math/bits.deBruijn64tab", Rows.laid_math_bits_deBruijn64tab), ("internal/strconv.uint64pow10", Rows.laid_internal_strconv_uint64pow10)]
theorem kat_of_laid {W : World} (h : laidMetH Tryd.prog laidK W) : KAt W := by
  rw [MakeChecks.laidMetH_plain _ _ _ (by kernel_rfl)] at h
  obtain ⟨g, hg, ht⟩ := gK
  have h1 := laidMet.filter (fun x => x.1 == "internal/strconv.uint64pow10") h
  rw [show laidK.filter (fun x => x.1 == "internal/strconv.uint64pow10") = [("internal/strconv.uint64pow10", Lib.tabData .u64 Lib.pow10Tab)] from by kernel_rfl] at h1
  exact Lib.tabIs_of_head (k := .u64) (zs := Lib.pow10Tab) hg ht Tryd.underlying100 Tryd.underlying80 (by kernel_rfl) (by kernel_rfl) h1
theorem door_met (os : Os) (args : Array Value) : laidMetH Tryd.prog laidK ((World.doorLaid Tryd.prog 400 os).forCall (fun _ _ => 0) ⟨#[], args, []⟩).memory :=
  laidMetH_of_parts3 (fuel := 8) (laidMet_of_run' 8 (by kernel_rfl) (by kernel_rfl)) (by kernel_rfl) (by kernel_rfl)
end Go.Proofs.YtmbabfelnieagabDoor
