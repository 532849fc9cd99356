/- The library contracts of what the program calls, laid over this program. -/
import Derived.Shelf.Bytes.SlCut
import Derived.Test.YtmbabfelnieagabDoorProg
namespace Go.Proofs.YtmbabfelnieagabDoor
open Go.Shelf
def sx4_ren : Go.Shelf.Ren := ⟨fun | 4 => 39 | 5 => 47 | 6 => 65 | 7 => 66 | 8 => 67 | 9 => 68 | 10 => 69 | 11 => 80 | 12 => 81 | n => n, fun | 22 => 27 | 4 => 4 | 3 => 3 | 0 => 0 | 5 => 5 | 29 => 77 | 9 => 9 | 31 => 109 | 30 => 96 | n => n, fun | 0 => 0 | n => n⟩
theorem sx4 : Go.Proofs.SlLaysT.n4 Tryd.prog sx4_ren := {
  mixed := by kernel_rfl
  f4 := Tryd.func39.trans (congrArg some (by kernel_rfl))
  f5 := Tryd.func47.trans (congrArg some (by kernel_rfl))
  f6 := Tryd.func65.trans (congrArg some (by kernel_rfl))
  f7 := Tryd.func66.trans (congrArg some (by kernel_rfl))
  f8 := Tryd.func67.trans (congrArg some (by kernel_rfl))
  f9 := Tryd.func68.trans (congrArg some (by kernel_rfl))
  f10 := Tryd.func69.trans (congrArg some (by kernel_rfl))
  f11 := Tryd.func80.trans (congrArg some (by kernel_rfl))
  f12 := Tryd.func81.trans (congrArg some (by kernel_rfl))
  t0 := Tryd.underlying0
  a0 := Tryd.isAgg0
  z0 := Tryd.sizeOf0
  v0 := Tryd.zeroValue0
  t3 := Tryd.underlying3
  a3 := Tryd.isAgg3
  z3 := Tryd.sizeOf3
  v3 := Tryd.zeroValue3
  t4 := Tryd.underlying4
  a4 := Tryd.isAgg4
  z4 := Tryd.sizeOf4
  v4 := Tryd.zeroValue4
  t5 := Tryd.underlying5
  a5 := Tryd.isAgg5
  z5 := Tryd.sizeOf5
  v5 := Tryd.zeroValue5
  t9 := Tryd.underlying9
  a9 := Tryd.isAgg9
  z9 := Tryd.sizeOf9
  v9 := Tryd.zeroValue9
  t22 := Tryd.underlying27
  a22 := Tryd.isAgg27
  z22 := Tryd.sizeOf27
  v22 := Tryd.zeroValue27
  t29 := Tryd.underlying77
  a29 := Tryd.isAgg77
  z29 := Tryd.sizeOf77
  v29 := Tryd.zeroValue77
  t30 := Tryd.underlying96
  a30 := Tryd.isAgg96
  z30 := Tryd.sizeOf96
  v30 := Tryd.zeroValue96
  t31 := Tryd.underlying109
  a31 := Tryd.isAgg109
  z31 := Tryd.sizeOf109
  v31 := Tryd.zeroValue109
  g0 := by kernel_rfl }
end Go.Proofs.YtmbabfelnieagabDoor
