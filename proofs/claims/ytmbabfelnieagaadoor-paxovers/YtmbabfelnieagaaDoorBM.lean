/- The library contracts of what the program calls, laid over this program. -/
import Derived.Shelf.Bytes.SlCut
import Derived.Test.YtmbabfelnieagaaDoorProg
namespace Go.Proofs.YtmbabfelnieagaaDoor
open Go.Shelf
def sx4_ren : Go.Shelf.Ren := ⟨fun | 4 => 44 | 5 => 53 | 6 => 64 | 7 => 65 | 8 => 66 | 9 => 67 | 10 => 68 | 11 => 85 | 12 => 86 | n => n, fun | 22 => 24 | 4 => 4 | 3 => 3 | 0 => 0 | 5 => 5 | 29 => 84 | 9 => 9 | 31 => 109 | 30 => 104 | n => n, fun | 0 => 0 | n => n⟩
theorem sx4 : Go.Proofs.SlLaysT.n4 Tryd.prog sx4_ren := {
  mixed := by kernel_rfl
  f4 := Tryd.func44.trans (congrArg some (by kernel_rfl))
  f5 := Tryd.func53.trans (congrArg some (by kernel_rfl))
  f6 := Tryd.func64.trans (congrArg some (by kernel_rfl))
  f7 := Tryd.func65.trans (congrArg some (by kernel_rfl))
  f8 := Tryd.func66.trans (congrArg some (by kernel_rfl))
  f9 := Tryd.func67.trans (congrArg some (by kernel_rfl))
  f10 := Tryd.func68.trans (congrArg some (by kernel_rfl))
  f11 := Tryd.func85.trans (congrArg some (by kernel_rfl))
  f12 := Tryd.func86.trans (congrArg some (by kernel_rfl))
  t0 := Tryd.underlying0
  a0 := Tryd.isAgg0
  z0 := Tryd.sizeOf0
  v0 := Tryd.zeroValue0
  t3 := Tryd.underlying3
  a3 := Tryd.isAgg3
  z3 := Tryd.sizeOf3
  v3 := Tryd.zeroValue3
  t4 := Tryd.underlying4
  a4 := Tryd.isAgg4
  z4 := Tryd.sizeOf4
  v4 := Tryd.zeroValue4
  t5 := Tryd.underlying5
  a5 := Tryd.isAgg5
  z5 := Tryd.sizeOf5
  v5 := Tryd.zeroValue5
  t9 := Tryd.underlying9
  a9 := Tryd.isAgg9
  z9 := Tryd.sizeOf9
  v9 := Tryd.zeroValue9
  t22 := Tryd.underlying24
  a22 := Tryd.isAgg24
  z22 := Tryd.sizeOf24
  v22 := Tryd.zeroValue24
  t29 := Tryd.underlying84
  a29 := Tryd.isAgg84
  z29 := Tryd.sizeOf84
  v29 := Tryd.zeroValue84
  t30 := Tryd.underlying104
  a30 := Tryd.isAgg104
  z30 := Tryd.sizeOf104
  v30 := Tryd.zeroValue104
  t31 := Tryd.underlying109
  a31 := Tryd.isAgg109
  z31 := Tryd.sizeOf109
  v31 := Tryd.zeroValue109
  g0 := by kernel_rfl }
end Go.Proofs.YtmbabfelnieagaaDoor
