/- The library contracts of what the program calls, laid over this program. -/
import Derived.Shelf.Bytes.SlCut
import Derived.Test.YtkoacehgfmflmabProg
namespace Go.Proofs.Ytkoacehgfmflmab
open Go.Shelf
def sx4_ren : Go.Shelf.Ren := ⟨fun | 4 => 28 | 5 => 34 | 6 => 38 | 7 => 36 | 8 => 39 | 9 => 40 | 10 => 41 | 11 => 44 | 12 => 45 | n => n, fun | 22 => 25 | 4 => 4 | 3 => 3 | 0 => 0 | 5 => 5 | 29 => 67 | 9 => 9 | 31 => 73 | 30 => 72 | n => n, fun | 0 => 0 | n => n⟩
theorem sx4 : Go.Proofs.SlLaysT.n4 Try.prog sx4_ren := {
  mixed := by kernel_rfl
  f4 := Try.func28.trans (congrArg some (by kernel_rfl))
  f5 := Try.func34.trans (congrArg some (by kernel_rfl))
  f6 := Try.func38.trans (congrArg some (by kernel_rfl))
  f7 := Try.func36.trans (congrArg some (by kernel_rfl))
  f8 := Try.func39.trans (congrArg some (by kernel_rfl))
  f9 := Try.func40.trans (congrArg some (by kernel_rfl))
  f10 := Try.func41.trans (congrArg some (by kernel_rfl))
  f11 := Try.func44.trans (congrArg some (by kernel_rfl))
  f12 := Try.func45.trans (congrArg some (by kernel_rfl))
  t0 := Try.underlying0
  a0 := Try.isAgg0
  z0 := Try.sizeOf0
  v0 := Try.zeroValue0
  t3 := Try.underlying3
  a3 := Try.isAgg3
  z3 := Try.sizeOf3
  v3 := Try.zeroValue3
  t4 := Try.underlying4
  a4 := Try.isAgg4
  z4 := Try.sizeOf4
  v4 := Try.zeroValue4
  t5 := Try.underlying5
  a5 := Try.isAgg5
  z5 := Try.sizeOf5
  v5 := Try.zeroValue5
  t9 := Try.underlying9
  a9 := Try.isAgg9
  z9 := Try.sizeOf9
  v9 := Try.zeroValue9
  t22 := Try.underlying25
  a22 := Try.isAgg25
  z22 := Try.sizeOf25
  v22 := Try.zeroValue25
  t29 := Try.underlying67
  a29 := Try.isAgg67
  z29 := Try.sizeOf67
  v29 := Try.zeroValue67
  t30 := Try.underlying72
  a30 := Try.isAgg72
  z30 := Try.sizeOf72
  v30 := Try.zeroValue72
  t31 := Try.underlying73
  a31 := Try.isAgg73
  z31 := Try.sizeOf73
  v31 := Try.zeroValue73
  g0 := by kernel_rfl }
end Go.Proofs.Ytkoacehgfmflmab
