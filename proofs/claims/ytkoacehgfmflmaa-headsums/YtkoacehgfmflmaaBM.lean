/- The library contracts of what the program calls, laid over this program. -/
import Derived.Shelf.Bytes.SlCut
import Derived.Test.YtkoacehgfmflmaaProg
namespace Go.Proofs.Ytkoacehgfmflmaa
open Go.Shelf
def sx4_ren : Go.Shelf.Ren := ⟨fun | 4 => 51 | 5 => 61 | 6 => 65 | 7 => 63 | 8 => 66 | 9 => 67 | 10 => 68 | 11 => 71 | 12 => 72 | n => n, fun | 22 => 24 | 4 => 4 | 3 => 3 | 0 => 0 | 5 => 5 | 29 => 91 | 9 => 9 | 31 => 93 | 30 => 92 | n => n, fun | 0 => 0 | n => n⟩
theorem sx4 : Go.Proofs.SlLaysT.n4 Try.prog sx4_ren := {
  mixed := by kernel_rfl
  f4 := Try.func51.trans (congrArg some (by kernel_rfl))
  f5 := Try.func61.trans (congrArg some (by kernel_rfl))
  f6 := Try.func65.trans (congrArg some (by kernel_rfl))
  f7 := Try.func63.trans (congrArg some (by kernel_rfl))
  f8 := Try.func66.trans (congrArg some (by kernel_rfl))
  f9 := Try.func67.trans (congrArg some (by kernel_rfl))
  f10 := Try.func68.trans (congrArg some (by kernel_rfl))
  f11 := Try.func71.trans (congrArg some (by kernel_rfl))
  f12 := Try.func72.trans (congrArg some (by kernel_rfl))
  t0 := Try.underlying0
  a0 := Try.isAgg0
  z0 := Try.sizeOf0
  v0 := Try.zeroValue0
  t3 := Try.underlying3
  a3 := Try.isAgg3
  z3 := Try.sizeOf3
  v3 := Try.zeroValue3
  t4 := Try.underlying4
  a4 := Try.isAgg4
  z4 := Try.sizeOf4
  v4 := Try.zeroValue4
  t5 := Try.underlying5
  a5 := Try.isAgg5
  z5 := Try.sizeOf5
  v5 := Try.zeroValue5
  t9 := Try.underlying9
  a9 := Try.isAgg9
  z9 := Try.sizeOf9
  v9 := Try.zeroValue9
  t22 := Try.underlying24
  a22 := Try.isAgg24
  z22 := Try.sizeOf24
  v22 := Try.zeroValue24
  t29 := Try.underlying91
  a29 := Try.isAgg91
  z29 := Try.sizeOf91
  v29 := Try.zeroValue91
  t30 := Try.underlying92
  a30 := Try.isAgg92
  z30 := Try.sizeOf92
  v30 := Try.zeroValue92
  t31 := Try.underlying93
  a31 := Try.isAgg93
  z31 := Try.sizeOf93
  v31 := Try.zeroValue93
  g0 := by kernel_rfl }
end Go.Proofs.Ytkoacehgfmflmaa
