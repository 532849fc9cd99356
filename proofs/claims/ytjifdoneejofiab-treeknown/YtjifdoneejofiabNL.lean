/- The library's own contracts of what the program calls, laid over this program. -/
import Derived.Test.YtjifdoneejofiabRows
import Derived.Shelf.Strings.Search3
import Derived.Shelf.Strings.LastIndex
import Derived.Shelf.Strings.Prefix
import Derived.Shelf.Small.Strs
import Derived.Shelf.Small.Wraps
namespace Go.Proofs.Ytjifdoneejofiab
open Go.Shelf

def sx219_ren : Go.Shelf.Ren := ⟨fun | 219 => 77 | 217 => 76 | 225 => 81 | 224 => 82 | 267 => 83 | 266 => 80 | 314 => 85 | n => n, fun | 9 => 9 | 3 => 3 | 4 => 4 | 5 => 5 | 46 => 74 | 146 => 95 | 51 => 94 | n => n, fun | 1 => 0 | n => n⟩

theorem sx219 : Lays.n219 Try.prog sx219_ren := {
  mixed := by kernel_rfl,
  f217 := Try.func76.trans (congrArg some (by kernel_rfl)),
  f219 := Try.func77.trans (congrArg some (by kernel_rfl)),
  f224 := Try.func82.trans (congrArg some (by kernel_rfl)),
  f225 := Try.func81.trans (congrArg some (by kernel_rfl)),
  f266 := Try.func80.trans (congrArg some (by kernel_rfl)),
  f267 := Try.func83.trans (congrArg some (by kernel_rfl)),
  f314 := Try.func85.trans (congrArg some (by kernel_rfl)),
  t3 := Try.underlying3,
  a3 := Try.isAgg3,
  z3 := Try.sizeOf3,
  v3 := Try.zeroValue3,
  t4 := Try.underlying4,
  a4 := Try.isAgg4,
  z4 := Try.sizeOf4,
  v4 := Try.zeroValue4,
  t5 := Try.underlying5,
  a5 := Try.isAgg5,
  z5 := Try.sizeOf5,
  v5 := Try.zeroValue5,
  t9 := Try.underlying9,
  a9 := Try.isAgg9,
  z9 := Try.sizeOf9,
  v9 := Try.zeroValue9,
  t46 := Try.underlying74,
  a46 := Try.isAgg74,
  z46 := Try.sizeOf74,
  v46 := Try.zeroValue74,
  t51 := Try.underlying94,
  a51 := Try.isAgg94,
  z51 := Try.sizeOf94,
  v51 := Try.zeroValue94,
  t146 := Try.underlying95,
  a146 := Try.isAgg95,
  z146 := Try.sizeOf95,
  v146 := Try.zeroValue95,
  g1 := by kernel_rfl
}

def sx148_ren : Go.Shelf.Ren := ⟨fun | 148 => 41 | 222 => 59 | 223 => 60 | 269 => 72 | n => n, fun | 9 => 9 | 3 => 3 | 4 => 4 | 5 => 5 | 146 => 95 | 51 => 94 | 46 => 74 | n => n, fun  | n => n⟩

theorem sx148 : Lays.n148 Try.prog sx148_ren := {
  mixed := by kernel_rfl,
  f148 := Try.func41.trans (congrArg some (by kernel_rfl)),
  f222 := Try.func59.trans (congrArg some (by kernel_rfl)),
  f223 := Try.func60.trans (congrArg some (by kernel_rfl)),
  f269 := Try.func72.trans (congrArg some (by kernel_rfl)),
  t3 := Try.underlying3,
  a3 := Try.isAgg3,
  z3 := Try.sizeOf3,
  v3 := Try.zeroValue3,
  t4 := Try.underlying4,
  a4 := Try.isAgg4,
  z4 := Try.sizeOf4,
  v4 := Try.zeroValue4,
  t5 := Try.underlying5,
  a5 := Try.isAgg5,
  z5 := Try.sizeOf5,
  v5 := Try.zeroValue5,
  t9 := Try.underlying9,
  a9 := Try.isAgg9,
  z9 := Try.sizeOf9,
  v9 := Try.zeroValue9,
  t46 := Try.underlying74,
  a46 := Try.isAgg74,
  z46 := Try.sizeOf74,
  v46 := Try.zeroValue74,
  t51 := Try.underlying94,
  a51 := Try.isAgg94,
  z51 := Try.sizeOf94,
  v51 := Try.zeroValue94,
  t146 := Try.underlying95,
  a146 := Try.isAgg95,
  z146 := Try.sizeOf95,
  v146 := Try.zeroValue95
}

def sx137_ren : Go.Shelf.Ren := ⟨fun | 137 => 70 | 217 => 76 | 266 => 80 | n => n, fun | 9 => 9 | 5 => 5 | 3 => 3 | n => n, fun  | n => n⟩

theorem sx137 : Lays.n137 Try.prog sx137_ren := {
  mixed := by kernel_rfl,
  f137 := Try.func70.trans (congrArg some (by kernel_rfl)),
  f217 := Try.func76.trans (congrArg some (by kernel_rfl)),
  f266 := Try.func80.trans (congrArg some (by kernel_rfl)),
  t3 := Try.underlying3,
  a3 := Try.isAgg3,
  z3 := Try.sizeOf3,
  v3 := Try.zeroValue3,
  t5 := Try.underlying5,
  a5 := Try.isAgg5,
  z5 := Try.sizeOf5,
  v5 := Try.zeroValue5,
  t9 := Try.underlying9,
  a9 := Try.isAgg9,
  z9 := Try.sizeOf9,
  v9 := Try.zeroValue9
}

def sx99_ren : Go.Shelf.Ren := ⟨fun | 99 => 54 | 206 => 69 | n => n, fun | 9 => 9 | 4 => 4 | 3 => 3 | n => n, fun  | n => n⟩

theorem sx99 : Lays.n99 Try.prog sx99_ren := {
  mixed := by kernel_rfl,
  f99 := Try.func54.trans (congrArg some (by kernel_rfl)),
  f206 := Try.func69.trans (congrArg some (by kernel_rfl)),
  t3 := Try.underlying3,
  a3 := Try.isAgg3,
  z3 := Try.sizeOf3,
  v3 := Try.zeroValue3,
  t4 := Try.underlying4,
  a4 := Try.isAgg4,
  z4 := Try.sizeOf4,
  v4 := Try.zeroValue4,
  t9 := Try.underlying9,
  a9 := Try.isAgg9,
  z9 := Try.sizeOf9,
  v9 := Try.zeroValue9
}

def sx103_ren : Go.Shelf.Ren := ⟨fun | 103 => 53 | 210 => 68 | 206 => 69 | n => n, fun | 9 => 9 | 4 => 4 | 24 => 78 | 3 => 3 | n => n, fun  | n => n⟩

theorem sx103 : Lays.n103 Try.prog sx103_ren := {
  mixed := by kernel_rfl,
  f103 := Try.func53.trans (congrArg some (by kernel_rfl)),
  f206 := Try.func69.trans (congrArg some (by kernel_rfl)),
  f210 := Try.func68.trans (congrArg some (by kernel_rfl)),
  t3 := Try.underlying3,
  a3 := Try.isAgg3,
  z3 := Try.sizeOf3,
  v3 := Try.zeroValue3,
  t4 := Try.underlying4,
  a4 := Try.isAgg4,
  z4 := Try.sizeOf4,
  v4 := Try.zeroValue4,
  t9 := Try.underlying9,
  a9 := Try.isAgg9,
  z9 := Try.sizeOf9,
  v9 := Try.zeroValue9,
  t24 := Try.underlying78,
  a24 := Try.isAgg78,
  z24 := Try.sizeOf78,
  v24 := Try.zeroValue78
}

def sx122_ren : Go.Shelf.Ren := ⟨fun | 122 => 50 | 215 => 67 | n => n, fun | 3 => 3 | 4 => 4 | n => n, fun  | n => n⟩

theorem sx122 : Lays.n122 Try.prog sx122_ren := {
  mixed := by kernel_rfl,
  f122 := Try.func50.trans (congrArg some (by kernel_rfl)),
  f215 := Try.func67.trans (congrArg some (by kernel_rfl)),
  t3 := Try.underlying3,
  a3 := Try.isAgg3,
  z3 := Try.sizeOf3,
  v3 := Try.zeroValue3,
  t4 := Try.underlying4,
  a4 := Try.isAgg4,
  z4 := Try.sizeOf4,
  v4 := Try.zeroValue4
}

end Go.Proofs.Ytjifdoneejofiab
