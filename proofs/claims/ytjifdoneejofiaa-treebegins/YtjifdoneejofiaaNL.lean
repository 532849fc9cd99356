/- The library's own contracts of what the program calls, laid over this program. -/
import Derived.Test.YtjifdoneejofiaaRows
import Derived.Shelf.Strings.Search3
import Derived.Shelf.Strings.LastIndex
import Derived.Shelf.Strings.Prefix
import Derived.Shelf.Small.Strs
import Derived.Shelf.Small.Wraps
namespace Go.Proofs.Ytjifdoneejofiaa
open Go.Shelf

def sx219_ren : Go.Shelf.Ren := ⟨fun | 219 => 98 | 217 => 95 | 225 => 102 | 224 => 103 | 267 => 104 | 266 => 100 | 314 => 105 | n => n, fun | 9 => 9 | 3 => 3 | 4 => 4 | 5 => 5 | 46 => 103 | 146 => 117 | 51 => 116 | n => n, fun | 1 => 0 | n => n⟩

theorem sx219 : Lays.n219 Try.prog sx219_ren := {
  mixed := by kernel_rfl,
  f217 := Try.func95.trans (congrArg some (by kernel_rfl)),
  f219 := Try.func98.trans (congrArg some (by kernel_rfl)),
  f224 := Try.func103.trans (congrArg some (by kernel_rfl)),
  f225 := Try.func102.trans (congrArg some (by kernel_rfl)),
  f266 := Try.func100.trans (congrArg some (by kernel_rfl)),
  f267 := Try.func104.trans (congrArg some (by kernel_rfl)),
  f314 := Try.func105.trans (congrArg some (by kernel_rfl)),
  t3 := Try.underlying3,
  a3 := Try.isAgg3,
  z3 := Try.sizeOf3,
  v3 := Try.zeroValue3,
  t4 := Try.underlying4,
  a4 := Try.isAgg4,
  z4 := Try.sizeOf4,
  v4 := Try.zeroValue4,
  t5 := Try.underlying5,
  a5 := Try.isAgg5,
  z5 := Try.sizeOf5,
  v5 := Try.zeroValue5,
  t9 := Try.underlying9,
  a9 := Try.isAgg9,
  z9 := Try.sizeOf9,
  v9 := Try.zeroValue9,
  t46 := Try.underlying103,
  a46 := Try.isAgg103,
  z46 := Try.sizeOf103,
  v46 := Try.zeroValue103,
  t51 := Try.underlying116,
  a51 := Try.isAgg116,
  z51 := Try.sizeOf116,
  v51 := Try.zeroValue116,
  t146 := Try.underlying117,
  a146 := Try.isAgg117,
  z146 := Try.sizeOf117,
  v146 := Try.zeroValue117,
  g1 := by kernel_rfl
}

def sx148_ren : Go.Shelf.Ren := ⟨fun | 148 => 82 | 222 => 93 | 223 => 94 | 269 => 99 | n => n, fun | 9 => 9 | 3 => 3 | 4 => 4 | 5 => 5 | 146 => 117 | 51 => 116 | 46 => 103 | n => n, fun  | n => n⟩

theorem sx148 : Lays.n148 Try.prog sx148_ren := {
  mixed := by kernel_rfl,
  f148 := Try.func82.trans (congrArg some (by kernel_rfl)),
  f222 := Try.func93.trans (congrArg some (by kernel_rfl)),
  f223 := Try.func94.trans (congrArg some (by kernel_rfl)),
  f269 := Try.func99.trans (congrArg some (by kernel_rfl)),
  t3 := Try.underlying3,
  a3 := Try.isAgg3,
  z3 := Try.sizeOf3,
  v3 := Try.zeroValue3,
  t4 := Try.underlying4,
  a4 := Try.isAgg4,
  z4 := Try.sizeOf4,
  v4 := Try.zeroValue4,
  t5 := Try.underlying5,
  a5 := Try.isAgg5,
  z5 := Try.sizeOf5,
  v5 := Try.zeroValue5,
  t9 := Try.underlying9,
  a9 := Try.isAgg9,
  z9 := Try.sizeOf9,
  v9 := Try.zeroValue9,
  t46 := Try.underlying103,
  a46 := Try.isAgg103,
  z46 := Try.sizeOf103,
  v46 := Try.zeroValue103,
  t51 := Try.underlying116,
  a51 := Try.isAgg116,
  z51 := Try.sizeOf116,
  v51 := Try.zeroValue116,
  t146 := Try.underlying117,
  a146 := Try.isAgg117,
  z146 := Try.sizeOf117,
  v146 := Try.zeroValue117
}

def sx137_ren : Go.Shelf.Ren := ⟨fun | 137 => 84 | 217 => 95 | 266 => 100 | n => n, fun | 9 => 9 | 5 => 5 | 3 => 3 | n => n, fun  | n => n⟩

theorem sx137 : Lays.n137 Try.prog sx137_ren := {
  mixed := by kernel_rfl,
  f137 := Try.func84.trans (congrArg some (by kernel_rfl)),
  f217 := Try.func95.trans (congrArg some (by kernel_rfl)),
  f266 := Try.func100.trans (congrArg some (by kernel_rfl)),
  t3 := Try.underlying3,
  a3 := Try.isAgg3,
  z3 := Try.sizeOf3,
  v3 := Try.zeroValue3,
  t5 := Try.underlying5,
  a5 := Try.isAgg5,
  z5 := Try.sizeOf5,
  v5 := Try.zeroValue5,
  t9 := Try.underlying9,
  a9 := Try.isAgg9,
  z9 := Try.sizeOf9,
  v9 := Try.zeroValue9
}

def sx99_ren : Go.Shelf.Ren := ⟨fun | 99 => 77 | 206 => 91 | n => n, fun | 9 => 9 | 4 => 4 | 3 => 3 | n => n, fun  | n => n⟩

theorem sx99 : Lays.n99 Try.prog sx99_ren := {
  mixed := by kernel_rfl,
  f99 := Try.func77.trans (congrArg some (by kernel_rfl)),
  f206 := Try.func91.trans (congrArg some (by kernel_rfl)),
  t3 := Try.underlying3,
  a3 := Try.isAgg3,
  z3 := Try.sizeOf3,
  v3 := Try.zeroValue3,
  t4 := Try.underlying4,
  a4 := Try.isAgg4,
  z4 := Try.sizeOf4,
  v4 := Try.zeroValue4,
  t9 := Try.underlying9,
  a9 := Try.isAgg9,
  z9 := Try.sizeOf9,
  v9 := Try.zeroValue9
}

def sx103_ren : Go.Shelf.Ren := ⟨fun | 103 => 76 | 210 => 90 | 206 => 91 | n => n, fun | 9 => 9 | 4 => 4 | 24 => 99 | 3 => 3 | n => n, fun  | n => n⟩

theorem sx103 : Lays.n103 Try.prog sx103_ren := {
  mixed := by kernel_rfl,
  f103 := Try.func76.trans (congrArg some (by kernel_rfl)),
  f206 := Try.func91.trans (congrArg some (by kernel_rfl)),
  f210 := Try.func90.trans (congrArg some (by kernel_rfl)),
  t3 := Try.underlying3,
  a3 := Try.isAgg3,
  z3 := Try.sizeOf3,
  v3 := Try.zeroValue3,
  t4 := Try.underlying4,
  a4 := Try.isAgg4,
  z4 := Try.sizeOf4,
  v4 := Try.zeroValue4,
  t9 := Try.underlying9,
  a9 := Try.isAgg9,
  z9 := Try.sizeOf9,
  v9 := Try.zeroValue9,
  t24 := Try.underlying99,
  a24 := Try.isAgg99,
  z24 := Try.sizeOf99,
  v24 := Try.zeroValue99
}

def sx122_ren : Go.Shelf.Ren := ⟨fun | 122 => 75 | 215 => 89 | n => n, fun | 3 => 3 | 4 => 4 | n => n, fun  | n => n⟩

theorem sx122 : Lays.n122 Try.prog sx122_ren := {
  mixed := by kernel_rfl,
  f122 := Try.func75.trans (congrArg some (by kernel_rfl)),
  f215 := Try.func89.trans (congrArg some (by kernel_rfl)),
  t3 := Try.underlying3,
  a3 := Try.isAgg3,
  z3 := Try.sizeOf3,
  v3 := Try.zeroValue3,
  t4 := Try.underlying4,
  a4 := Try.isAgg4,
  z4 := Try.sizeOf4,
  v4 := Try.zeroValue4
}

end Go.Proofs.Ytjifdoneejofiaa
