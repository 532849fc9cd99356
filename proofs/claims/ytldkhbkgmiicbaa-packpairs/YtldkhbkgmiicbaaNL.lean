/- The library's own contracts of what the program calls, laid over this program. -/
import Derived.Test.YtldkhbkgmiicbaaRows
import Derived.Shelf.Strings.Search3
import Derived.Shelf.Strings.LastIndex
import Derived.Shelf.Strings.Prefix
import Derived.Shelf.Small.Strs
import Derived.Shelf.Small.Wraps
namespace Go.Proofs.Ytldkhbkgmiicbaa
open Go.Shelf

def sx219_ren : Go.Shelf.Ren := ⟨fun | 219 => 43 | 217 => 37 | 225 => 44 | 224 => 45 | 267 => 46 | 266 => 42 | 314 => 47 | n => n, fun | 9 => 9 | 3 => 3 | 4 => 4 | 5 => 5 | 46 => 80 | 146 => 78 | 51 => 77 | n => n, fun | 1 => 0 | n => n⟩

theorem sx219 : Lays.n219 Try.prog sx219_ren := {
  mixed := by kernel_rfl,
  f217 := Try.func37.trans (congrArg some (by kernel_rfl)),
  f219 := Try.func43.trans (congrArg some (by kernel_rfl)),
  f224 := Try.func45.trans (congrArg some (by kernel_rfl)),
  f225 := Try.func44.trans (congrArg some (by kernel_rfl)),
  f266 := Try.func42.trans (congrArg some (by kernel_rfl)),
  f267 := Try.func46.trans (congrArg some (by kernel_rfl)),
  f314 := Try.func47.trans (congrArg some (by kernel_rfl)),
  t3 := Try.underlying3,
  a3 := Try.isAgg3,
  z3 := Try.sizeOf3,
  v3 := Try.zeroValue3,
  t4 := Try.underlying4,
  a4 := Try.isAgg4,
  z4 := Try.sizeOf4,
  v4 := Try.zeroValue4,
  t5 := Try.underlying5,
  a5 := Try.isAgg5,
  z5 := Try.sizeOf5,
  v5 := Try.zeroValue5,
  t9 := Try.underlying9,
  a9 := Try.isAgg9,
  z9 := Try.sizeOf9,
  v9 := Try.zeroValue9,
  t46 := Try.underlying80,
  a46 := Try.isAgg80,
  z46 := Try.sizeOf80,
  v46 := Try.zeroValue80,
  t51 := Try.underlying77,
  a51 := Try.isAgg77,
  z51 := Try.sizeOf77,
  v51 := Try.zeroValue77,
  t146 := Try.underlying78,
  a146 := Try.isAgg78,
  z146 := Try.sizeOf78,
  v146 := Try.zeroValue78,
  g1 := by kernel_rfl
}

def sx148_ren : Go.Shelf.Ren := ⟨fun | 148 => 23 | 222 => 34 | 223 => 35 | 269 => 40 | n => n, fun | 9 => 9 | 3 => 3 | 4 => 4 | 5 => 5 | 146 => 78 | 51 => 77 | 46 => 80 | n => n, fun  | n => n⟩

theorem sx148 : Lays.n148 Try.prog sx148_ren := {
  mixed := by kernel_rfl,
  f148 := Try.func23.trans (congrArg some (by kernel_rfl)),
  f222 := Try.func34.trans (congrArg some (by kernel_rfl)),
  f223 := Try.func35.trans (congrArg some (by kernel_rfl)),
  f269 := Try.func40.trans (congrArg some (by kernel_rfl)),
  t3 := Try.underlying3,
  a3 := Try.isAgg3,
  z3 := Try.sizeOf3,
  v3 := Try.zeroValue3,
  t4 := Try.underlying4,
  a4 := Try.isAgg4,
  z4 := Try.sizeOf4,
  v4 := Try.zeroValue4,
  t5 := Try.underlying5,
  a5 := Try.isAgg5,
  z5 := Try.sizeOf5,
  v5 := Try.zeroValue5,
  t9 := Try.underlying9,
  a9 := Try.isAgg9,
  z9 := Try.sizeOf9,
  v9 := Try.zeroValue9,
  t46 := Try.underlying80,
  a46 := Try.isAgg80,
  z46 := Try.sizeOf80,
  v46 := Try.zeroValue80,
  t51 := Try.underlying77,
  a51 := Try.isAgg77,
  z51 := Try.sizeOf77,
  v51 := Try.zeroValue77,
  t146 := Try.underlying78,
  a146 := Try.isAgg78,
  z146 := Try.sizeOf78,
  v146 := Try.zeroValue78
}

def sx137_ren : Go.Shelf.Ren := ⟨fun | 137 => 30 | 217 => 37 | 266 => 42 | n => n, fun | 9 => 9 | 5 => 5 | 3 => 3 | n => n, fun  | n => n⟩

theorem sx137 : Lays.n137 Try.prog sx137_ren := {
  mixed := by kernel_rfl,
  f137 := Try.func30.trans (congrArg some (by kernel_rfl)),
  f217 := Try.func37.trans (congrArg some (by kernel_rfl)),
  f266 := Try.func42.trans (congrArg some (by kernel_rfl)),
  t3 := Try.underlying3,
  a3 := Try.isAgg3,
  z3 := Try.sizeOf3,
  v3 := Try.zeroValue3,
  t5 := Try.underlying5,
  a5 := Try.isAgg5,
  z5 := Try.sizeOf5,
  v5 := Try.zeroValue5,
  t9 := Try.underlying9,
  a9 := Try.isAgg9,
  z9 := Try.sizeOf9,
  v9 := Try.zeroValue9
}

def sx99_ren : Go.Shelf.Ren := ⟨fun | 99 => 31 | 206 => 38 | n => n, fun | 9 => 9 | 4 => 4 | 3 => 3 | n => n, fun  | n => n⟩

theorem sx99 : Lays.n99 Try.prog sx99_ren := {
  mixed := by kernel_rfl,
  f99 := Try.func31.trans (congrArg some (by kernel_rfl)),
  f206 := Try.func38.trans (congrArg some (by kernel_rfl)),
  t3 := Try.underlying3,
  a3 := Try.isAgg3,
  z3 := Try.sizeOf3,
  v3 := Try.zeroValue3,
  t4 := Try.underlying4,
  a4 := Try.isAgg4,
  z4 := Try.sizeOf4,
  v4 := Try.zeroValue4,
  t9 := Try.underlying9,
  a9 := Try.isAgg9,
  z9 := Try.sizeOf9,
  v9 := Try.zeroValue9
}

end Go.Proofs.Ytldkhbkgmiicbaa
