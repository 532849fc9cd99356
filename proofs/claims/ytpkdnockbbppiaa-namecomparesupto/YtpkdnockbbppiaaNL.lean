/- The library's own contracts of what the program calls, laid over this program. -/
import Derived.Test.YtpkdnockbbppiaaRows
import Derived.Shelf.Strings.Search3
import Derived.Shelf.Strings.LastIndex
import Derived.Shelf.Strings.Prefix
import Derived.Shelf.Small.Strs
import Derived.Shelf.Small.Wraps
namespace Go.Proofs.Ytpkdnockbbppiaa
open Go.Shelf

def sx219_ren : Go.Shelf.Ren := ⟨fun | 219 => 50 | 217 => 48 | 225 => 55 | 224 => 56 | 267 => 57 | 266 => 54 | 314 => 60 | n => n, fun | 9 => 9 | 3 => 3 | 4 => 4 | 5 => 5 | 46 => 75 | 146 => 72 | 51 => 71 | n => n, fun | 1 => 0 | n => n⟩

theorem sx219 : Lays.n219 Try.prog sx219_ren := {
  mixed := by kernel_rfl,
  f217 := Try.func48.trans (congrArg some (by kernel_rfl)),
  f219 := Try.func50.trans (congrArg some (by kernel_rfl)),
  f224 := Try.func56.trans (congrArg some (by kernel_rfl)),
  f225 := Try.func55.trans (congrArg some (by kernel_rfl)),
  f266 := Try.func54.trans (congrArg some (by kernel_rfl)),
  f267 := Try.func57.trans (congrArg some (by kernel_rfl)),
  f314 := Try.func60.trans (congrArg some (by kernel_rfl)),
  t3 := Try.underlying3,
  a3 := Try.isAgg3,
  z3 := Try.sizeOf3,
  v3 := Try.zeroValue3,
  t4 := Try.underlying4,
  a4 := Try.isAgg4,
  z4 := Try.sizeOf4,
  v4 := Try.zeroValue4,
  t5 := Try.underlying5,
  a5 := Try.isAgg5,
  z5 := Try.sizeOf5,
  v5 := Try.zeroValue5,
  t9 := Try.underlying9,
  a9 := Try.isAgg9,
  z9 := Try.sizeOf9,
  v9 := Try.zeroValue9,
  t46 := Try.underlying75,
  a46 := Try.isAgg75,
  z46 := Try.sizeOf75,
  v46 := Try.zeroValue75,
  t51 := Try.underlying71,
  a51 := Try.isAgg71,
  z51 := Try.sizeOf71,
  v51 := Try.zeroValue71,
  t146 := Try.underlying72,
  a146 := Try.isAgg72,
  z146 := Try.sizeOf72,
  v146 := Try.zeroValue72,
  g1 := by kernel_rfl
}

def sx144_ren : Go.Shelf.Ren := ⟨fun | 144 => 26 | 143 => 39 | 219 => 50 | 217 => 48 | 225 => 55 | 224 => 56 | 267 => 57 | 266 => 54 | 314 => 60 | n => n, fun | 9 => 9 | 4 => 4 | 3 => 3 | 5 => 5 | 46 => 75 | 146 => 72 | 51 => 71 | n => n, fun | 1 => 0 | n => n⟩

theorem sx144 : Lays.n144 Try.prog sx144_ren := {
  mixed := by kernel_rfl,
  f143 := Try.func39.trans (congrArg some (by kernel_rfl)),
  f144 := Try.func26.trans (congrArg some (by kernel_rfl)),
  f217 := Try.func48.trans (congrArg some (by kernel_rfl)),
  f219 := Try.func50.trans (congrArg some (by kernel_rfl)),
  f224 := Try.func56.trans (congrArg some (by kernel_rfl)),
  f225 := Try.func55.trans (congrArg some (by kernel_rfl)),
  f266 := Try.func54.trans (congrArg some (by kernel_rfl)),
  f267 := Try.func57.trans (congrArg some (by kernel_rfl)),
  f314 := Try.func60.trans (congrArg some (by kernel_rfl)),
  t3 := Try.underlying3,
  a3 := Try.isAgg3,
  z3 := Try.sizeOf3,
  v3 := Try.zeroValue3,
  t4 := Try.underlying4,
  a4 := Try.isAgg4,
  z4 := Try.sizeOf4,
  v4 := Try.zeroValue4,
  t5 := Try.underlying5,
  a5 := Try.isAgg5,
  z5 := Try.sizeOf5,
  v5 := Try.zeroValue5,
  t9 := Try.underlying9,
  a9 := Try.isAgg9,
  z9 := Try.sizeOf9,
  v9 := Try.zeroValue9,
  t46 := Try.underlying75,
  a46 := Try.isAgg75,
  z46 := Try.sizeOf75,
  v46 := Try.zeroValue75,
  t51 := Try.underlying71,
  a51 := Try.isAgg71,
  z51 := Try.sizeOf71,
  v51 := Try.zeroValue71,
  t146 := Try.underlying72,
  a146 := Try.isAgg72,
  z146 := Try.sizeOf72,
  v146 := Try.zeroValue72,
  g1 := by kernel_rfl
}

def sx148_ren : Go.Shelf.Ren := ⟨fun | 148 => 25 | 222 => 37 | 223 => 38 | 269 => 49 | n => n, fun | 9 => 9 | 3 => 3 | 4 => 4 | 5 => 5 | 146 => 72 | 51 => 71 | 46 => 75 | n => n, fun  | n => n⟩

theorem sx148 : Lays.n148 Try.prog sx148_ren := {
  mixed := by kernel_rfl,
  f148 := Try.func25.trans (congrArg some (by kernel_rfl)),
  f222 := Try.func37.trans (congrArg some (by kernel_rfl)),
  f223 := Try.func38.trans (congrArg some (by kernel_rfl)),
  f269 := Try.func49.trans (congrArg some (by kernel_rfl)),
  t3 := Try.underlying3,
  a3 := Try.isAgg3,
  z3 := Try.sizeOf3,
  v3 := Try.zeroValue3,
  t4 := Try.underlying4,
  a4 := Try.isAgg4,
  z4 := Try.sizeOf4,
  v4 := Try.zeroValue4,
  t5 := Try.underlying5,
  a5 := Try.isAgg5,
  z5 := Try.sizeOf5,
  v5 := Try.zeroValue5,
  t9 := Try.underlying9,
  a9 := Try.isAgg9,
  z9 := Try.sizeOf9,
  v9 := Try.zeroValue9,
  t46 := Try.underlying75,
  a46 := Try.isAgg75,
  z46 := Try.sizeOf75,
  v46 := Try.zeroValue75,
  t51 := Try.underlying71,
  a51 := Try.isAgg71,
  z51 := Try.sizeOf71,
  v51 := Try.zeroValue71,
  t146 := Try.underlying72,
  a146 := Try.isAgg72,
  z146 := Try.sizeOf72,
  v146 := Try.zeroValue72
}

def sx137_ren : Go.Shelf.Ren := ⟨fun | 137 => 35 | 217 => 48 | 266 => 54 | n => n, fun | 9 => 9 | 5 => 5 | 3 => 3 | n => n, fun  | n => n⟩

theorem sx137 : Lays.n137 Try.prog sx137_ren := {
  mixed := by kernel_rfl,
  f137 := Try.func35.trans (congrArg some (by kernel_rfl)),
  f217 := Try.func48.trans (congrArg some (by kernel_rfl)),
  f266 := Try.func54.trans (congrArg some (by kernel_rfl)),
  t3 := Try.underlying3,
  a3 := Try.isAgg3,
  z3 := Try.sizeOf3,
  v3 := Try.zeroValue3,
  t5 := Try.underlying5,
  a5 := Try.isAgg5,
  z5 := Try.sizeOf5,
  v5 := Try.zeroValue5,
  t9 := Try.underlying9,
  a9 := Try.isAgg9,
  z9 := Try.sizeOf9,
  v9 := Try.zeroValue9
}

def sx99_ren : Go.Shelf.Ren := ⟨fun | 99 => 34 | 206 => 47 | n => n, fun | 9 => 9 | 4 => 4 | 3 => 3 | n => n, fun  | n => n⟩

theorem sx99 : Lays.n99 Try.prog sx99_ren := {
  mixed := by kernel_rfl,
  f99 := Try.func34.trans (congrArg some (by kernel_rfl)),
  f206 := Try.func47.trans (congrArg some (by kernel_rfl)),
  t3 := Try.underlying3,
  a3 := Try.isAgg3,
  z3 := Try.sizeOf3,
  v3 := Try.zeroValue3,
  t4 := Try.underlying4,
  a4 := Try.isAgg4,
  z4 := Try.sizeOf4,
  v4 := Try.zeroValue4,
  t9 := Try.underlying9,
  a9 := Try.isAgg9,
  z9 := Try.sizeOf9,
  v9 := Try.zeroValue9
}

def sx103_ren : Go.Shelf.Ren := ⟨fun | 103 => 33 | 210 => 46 | 206 => 47 | n => n, fun | 9 => 9 | 4 => 4 | 24 => 52 | 3 => 3 | n => n, fun  | n => n⟩

theorem sx103 : Lays.n103 Try.prog sx103_ren := {
  mixed := by kernel_rfl,
  f103 := Try.func33.trans (congrArg some (by kernel_rfl)),
  f206 := Try.func47.trans (congrArg some (by kernel_rfl)),
  f210 := Try.func46.trans (congrArg some (by kernel_rfl)),
  t3 := Try.underlying3,
  a3 := Try.isAgg3,
  z3 := Try.sizeOf3,
  v3 := Try.zeroValue3,
  t4 := Try.underlying4,
  a4 := Try.isAgg4,
  z4 := Try.sizeOf4,
  v4 := Try.zeroValue4,
  t9 := Try.underlying9,
  a9 := Try.isAgg9,
  z9 := Try.sizeOf9,
  v9 := Try.zeroValue9,
  t24 := Try.underlying52,
  a24 := Try.isAgg52,
  z24 := Try.sizeOf52,
  v24 := Try.zeroValue52
}

def sx122_ren : Go.Shelf.Ren := ⟨fun | 122 => 32 | 215 => 45 | n => n, fun | 3 => 3 | 4 => 4 | n => n, fun  | n => n⟩

theorem sx122 : Lays.n122 Try.prog sx122_ren := {
  mixed := by kernel_rfl,
  f122 := Try.func32.trans (congrArg some (by kernel_rfl)),
  f215 := Try.func45.trans (congrArg some (by kernel_rfl)),
  t3 := Try.underlying3,
  a3 := Try.isAgg3,
  z3 := Try.sizeOf3,
  v3 := Try.zeroValue3,
  t4 := Try.underlying4,
  a4 := Try.isAgg4,
  z4 := Try.sizeOf4,
  v4 := Try.zeroValue4
}

end Go.Proofs.Ytpkdnockbbppiaa
