/- The library's own contracts of what the program calls, laid over this program. -/
import Derived.Test.YtpkdnockbbppiabRows
import Derived.Shelf.Strings.Search3
import Derived.Shelf.Strings.LastIndex
import Derived.Shelf.Strings.Prefix
import Derived.Shelf.Small.Strs
import Derived.Shelf.Small.Wraps
namespace Go.Proofs.Ytpkdnockbbppiab
open Go.Shelf

def sx219_ren : Go.Shelf.Ren := ⟨fun | 219 => 55 | 217 => 37 | 225 => 58 | 224 => 59 | 267 => 60 | 266 => 52 | 314 => 63 | n => n, fun | 9 => 9 | 3 => 3 | 4 => 4 | 5 => 5 | 46 => 79 | 146 => 76 | 51 => 75 | n => n, fun | 1 => 0 | n => n⟩

theorem sx219 : Lays.n219 Try.prog sx219_ren := {
  mixed := by kernel_rfl,
  f217 := Try.func37.trans (congrArg some (by kernel_rfl)),
  f219 := Try.func55.trans (congrArg some (by kernel_rfl)),
  f224 := Try.func59.trans (congrArg some (by kernel_rfl)),
  f225 := Try.func58.trans (congrArg some (by kernel_rfl)),
  f266 := Try.func52.trans (congrArg some (by kernel_rfl)),
  f267 := Try.func60.trans (congrArg some (by kernel_rfl)),
  f314 := Try.func63.trans (congrArg some (by kernel_rfl)),
  t3 := Try.underlying3,
  a3 := Try.isAgg3,
  z3 := Try.sizeOf3,
  v3 := Try.zeroValue3,
  t4 := Try.underlying4,
  a4 := Try.isAgg4,
  z4 := Try.sizeOf4,
  v4 := Try.zeroValue4,
  t5 := Try.underlying5,
  a5 := Try.isAgg5,
  z5 := Try.sizeOf5,
  v5 := Try.zeroValue5,
  t9 := Try.underlying9,
  a9 := Try.isAgg9,
  z9 := Try.sizeOf9,
  v9 := Try.zeroValue9,
  t46 := Try.underlying79,
  a46 := Try.isAgg79,
  z46 := Try.sizeOf79,
  v46 := Try.zeroValue79,
  t51 := Try.underlying75,
  a51 := Try.isAgg75,
  z51 := Try.sizeOf75,
  v51 := Try.zeroValue75,
  t146 := Try.underlying76,
  a146 := Try.isAgg76,
  z146 := Try.sizeOf76,
  v146 := Try.zeroValue76,
  g1 := by kernel_rfl
}

def sx144_ren : Go.Shelf.Ren := ⟨fun | 144 => 34 | 143 => 48 | 219 => 55 | 217 => 37 | 225 => 58 | 224 => 59 | 267 => 60 | 266 => 52 | 314 => 63 | n => n, fun | 9 => 9 | 4 => 4 | 3 => 3 | 5 => 5 | 46 => 79 | 146 => 76 | 51 => 75 | n => n, fun | 1 => 0 | n => n⟩

theorem sx144 : Lays.n144 Try.prog sx144_ren := {
  mixed := by kernel_rfl,
  f143 := Try.func48.trans (congrArg some (by kernel_rfl)),
  f144 := Try.func34.trans (congrArg some (by kernel_rfl)),
  f217 := Try.func37.trans (congrArg some (by kernel_rfl)),
  f219 := Try.func55.trans (congrArg some (by kernel_rfl)),
  f224 := Try.func59.trans (congrArg some (by kernel_rfl)),
  f225 := Try.func58.trans (congrArg some (by kernel_rfl)),
  f266 := Try.func52.trans (congrArg some (by kernel_rfl)),
  f267 := Try.func60.trans (congrArg some (by kernel_rfl)),
  f314 := Try.func63.trans (congrArg some (by kernel_rfl)),
  t3 := Try.underlying3,
  a3 := Try.isAgg3,
  z3 := Try.sizeOf3,
  v3 := Try.zeroValue3,
  t4 := Try.underlying4,
  a4 := Try.isAgg4,
  z4 := Try.sizeOf4,
  v4 := Try.zeroValue4,
  t5 := Try.underlying5,
  a5 := Try.isAgg5,
  z5 := Try.sizeOf5,
  v5 := Try.zeroValue5,
  t9 := Try.underlying9,
  a9 := Try.isAgg9,
  z9 := Try.sizeOf9,
  v9 := Try.zeroValue9,
  t46 := Try.underlying79,
  a46 := Try.isAgg79,
  z46 := Try.sizeOf79,
  v46 := Try.zeroValue79,
  t51 := Try.underlying75,
  a51 := Try.isAgg75,
  z51 := Try.sizeOf75,
  v51 := Try.zeroValue75,
  t146 := Try.underlying76,
  a146 := Try.isAgg76,
  z146 := Try.sizeOf76,
  v146 := Try.zeroValue76,
  g1 := by kernel_rfl
}

def sx148_ren : Go.Shelf.Ren := ⟨fun | 148 => 33 | 222 => 46 | 223 => 47 | 269 => 54 | n => n, fun | 9 => 9 | 3 => 3 | 4 => 4 | 5 => 5 | 146 => 76 | 51 => 75 | 46 => 79 | n => n, fun  | n => n⟩

theorem sx148 : Lays.n148 Try.prog sx148_ren := {
  mixed := by kernel_rfl,
  f148 := Try.func33.trans (congrArg some (by kernel_rfl)),
  f222 := Try.func46.trans (congrArg some (by kernel_rfl)),
  f223 := Try.func47.trans (congrArg some (by kernel_rfl)),
  f269 := Try.func54.trans (congrArg some (by kernel_rfl)),
  t3 := Try.underlying3,
  a3 := Try.isAgg3,
  z3 := Try.sizeOf3,
  v3 := Try.zeroValue3,
  t4 := Try.underlying4,
  a4 := Try.isAgg4,
  z4 := Try.sizeOf4,
  v4 := Try.zeroValue4,
  t5 := Try.underlying5,
  a5 := Try.isAgg5,
  z5 := Try.sizeOf5,
  v5 := Try.zeroValue5,
  t9 := Try.underlying9,
  a9 := Try.isAgg9,
  z9 := Try.sizeOf9,
  v9 := Try.zeroValue9,
  t46 := Try.underlying79,
  a46 := Try.isAgg79,
  z46 := Try.sizeOf79,
  v46 := Try.zeroValue79,
  t51 := Try.underlying75,
  a51 := Try.isAgg75,
  z51 := Try.sizeOf75,
  v51 := Try.zeroValue75,
  t146 := Try.underlying76,
  a146 := Try.isAgg76,
  z146 := Try.sizeOf76,
  v146 := Try.zeroValue76
}

def sx137_ren : Go.Shelf.Ren := ⟨fun | 137 => 20 | 217 => 37 | 266 => 52 | n => n, fun | 9 => 9 | 5 => 5 | 3 => 3 | n => n, fun  | n => n⟩

theorem sx137 : Lays.n137 Try.prog sx137_ren := {
  mixed := by kernel_rfl,
  f137 := Try.func20.trans (congrArg some (by kernel_rfl)),
  f217 := Try.func37.trans (congrArg some (by kernel_rfl)),
  f266 := Try.func52.trans (congrArg some (by kernel_rfl)),
  t3 := Try.underlying3,
  a3 := Try.isAgg3,
  z3 := Try.sizeOf3,
  v3 := Try.zeroValue3,
  t5 := Try.underlying5,
  a5 := Try.isAgg5,
  z5 := Try.sizeOf5,
  v5 := Try.zeroValue5,
  t9 := Try.underlying9,
  a9 := Try.isAgg9,
  z9 := Try.sizeOf9,
  v9 := Try.zeroValue9
}

def sx99_ren : Go.Shelf.Ren := ⟨fun | 99 => 21 | 206 => 38 | n => n, fun | 9 => 9 | 4 => 4 | 3 => 3 | n => n, fun  | n => n⟩

theorem sx99 : Lays.n99 Try.prog sx99_ren := {
  mixed := by kernel_rfl,
  f99 := Try.func21.trans (congrArg some (by kernel_rfl)),
  f206 := Try.func38.trans (congrArg some (by kernel_rfl)),
  t3 := Try.underlying3,
  a3 := Try.isAgg3,
  z3 := Try.sizeOf3,
  v3 := Try.zeroValue3,
  t4 := Try.underlying4,
  a4 := Try.isAgg4,
  z4 := Try.sizeOf4,
  v4 := Try.zeroValue4,
  t9 := Try.underlying9,
  a9 := Try.isAgg9,
  z9 := Try.sizeOf9,
  v9 := Try.zeroValue9
}

def sx103_ren : Go.Shelf.Ren := ⟨fun | 103 => 31 | 210 => 45 | 206 => 38 | n => n, fun | 9 => 9 | 4 => 4 | 24 => 54 | 3 => 3 | n => n, fun  | n => n⟩

theorem sx103 : Lays.n103 Try.prog sx103_ren := {
  mixed := by kernel_rfl,
  f103 := Try.func31.trans (congrArg some (by kernel_rfl)),
  f206 := Try.func38.trans (congrArg some (by kernel_rfl)),
  f210 := Try.func45.trans (congrArg some (by kernel_rfl)),
  t3 := Try.underlying3,
  a3 := Try.isAgg3,
  z3 := Try.sizeOf3,
  v3 := Try.zeroValue3,
  t4 := Try.underlying4,
  a4 := Try.isAgg4,
  z4 := Try.sizeOf4,
  v4 := Try.zeroValue4,
  t9 := Try.underlying9,
  a9 := Try.isAgg9,
  z9 := Try.sizeOf9,
  v9 := Try.zeroValue9,
  t24 := Try.underlying54,
  a24 := Try.isAgg54,
  z24 := Try.sizeOf54,
  v24 := Try.zeroValue54
}

def sx122_ren : Go.Shelf.Ren := ⟨fun | 122 => 30 | 215 => 44 | n => n, fun | 3 => 3 | 4 => 4 | n => n, fun  | n => n⟩

theorem sx122 : Lays.n122 Try.prog sx122_ren := {
  mixed := by kernel_rfl,
  f122 := Try.func30.trans (congrArg some (by kernel_rfl)),
  f215 := Try.func44.trans (congrArg some (by kernel_rfl)),
  t3 := Try.underlying3,
  a3 := Try.isAgg3,
  z3 := Try.sizeOf3,
  v3 := Try.zeroValue3,
  t4 := Try.underlying4,
  a4 := Try.isAgg4,
  z4 := Try.sizeOf4,
  v4 := Try.zeroValue4
}

end Go.Proofs.Ytpkdnockbbppiab
