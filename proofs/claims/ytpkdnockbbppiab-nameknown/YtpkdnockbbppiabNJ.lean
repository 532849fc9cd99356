/- The library's own contracts of what the program calls, laid over this program. -/
import Derived.Test.YtpkdnockbbppiabRows
import Derived.Shelf.Strings.OnBuilder
namespace Go.Proofs.Ytpkdnockbbppiab
open Go.Shelf

def sx156_ren : Go.Shelf.Ren := ⟨fun | 156 => 35 | 165 => 49 | 166 => 50 | 169 => 51 | 240 => 56 | 241 => 57 | 276 => 61 | 277 => 62 | n => n, fun | 31 => 39 | 9 => 9 | 3 => 3 | 4 => 4 | 0 => 0 | 20 => 20 | 72 => 68 | 76 => 72 | 70 => 65 | 37 => 66 | 75 => 71 | 127 => 78 | 164 => 81 | 5 => 5 | 80 => 74 | n => n, fun  | n => n⟩

theorem sx156 : Lays.n156 Try.prog sx156_ren := {
  mixed := by kernel_rfl,
  f156 := Try.func35.trans (congrArg some (by kernel_rfl)),
  f165 := Try.func49.trans (congrArg some (by kernel_rfl)),
  f166 := Try.func50.trans (congrArg some (by kernel_rfl)),
  f169 := Try.func51.trans (congrArg some (by kernel_rfl)),
  f240 := Try.func56.trans (congrArg some (by kernel_rfl)),
  f241 := Try.func57.trans (congrArg some (by kernel_rfl)),
  f276 := Try.func61.trans (congrArg some (by kernel_rfl)),
  f277 := Try.func62.trans (congrArg some (by kernel_rfl)),
  t0 := Try.underlying0,
  a0 := Try.isAgg0,
  z0 := Try.sizeOf0,
  v0 := Try.zeroValue0,
  t3 := Try.underlying3,
  a3 := Try.isAgg3,
  z3 := Try.sizeOf3,
  v3 := Try.zeroValue3,
  t4 := Try.underlying4,
  a4 := Try.isAgg4,
  z4 := Try.sizeOf4,
  v4 := Try.zeroValue4,
  t9 := Try.underlying9,
  a9 := Try.isAgg9,
  z9 := Try.sizeOf9,
  v9 := Try.zeroValue9,
  t20 := Try.underlying20,
  a20 := Try.isAgg20,
  z20 := Try.sizeOf20,
  v20 := Try.zeroValue20,
  t31 := Try.underlying39,
  a31 := Try.isAgg39,
  z31 := Try.sizeOf39,
  v31 := Try.zeroValue39,
  t37 := Try.underlying66,
  a37 := Try.isAgg66,
  z37 := Try.sizeOf66,
  v37 := Try.zeroValue66,
  t70 := Try.underlying65,
  a70 := Try.isAgg65,
  z70 := Try.sizeOf65,
  v70 := Try.zeroValue65,
  t72 := Try.underlying68,
  a72 := Try.isAgg68,
  z72 := Try.sizeOf68,
  v72 := Try.zeroValue68,
  t75 := Try.underlying71,
  a75 := Try.isAgg71,
  z75 := Try.sizeOf71,
  v75 := Try.zeroValue71,
  t76 := Try.underlying72,
  a76 := Try.isAgg72,
  z76 := Try.sizeOf72,
  v76 := Try.zeroValue72,
  t127 := Try.underlying78,
  a127 := Try.isAgg78,
  z127 := Try.sizeOf78,
  v127 := Try.zeroValue78,
  t164 := Try.underlying81,
  a164 := Try.isAgg81,
  z164 := Try.sizeOf81,
  v164 := Try.zeroValue81
}

theorem sx156x : Builder.Extra Try.prog sx156_ren := {
  sizeBuilder := by kernel_rfl,
  liesBuilder := by kernel_rfl,
  t5 := Try.underlying5,
  a5 := Try.isAgg5,
  z5 := Try.sizeOf5,
  v5 := Try.zeroValue5,
  infoByte := by kernel_rfl,
  cellsByte := by kernel_rfl,
  sizeByte := by kernel_rfl,
  neB5 := by decide
}

end Go.Proofs.Ytpkdnockbbppiab
