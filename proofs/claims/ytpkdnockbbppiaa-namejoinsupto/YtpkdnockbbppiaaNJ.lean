/- The library's own contracts of what the program calls, laid over this program. -/
import Derived.Test.YtpkdnockbbppiaaRows
import Derived.Shelf.Strings.OnBuilder
namespace Go.Proofs.Ytpkdnockbbppiaa
open Go.Shelf

def sx156_ren : Go.Shelf.Ren := ⟨fun | 156 => 27 | 165 => 40 | 166 => 41 | 169 => 42 | 240 => 51 | 241 => 52 | 276 => 58 | 277 => 59 | n => n, fun | 31 => 29 | 9 => 9 | 3 => 3 | 4 => 4 | 0 => 0 | 20 => 20 | 72 => 61 | 76 => 65 | 70 => 58 | 37 => 59 | 75 => 64 | 127 => 74 | 164 => 77 | 5 => 5 | 80 => 67 | n => n, fun  | n => n⟩

theorem sx156 : Lays.n156 Try.prog sx156_ren := {
  mixed := by kernel_rfl,
  f156 := Try.func27.trans (congrArg some (by kernel_rfl)),
  f165 := Try.func40.trans (congrArg some (by kernel_rfl)),
  f166 := Try.func41.trans (congrArg some (by kernel_rfl)),
  f169 := Try.func42.trans (congrArg some (by kernel_rfl)),
  f240 := Try.func51.trans (congrArg some (by kernel_rfl)),
  f241 := Try.func52.trans (congrArg some (by kernel_rfl)),
  f276 := Try.func58.trans (congrArg some (by kernel_rfl)),
  f277 := Try.func59.trans (congrArg some (by kernel_rfl)),
  t0 := Try.underlying0,
  a0 := Try.isAgg0,
  z0 := Try.sizeOf0,
  v0 := Try.zeroValue0,
  t3 := Try.underlying3,
  a3 := Try.isAgg3,
  z3 := Try.sizeOf3,
  v3 := Try.zeroValue3,
  t4 := Try.underlying4,
  a4 := Try.isAgg4,
  z4 := Try.sizeOf4,
  v4 := Try.zeroValue4,
  t9 := Try.underlying9,
  a9 := Try.isAgg9,
  z9 := Try.sizeOf9,
  v9 := Try.zeroValue9,
  t20 := Try.underlying20,
  a20 := Try.isAgg20,
  z20 := Try.sizeOf20,
  v20 := Try.zeroValue20,
  t31 := Try.underlying29,
  a31 := Try.isAgg29,
  z31 := Try.sizeOf29,
  v31 := Try.zeroValue29,
  t37 := Try.underlying59,
  a37 := Try.isAgg59,
  z37 := Try.sizeOf59,
  v37 := Try.zeroValue59,
  t70 := Try.underlying58,
  a70 := Try.isAgg58,
  z70 := Try.sizeOf58,
  v70 := Try.zeroValue58,
  t72 := Try.underlying61,
  a72 := Try.isAgg61,
  z72 := Try.sizeOf61,
  v72 := Try.zeroValue61,
  t75 := Try.underlying64,
  a75 := Try.isAgg64,
  z75 := Try.sizeOf64,
  v75 := Try.zeroValue64,
  t76 := Try.underlying65,
  a76 := Try.isAgg65,
  z76 := Try.sizeOf65,
  v76 := Try.zeroValue65,
  t127 := Try.underlying74,
  a127 := Try.isAgg74,
  z127 := Try.sizeOf74,
  v127 := Try.zeroValue74,
  t164 := Try.underlying77,
  a164 := Try.isAgg77,
  z164 := Try.sizeOf77,
  v164 := Try.zeroValue77
}

theorem sx156x : Builder.Extra Try.prog sx156_ren := {
  sizeBuilder := by kernel_rfl,
  liesBuilder := by kernel_rfl,
  t5 := Try.underlying5,
  a5 := Try.isAgg5,
  z5 := Try.sizeOf5,
  v5 := Try.zeroValue5,
  infoByte := by kernel_rfl,
  cellsByte := by kernel_rfl,
  sizeByte := by kernel_rfl,
  neB5 := by decide
}

end Go.Proofs.Ytpkdnockbbppiaa
