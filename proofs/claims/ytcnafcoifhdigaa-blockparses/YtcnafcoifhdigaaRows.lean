/-
  No cell of these rows narrows 'for every input' (looked for: loops, veiled, ifaces, maps, wideKeys, modest, calm, conditions, laid).
  DERIVED. THE GIVEN ROWS OF THIS SEAT. 5 by the template 'for every input the law returns true; each argument reads behind the call as it read before'; 0 by the template 'total and deterministic' (their statements: YtcnafcoifhdigaaTotals.lean).
  GIVEN WITH THE SEED: the statements are not yours to turn. If you find one false, say at which input.
  Laid BY PROGRAM, IN A SANDBOX (cutbox-rows.mjs): the forced cells as the released guide's own fill.sh prints them over the translation 8cc45ff95b7388b2… (all of the seat's roots in one cut). By AI agents, Wed Nov 11 2026. No macro, syntax, notation, axiom, sorry.
-/
import Derived.Test.YtcnafcoifhdigaaChecked
import GoSem.Claim
import GoSem.ClaimJoined
import GoSem.ClaimMapViews
import Derived.JoinedTies
import Derived.KernelRfl
namespace Go.Proofs.Ytcnafcoifhdigaa
/- THE CELL 'sum', in the pinned program and in every row, IS THE sha256 OF THE DUMP (.gsa) THAT YtcnafcoifhdigaaProg.lean LOADS. Nothing in Lean hashes anything: it is a label: what it is worth is what the hold of that sum in a sandbox is worth. -/
noncomputable def Try.pinned : Pinned := { name := "ytcnafcoifhdigaa", sum := "8cc45ff95b7388b269aedbfd9f054d1d0d62673de2998f9394e4ded0aaa5b172", checked := Try.checked }
namespace Rows
def none {H : Type} : Left H := { results := [], args := [] }

/-- 'tabularylaw06.BlockPacks': WHATEVER THE INPUT: true; the input reads as it did. -/
def blockPacksSpec : ChangeSpec := { name := "blockPacks", fn := fun _ => fun
  | [d] => { results := [.lit (.bool true)], args := [d] }
  | _ => none }
def blockPacksRow : OpenClaim := { program := "ytcnafcoifhdigaa", sum := "8cc45ff95b7388b269aedbfd9f054d1d0d62673de2998f9394e4ded0aaa5b172", func := "tabulary/tabularylaw06.BlockPacks", spec := "blockPacks", unfollowed := true, recurses := true, apart := false }
def BlockPacksSaid : Prop := blockPacksRow.holds Try.pinned (OpenSpec.ofChange blockPacksSpec)

/-- ITS FALSE NEIGHBOUR: 'it returns false'. Refute it at one input. -/
def blockPacksWrong : ChangeSpec := { name := "blockPacks", fn := fun _ => fun
  | [d] => { results := [.lit (.bool false)], args := [d] }
  | _ => none }
def BlockPacksWrongFalsely : Prop := blockPacksRow.holds Try.pinned (OpenSpec.ofChange blockPacksWrong)

/-- 'tabularylaw06.BlockParses': WHATEVER THE INPUT: true; the input reads as it did. -/
def blockParsesSpec : ChangeSpec := { name := "blockParses", fn := fun _ => fun
  | [d1, d2] => { results := [.lit (.bool true)], args := [d1, d2] }
  | _ => none }
def blockParsesRow : OpenClaim := { program := "ytcnafcoifhdigaa", sum := "8cc45ff95b7388b269aedbfd9f054d1d0d62673de2998f9394e4ded0aaa5b172", func := "tabulary/tabularylaw06.BlockParses", spec := "blockParses", unfollowed := true, recurses := true, apart := false }
def BlockParsesSaid : Prop := blockParsesRow.holds Try.pinned (OpenSpec.ofChange blockParsesSpec)

/-- ITS FALSE NEIGHBOUR: 'it returns false'. Refute it at one input. -/
def blockParsesWrong : ChangeSpec := { name := "blockParses", fn := fun _ => fun
  | [d1, d2] => { results := [.lit (.bool false)], args := [d1, d2] }
  | _ => none }
def BlockParsesWrongFalsely : Prop := blockParsesRow.holds Try.pinned (OpenSpec.ofChange blockParsesWrong)

/-- 'tabularylaw06.BlockBack': WHATEVER THE INPUT: true; the input reads as it did. -/
def blockBackSpec : ChangeSpec := { name := "blockBack", fn := fun _ => fun
  | [d1, d2] => { results := [.lit (.bool true)], args := [d1, d2] }
  | _ => none }
def blockBackRow : OpenClaim := { program := "ytcnafcoifhdigaa", sum := "8cc45ff95b7388b269aedbfd9f054d1d0d62673de2998f9394e4ded0aaa5b172", func := "tabulary/tabularylaw06.BlockBack", spec := "blockBack", unfollowed := true, recurses := true, apart := false }
def BlockBackSaid : Prop := blockBackRow.holds Try.pinned (OpenSpec.ofChange blockBackSpec)

/-- ITS FALSE NEIGHBOUR: 'it returns false'. Refute it at one input. -/
def blockBackWrong : ChangeSpec := { name := "blockBack", fn := fun _ => fun
  | [d1, d2] => { results := [.lit (.bool false)], args := [d1, d2] }
  | _ => none }
def BlockBackWrongFalsely : Prop := blockBackRow.holds Try.pinned (OpenSpec.ofChange blockBackWrong)

/-- 'tabularylaw06.BlockNotices': WHATEVER THE INPUT: true; the input reads as it did. -/
def blockNoticesSpec : ChangeSpec := { name := "blockNotices", fn := fun _ => fun
  | [d1, d2, d3] => { results := [.lit (.bool true)], args := [d1, d2, d3] }
  | _ => none }
def blockNoticesRow : OpenClaim := { program := "ytcnafcoifhdigaa", sum := "8cc45ff95b7388b269aedbfd9f054d1d0d62673de2998f9394e4ded0aaa5b172", func := "tabulary/tabularylaw06.BlockNotices", spec := "blockNotices", unfollowed := true, recurses := true, apart := false }
def BlockNoticesSaid : Prop := blockNoticesRow.holds Try.pinned (OpenSpec.ofChange blockNoticesSpec)

/-- ITS FALSE NEIGHBOUR: 'it returns false'. Refute it at one input. -/
def blockNoticesWrong : ChangeSpec := { name := "blockNotices", fn := fun _ => fun
  | [d1, d2, d3] => { results := [.lit (.bool false)], args := [d1, d2, d3] }
  | _ => none }
def BlockNoticesWrongFalsely : Prop := blockNoticesRow.holds Try.pinned (OpenSpec.ofChange blockNoticesWrong)

/-- 'tabularylaw06.BlockUnlike': WHATEVER THE INPUT: true; the input reads as it did. -/
def blockUnlikeSpec : ChangeSpec := { name := "blockUnlike", fn := fun _ => fun
  | [d1, d2] => { results := [.lit (.bool true)], args := [d1, d2] }
  | _ => none }
def blockUnlikeRow : OpenClaim := { program := "ytcnafcoifhdigaa", sum := "8cc45ff95b7388b269aedbfd9f054d1d0d62673de2998f9394e4ded0aaa5b172", func := "tabulary/tabularylaw06.BlockUnlike", spec := "blockUnlike", unfollowed := true, recurses := true, apart := false }
def BlockUnlikeSaid : Prop := blockUnlikeRow.holds Try.pinned (OpenSpec.ofChange blockUnlikeSpec)

/-- ITS FALSE NEIGHBOUR: 'it returns false'. Refute it at one input. -/
def blockUnlikeWrong : ChangeSpec := { name := "blockUnlike", fn := fun _ => fun
  | [d1, d2] => { results := [.lit (.bool false)], args := [d1, d2] }
  | _ => none }
def BlockUnlikeWrongFalsely : Prop := blockUnlikeRow.holds Try.pinned (OpenSpec.ofChange blockUnlikeWrong)

/- THE SECOND FORM. 'bulk': how many values and letters a reading holds, each counted each time it is reached (what is shared counts as often as it is met; a slice's spare places count too). A statement '..UptoSaid' is the law's where the arguments, and the package variables that the reading takes, are together of bulk at most 1048576: NARROWER than '..Said'. Prove '..Said' where nothing that the law and all that it calls make is longer than what came in: it says more and counts as full. Else prove '..UptoSaid'. A law counts once. -/
mutual
def uptoBulk {H : Type} : DataW H → Nat
  | .lit (.string bytes) => bytes.length + 1
  | .lit _ => 1
  | .nil => 1
  | .ptr d => uptoBulk d + 1
  | .slice elems spare => uptoBulkAll elems + uptoBulkAll spare + 1
  | .agg parts => uptoBulkAll parts + 1
  | .iface _ d => uptoBulk d + 1
  | .map entries => uptoBulkEntries entries + 1
  | .held _ => 1
def uptoBulkAll {H : Type} : List (DataW H) → Nat
  | [] => 0
  | d :: r => uptoBulk d + uptoBulkAll r
def uptoBulkEntries {H : Type} : List (Lit × DataW H) → Nat
  | [] => 0
  | x :: r => uptoBulkEntry x + uptoBulkEntries r
def uptoBulkEntry {H : Type} : Lit × DataW H → Nat
  | (.string bytes, d) => bytes.length + uptoBulk d + 1
  | (_, d) => uptoBulk d + 1
 end
def uptoSmall : (H : Type) → List (DataW H) → Bool := fun _ ds => decide (uptoBulkAll ds ≤ 1048576)
def OpenSpec.upto (s : _root_.Go.ChangeSpec) : _root_.Go.OpenSpec := { _root_.Go.OpenSpec.ofChange s with cond := some uptoSmall }

/-- 'tabularylaw06.BlockPacks', WHERE WHAT IT READS IS OF BULK AT MOST 1048576: true; the input reads as it did. -/
def blockPacksUptoRow : OpenClaim := { program := "ytcnafcoifhdigaa", sum := "8cc45ff95b7388b269aedbfd9f054d1d0d62673de2998f9394e4ded0aaa5b172", func := "tabulary/tabularylaw06.BlockPacks", spec := "blockPacks", unfollowed := true, recurses := true, apart := false, narrowed := true }
def BlockPacksUptoSaid : Prop := blockPacksUptoRow.holds Try.pinned (OpenSpec.upto blockPacksSpec)

/-- 'tabularylaw06.BlockParses', WHERE WHAT IT READS IS OF BULK AT MOST 1048576: true; the input reads as it did. -/
def blockParsesUptoRow : OpenClaim := { program := "ytcnafcoifhdigaa", sum := "8cc45ff95b7388b269aedbfd9f054d1d0d62673de2998f9394e4ded0aaa5b172", func := "tabulary/tabularylaw06.BlockParses", spec := "blockParses", unfollowed := true, recurses := true, apart := false, narrowed := true }
def BlockParsesUptoSaid : Prop := blockParsesUptoRow.holds Try.pinned (OpenSpec.upto blockParsesSpec)

/-- 'tabularylaw06.BlockBack', WHERE WHAT IT READS IS OF BULK AT MOST 1048576: true; the input reads as it did. -/
def blockBackUptoRow : OpenClaim := { program := "ytcnafcoifhdigaa", sum := "8cc45ff95b7388b269aedbfd9f054d1d0d62673de2998f9394e4ded0aaa5b172", func := "tabulary/tabularylaw06.BlockBack", spec := "blockBack", unfollowed := true, recurses := true, apart := false, narrowed := true }
def BlockBackUptoSaid : Prop := blockBackUptoRow.holds Try.pinned (OpenSpec.upto blockBackSpec)

/-- 'tabularylaw06.BlockNotices', WHERE WHAT IT READS IS OF BULK AT MOST 1048576: true; the input reads as it did. -/
def blockNoticesUptoRow : OpenClaim := { program := "ytcnafcoifhdigaa", sum := "8cc45ff95b7388b269aedbfd9f054d1d0d62673de2998f9394e4ded0aaa5b172", func := "tabulary/tabularylaw06.BlockNotices", spec := "blockNotices", unfollowed := true, recurses := true, apart := false, narrowed := true }
def BlockNoticesUptoSaid : Prop := blockNoticesUptoRow.holds Try.pinned (OpenSpec.upto blockNoticesSpec)

/-- 'tabularylaw06.BlockUnlike', WHERE WHAT IT READS IS OF BULK AT MOST 1048576: true; the input reads as it did. -/
def blockUnlikeUptoRow : OpenClaim := { program := "ytcnafcoifhdigaa", sum := "8cc45ff95b7388b269aedbfd9f054d1d0d62673de2998f9394e4ded0aaa5b172", func := "tabulary/tabularylaw06.BlockUnlike", spec := "blockUnlike", unfollowed := true, recurses := true, apart := false, narrowed := true }
def BlockUnlikeUptoSaid : Prop := blockUnlikeUptoRow.holds Try.pinned (OpenSpec.upto blockUnlikeSpec)

end Rows
end Go.Proofs.Ytcnafcoifhdigaa
