/-
  DERIVED. GIVEN WITH THE SEED: THE CARDS: each row of YtmbabfelnieagabDoorRows.lean that lists a variable, with what it lists TIED to the program's text (the seventh form; the later family's looks); each row that meets fmt, with fmt's text TOLD by the authors' own Lean function (tested against real Go, not proved from fmt's source: count such statements apart). THE CARD IS WHAT COUNTS. Prove the row's statement (the work); the ties are given (YtmbabfelnieagabDoorTie.lean); close each card by the builder's one call (the guide's Derived/Test/ToyasCard.lean, 'card_holds'). Laid BY PROGRAM, IN A SANDBOX (cutbox-door.mjs). By AI agents, Wed Nov 11 2026. No macro, syntax, notation, axiom, sorry.
-/
import Derived.Test.YtmbabfelnieagabDoorRows
import GoSem.ClaimSeven
namespace Go.Proofs.YtmbabfelnieagabDoor
namespace Rows

/-- THE TIED CARD OF 'tabularylaw09.PaxLengths'. -/
def paxLengthsCard : Claim7 := { stood := { row := paxLengthsRow, standIns := [], harness := (true, "8b76b5f6fb7e1ef1fb9d7b5d44a7d62024e4498942da5fd639422ba9fed3a870"), looks := true }, kinds := [], alts := [], laidByText := true, laidKinds := [.data, .data, .data], laidTests := true, laidLooks := .later }
def PaxLengthsCardSaid : Prop := Claim7.holds Tryd.pinned (.plain (OpenSpec.ofChange paxLengthsSpec)) paxLengthsCard

/-- THE TIED CARD OF 'tabularylaw09.PaxLaid'. -/
def paxLaidCard : Claim7 := { stood := { row := paxLaidRow, standIns := [], harness := (true, "8b76b5f6fb7e1ef1fb9d7b5d44a7d62024e4498942da5fd639422ba9fed3a870"), looks := true }, kinds := [], alts := [], laidByText := true, laidKinds := [.data, .data, .data], laidTests := true, laidLooks := .later }
def PaxLaidCardSaid : Prop := Claim7.holds Tryd.pinned (.plain (OpenSpec.ofChange paxLaidSpec)) paxLaidCard

/-- THE TIED CARD OF 'tabularylaw09.PaxOwn'. -/
def paxOwnCard : Claim7 := { stood := { row := paxOwnRow, standIns := [], harness := (true, "8b76b5f6fb7e1ef1fb9d7b5d44a7d62024e4498942da5fd639422ba9fed3a870"), looks := true }, kinds := [], alts := [], laidByText := true, laidKinds := [.data, .data, .data], laidTests := true, laidLooks := .later }
def PaxOwnCardSaid : Prop := Claim7.holds Tryd.pinned (.plain (OpenSpec.ofChange paxOwnSpec)) paxOwnCard

/-- THE TIED CARD OF 'tabularylaw09.PaxKnown'. -/
def paxKnownCard : Claim7 := { stood := { row := paxKnownRow, standIns := [], harness := (true, "8b76b5f6fb7e1ef1fb9d7b5d44a7d62024e4498942da5fd639422ba9fed3a870"), looks := true }, kinds := [], alts := [], laidByText := true, laidKinds := [.data, .data, .data], laidTests := true, laidLooks := .later }
def PaxKnownCardSaid : Prop := Claim7.holds Tryd.pinned (.plain (OpenSpec.ofChange paxKnownSpec)) paxKnownCard

/-- THE SECOND FORM's CARD OF 'tabularylaw09.PaxLengths'. -/
def paxLengthsUptoCard : Claim7 := { stood := { row := paxLengthsUptoRow, standIns := [], harness := (true, "8b76b5f6fb7e1ef1fb9d7b5d44a7d62024e4498942da5fd639422ba9fed3a870"), looks := true }, kinds := [], alts := [], laidByText := true, laidKinds := [.data, .data, .data], laidTests := true, laidLooks := .later }
def PaxLengthsUptoCardSaid : Prop := Claim7.holds Tryd.pinned (.plain (OpenSpec.upto paxLengthsSpec)) paxLengthsUptoCard

/-- THE SECOND FORM's CARD OF 'tabularylaw09.PaxLaid'. -/
def paxLaidUptoCard : Claim7 := { stood := { row := paxLaidUptoRow, standIns := [], harness := (true, "8b76b5f6fb7e1ef1fb9d7b5d44a7d62024e4498942da5fd639422ba9fed3a870"), looks := true }, kinds := [], alts := [], laidByText := true, laidKinds := [.data, .data, .data], laidTests := true, laidLooks := .later }
def PaxLaidUptoCardSaid : Prop := Claim7.holds Tryd.pinned (.plain (OpenSpec.upto paxLaidSpec)) paxLaidUptoCard

/-- THE SECOND FORM's CARD OF 'tabularylaw09.PaxOwn'. -/
def paxOwnUptoCard : Claim7 := { stood := { row := paxOwnUptoRow, standIns := [], harness := (true, "8b76b5f6fb7e1ef1fb9d7b5d44a7d62024e4498942da5fd639422ba9fed3a870"), looks := true }, kinds := [], alts := [], laidByText := true, laidKinds := [.data, .data, .data], laidTests := true, laidLooks := .later }
def PaxOwnUptoCardSaid : Prop := Claim7.holds Tryd.pinned (.plain (OpenSpec.upto paxOwnSpec)) paxOwnUptoCard

/-- THE SECOND FORM's CARD OF 'tabularylaw09.PaxKnown'. -/
def paxKnownUptoCard : Claim7 := { stood := { row := paxKnownUptoRow, standIns := [], harness := (true, "8b76b5f6fb7e1ef1fb9d7b5d44a7d62024e4498942da5fd639422ba9fed3a870"), looks := true }, kinds := [], alts := [], laidByText := true, laidKinds := [.data, .data, .data], laidTests := true, laidLooks := .later }
def PaxKnownUptoCardSaid : Prop := Claim7.holds Tryd.pinned (.plain (OpenSpec.upto paxKnownSpec)) paxKnownUptoCard
end Rows
end Go.Proofs.YtmbabfelnieagabDoor
