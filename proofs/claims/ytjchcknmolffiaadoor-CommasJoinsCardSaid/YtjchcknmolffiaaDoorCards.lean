/-
  DERIVED. GIVEN WITH THE SEED: THE CARDS: each row of YtjchcknmolffiaaDoorRows.lean that lists a variable, with what it lists TIED to the program's text (the seventh form; the later family's looks); each row that meets fmt, with fmt's text TOLD by the authors' own Lean function (tested against real Go, not proved from fmt's source: count such statements apart). THE CARD IS WHAT COUNTS. Prove the row's statement (the work); the ties are given (YtjchcknmolffiaaDoorTie.lean); close each card by the builder's one call (the guide's Derived/Test/ToyasCard.lean, 'card_holds'). Laid BY PROGRAM, IN A SANDBOX (cutbox-door.mjs). By AI agents, Wed Nov 11 2026. No macro, syntax, notation, axiom, sorry.
-/
import Derived.Test.YtjchcknmolffiaaDoorRows
import GoSem.ClaimSeven
namespace Go.Proofs.YtjchcknmolffiaaDoor
namespace Rows

/-- THE TIED CARD OF 'doorsteplaw06.CommasSplits'. -/
def commasSplitsCard : Claim7 := { stood := { row := commasSplitsRow, standIns := [], harness := (true, "cf5c26c77feb2ab195863a116380d20bed6c896247831106dbf9447944e3d265"), looks := false }, kinds := [], alts := [], laidByText := true, laidKinds := [.data, .pinned], laidTests := true, laidLooks := .later }
def CommasSplitsCardSaid : Prop := Claim7.holds Tryd.pinned (.plain (OpenSpec.ofChange commasSplitsSpec)) commasSplitsCard

/-- THE TIED CARD OF 'doorsteplaw06.CommasJoins'. -/
def commasJoinsCard : Claim7 := { stood := { row := commasJoinsRow, standIns := [], harness := (true, "cf5c26c77feb2ab195863a116380d20bed6c896247831106dbf9447944e3d265"), looks := false }, kinds := [], alts := [], laidByText := true, laidKinds := [.data, .pinned], laidTests := true, laidLooks := .later }
def CommasJoinsCardSaid : Prop := Claim7.holds Tryd.pinned (.plain (OpenSpec.ofChange commasJoinsSpec)) commasJoinsCard

/-- THE TIED CARD OF 'doorsteplaw06.CommasBack'. -/
def commasBackCard : Claim7 := { stood := { row := commasBackRow, standIns := [], harness := (true, "cf5c26c77feb2ab195863a116380d20bed6c896247831106dbf9447944e3d265"), looks := false }, kinds := [], alts := [], laidByText := true, laidKinds := [.data, .pinned], laidTests := true, laidLooks := .later }
def CommasBackCardSaid : Prop := Claim7.holds Tryd.pinned (.plain (OpenSpec.ofChange commasBackSpec)) commasBackCard

/-- THE SECOND FORM's CARD OF 'doorsteplaw06.CommasSplits'. -/
def commasSplitsUptoCard : Claim7 := { stood := { row := commasSplitsUptoRow, standIns := [], harness := (true, "cf5c26c77feb2ab195863a116380d20bed6c896247831106dbf9447944e3d265"), looks := false }, kinds := [], alts := [], laidByText := true, laidKinds := [.data, .pinned], laidTests := true, laidLooks := .later }
def CommasSplitsUptoCardSaid : Prop := Claim7.holds Tryd.pinned (.plain (OpenSpec.upto commasSplitsSpec)) commasSplitsUptoCard

/-- THE SECOND FORM's CARD OF 'doorsteplaw06.CommasJoins'. -/
def commasJoinsUptoCard : Claim7 := { stood := { row := commasJoinsUptoRow, standIns := [], harness := (true, "cf5c26c77feb2ab195863a116380d20bed6c896247831106dbf9447944e3d265"), looks := false }, kinds := [], alts := [], laidByText := true, laidKinds := [.data, .pinned], laidTests := true, laidLooks := .later }
def CommasJoinsUptoCardSaid : Prop := Claim7.holds Tryd.pinned (.plain (OpenSpec.upto commasJoinsSpec)) commasJoinsUptoCard

/-- THE SECOND FORM's CARD OF 'doorsteplaw06.CommasBack'. -/
def commasBackUptoCard : Claim7 := { stood := { row := commasBackUptoRow, standIns := [], harness := (true, "cf5c26c77feb2ab195863a116380d20bed6c896247831106dbf9447944e3d265"), looks := false }, kinds := [], alts := [], laidByText := true, laidKinds := [.data, .pinned], laidTests := true, laidLooks := .later }
def CommasBackUptoCardSaid : Prop := Claim7.holds Tryd.pinned (.plain (OpenSpec.upto commasBackSpec)) commasBackUptoCard
end Rows
end Go.Proofs.YtjchcknmolffiaaDoor
