/-
  DERIVED. GIVEN WITH THE SEED: THE CARDS: each row of YtcieocendgedaaaDoorRows.lean that lists a variable, with what it lists TIED to the program's text (the seventh form; the later family's looks); each row that meets fmt, with fmt's text TOLD by the authors' own Lean function (tested against real Go, not proved from fmt's source: count such statements apart). THE CARD IS WHAT COUNTS. Prove the row's statement (the work); the ties are given (YtcieocendgedaaaDoorTie.lean); close each card by the builder's one call (the guide's Derived/Test/ToyasCard.lean, 'card_holds'). Laid BY PROGRAM, IN A SANDBOX (cutbox-door.mjs). By AI agents, Wed Nov 11 2026. No macro, syntax, notation, axiom, sorry.
-/
import Derived.Test.YtcieocendgedaaaDoorRows
import GoSem.ClaimSeven
namespace Go.Proofs.YtcieocendgedaaaDoor
namespace Rows

/-- THE TIED CARD OF 'doorsteplaw03.NumeralReads'. -/
def numeralReadsCard : Claim7 := { stood := { row := numeralReadsRow, standIns := [], harness := (true, "a0293ac6465462e7e806292123df25325bee53f0c425467e87cab406a8884234"), looks := false }, kinds := [], alts := [], laidByText := true, laidKinds := [.data, .data, .data], laidTests := true, laidLooks := .later }
def NumeralReadsCardSaid : Prop := Claim7.holds Tryd.pinned (.plain (OpenSpec.ofChange numeralReadsSpec)) numeralReadsCard

/-- THE TIED CARD OF 'doorsteplaw03.NumeralTexts'. -/
def numeralTextsCard : Claim7 := { stood := { row := numeralTextsRow, standIns := [], harness := (true, "a0293ac6465462e7e806292123df25325bee53f0c425467e87cab406a8884234"), looks := false }, kinds := [], alts := [], laidByText := true, laidKinds := [.data, .data, .data], laidTests := true, laidLooks := .later }
def NumeralTextsCardSaid : Prop := Claim7.holds Tryd.pinned (.plain (OpenSpec.ofChange numeralTextsSpec)) numeralTextsCard

/-- THE TIED CARD OF 'doorsteplaw03.NumeralSums'. -/
def numeralSumsCard : Claim7 := { stood := { row := numeralSumsRow, standIns := [], harness := (true, "a0293ac6465462e7e806292123df25325bee53f0c425467e87cab406a8884234"), looks := false }, kinds := [], alts := [], laidByText := true, laidKinds := [.data, .data, .data], laidTests := true, laidLooks := .later }
def NumeralSumsCardSaid : Prop := Claim7.holds Tryd.pinned (.plain (OpenSpec.ofChange numeralSumsSpec)) numeralSumsCard

/-- THE SECOND FORM's CARD OF 'doorsteplaw03.NumeralReads'. -/
def numeralReadsUptoCard : Claim7 := { stood := { row := numeralReadsUptoRow, standIns := [], harness := (true, "a0293ac6465462e7e806292123df25325bee53f0c425467e87cab406a8884234"), looks := false }, kinds := [], alts := [], laidByText := true, laidKinds := [.data, .data, .data], laidTests := true, laidLooks := .later }
def NumeralReadsUptoCardSaid : Prop := Claim7.holds Tryd.pinned (.plain (OpenSpec.upto numeralReadsSpec)) numeralReadsUptoCard

/-- THE SECOND FORM's CARD OF 'doorsteplaw03.NumeralTexts'. -/
def numeralTextsUptoCard : Claim7 := { stood := { row := numeralTextsUptoRow, standIns := [], harness := (true, "a0293ac6465462e7e806292123df25325bee53f0c425467e87cab406a8884234"), looks := false }, kinds := [], alts := [], laidByText := true, laidKinds := [.data, .data, .data], laidTests := true, laidLooks := .later }
def NumeralTextsUptoCardSaid : Prop := Claim7.holds Tryd.pinned (.plain (OpenSpec.upto numeralTextsSpec)) numeralTextsUptoCard

/-- THE SECOND FORM's CARD OF 'doorsteplaw03.NumeralSums'. -/
def numeralSumsUptoCard : Claim7 := { stood := { row := numeralSumsUptoRow, standIns := [], harness := (true, "a0293ac6465462e7e806292123df25325bee53f0c425467e87cab406a8884234"), looks := false }, kinds := [], alts := [], laidByText := true, laidKinds := [.data, .data, .data], laidTests := true, laidLooks := .later }
def NumeralSumsUptoCardSaid : Prop := Claim7.holds Tryd.pinned (.plain (OpenSpec.upto numeralSumsSpec)) numeralSumsUptoCard
end Rows
end Go.Proofs.YtcieocendgedaaaDoor
