/-
  DERIVED. GIVEN WITH THE SEED: THE CARDS: each row of YtfjklhfmecjjkaaDoorRows.lean that lists a variable, with what it lists TIED to the program's text (the seventh form; the later family's looks); each row that meets fmt, with fmt's text TOLD by the authors' own Lean function (tested against real Go, not proved from fmt's source: count such statements apart). THE CARD IS WHAT COUNTS. Prove the row's statement (the work); the ties are given (YtfjklhfmecjjkaaDoorTie.lean); close each card by the builder's one call (the guide's Derived/Test/ToyasCard.lean, 'card_holds'). Laid BY PROGRAM, IN A SANDBOX (cutbox-door.mjs). By AI agents, Wed Nov 11 2026. No macro, syntax, notation, axiom, sorry.
-/
import Derived.Test.YtfjklhfmecjjkaaDoorRows
import GoSem.ClaimSeven
namespace Go.Proofs.YtfjklhfmecjjkaaDoor
namespace Rows

/-- THE TIED CARD OF 'doorsteplaw08.HostKinds'. -/
def hostKindsCard : Claim7 := { stood := { row := hostKindsRow, standIns := [], harness := (true, "681ebd91ef8e23f04b0fff2f375e3e09ffaabaeeb91996aa485876caaa688aa0"), looks := false }, kinds := [], alts := [], laidByText := true, laidKinds := [.data, .data, .data], laidTests := true, laidLooks := .later }
def HostKindsCardSaid : Prop := Claim7.holds Tryd.pinned (.plain (OpenSpec.ofChange hostKindsSpec)) hostKindsCard

/-- THE TIED CARD OF 'doorsteplaw08.HostUnder'. -/
def hostUnderCard : Claim7 := { stood := { row := hostUnderRow, standIns := [], harness := (true, "681ebd91ef8e23f04b0fff2f375e3e09ffaabaeeb91996aa485876caaa688aa0"), looks := false }, kinds := [], alts := [], laidByText := true, laidKinds := [.data, .data, .data], laidTests := true, laidLooks := .later }
def HostUnderCardSaid : Prop := Claim7.holds Tryd.pinned (.plain (OpenSpec.ofChange hostUnderSpec)) hostUnderCard

/-- THE SECOND FORM's CARD OF 'doorsteplaw08.HostKinds'. -/
def hostKindsUptoCard : Claim7 := { stood := { row := hostKindsUptoRow, standIns := [], harness := (true, "681ebd91ef8e23f04b0fff2f375e3e09ffaabaeeb91996aa485876caaa688aa0"), looks := false }, kinds := [], alts := [], laidByText := true, laidKinds := [.data, .data, .data], laidTests := true, laidLooks := .later }
def HostKindsUptoCardSaid : Prop := Claim7.holds Tryd.pinned (.plain (OpenSpec.upto hostKindsSpec)) hostKindsUptoCard

/-- THE SECOND FORM's CARD OF 'doorsteplaw08.HostUnder'. -/
def hostUnderUptoCard : Claim7 := { stood := { row := hostUnderUptoRow, standIns := [], harness := (true, "681ebd91ef8e23f04b0fff2f375e3e09ffaabaeeb91996aa485876caaa688aa0"), looks := false }, kinds := [], alts := [], laidByText := true, laidKinds := [.data, .data, .data], laidTests := true, laidLooks := .later }
def HostUnderUptoCardSaid : Prop := Claim7.holds Tryd.pinned (.plain (OpenSpec.upto hostUnderSpec)) hostUnderUptoCard
end Rows
end Go.Proofs.YtfjklhfmecjjkaaDoor
