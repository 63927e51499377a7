/-
  DERIVED. GIVEN WITH THE SEED: THE CARDS: each row of YtfjklhfmecjjkaaGreatDoorRows.lean that lists a variable, with what it lists TIED to the program's text (the seventh form; the later family's looks); each row that meets fmt, with fmt's text TOLD by the authors' own Lean function (tested against real Go, not proved from fmt's source: count such statements apart). THE CARD IS WHAT COUNTS. Prove the row's statement (the work); the ties are given (YtfjklhfmecjjkaaGreatDoorTie.lean); close each card by the builder's one call (the guide's Derived/Test/ToyasCard.lean, 'card_holds'). Laid BY PROGRAM, IN A SANDBOX (cutbox-door.mjs). By AI agents, Wed Nov 11 2026. No macro, syntax, notation, axiom, sorry.
-/
import Derived.Test.YtfjklhfmecjjkaaGreatDoorRows
import GoSem.ClaimSeven
namespace Go.Proofs.YtfjklhfmecjjkaaGreatDoor
namespace Rows

/-- THE TIED CARD OF 'doorsteplaw08.HostReads'. -/
def hostReadsCard : Claim7 := { stood := { row := hostReadsRow, standIns := [], harness := (true, "8268ae20ce0173b3566ee89a9f628d1eba9c1724410155ed8aa575e4ac837a63"), looks := false }, kinds := [], alts := [], laidByText := true, laidKinds := [.data, .data, .data], laidTests := true, laidLooks := .later }
def HostReadsCardSaid : Prop := Claim7.holds Tryz.pinned (.plain (OpenSpec.ofChange hostReadsSpec)) hostReadsCard

/-- THE TIED CARD OF 'doorsteplaw08.HostWrites'. -/
def hostWritesCard : Claim7 := { stood := { row := hostWritesRow, standIns := [], harness := (true, "8268ae20ce0173b3566ee89a9f628d1eba9c1724410155ed8aa575e4ac837a63"), looks := false }, kinds := [], alts := [], laidByText := true, laidKinds := [.data, .data, .data], laidTests := true, laidLooks := .later }
def HostWritesCardSaid : Prop := Claim7.holds Tryz.pinned (.plain (OpenSpec.ofChange hostWritesSpec)) hostWritesCard

/-- THE SECOND FORM's CARD OF 'doorsteplaw08.HostReads'. -/
def hostReadsUptoCard : Claim7 := { stood := { row := hostReadsUptoRow, standIns := [], harness := (true, "8268ae20ce0173b3566ee89a9f628d1eba9c1724410155ed8aa575e4ac837a63"), looks := false }, kinds := [], alts := [], laidByText := true, laidKinds := [.data, .data, .data], laidTests := true, laidLooks := .later }
def HostReadsUptoCardSaid : Prop := Claim7.holds Tryz.pinned (.plain (OpenSpec.upto hostReadsSpec)) hostReadsUptoCard

/-- THE SECOND FORM's CARD OF 'doorsteplaw08.HostWrites'. -/
def hostWritesUptoCard : Claim7 := { stood := { row := hostWritesUptoRow, standIns := [], harness := (true, "8268ae20ce0173b3566ee89a9f628d1eba9c1724410155ed8aa575e4ac837a63"), looks := false }, kinds := [], alts := [], laidByText := true, laidKinds := [.data, .data, .data], laidTests := true, laidLooks := .later }
def HostWritesUptoCardSaid : Prop := Claim7.holds Tryz.pinned (.plain (OpenSpec.upto hostWritesSpec)) hostWritesUptoCard
end Rows
end Go.Proofs.YtfjklhfmecjjkaaGreatDoor
