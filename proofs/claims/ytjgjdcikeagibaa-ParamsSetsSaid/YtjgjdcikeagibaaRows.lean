/-
  No cell of these rows narrows 'for every input' (looked for: loops, veiled, ifaces, maps, wideKeys, modest, calm, conditions, laid).
  DERIVED. THE GIVEN ROWS OF THIS SEAT. 3 by the template 'for every input the law returns true; each argument reads behind the call as it read before'; 0 by the template 'total and deterministic' (their statements: YtjgjdcikeagibaaTotals.lean).
  GIVEN WITH THE SEED: the statements are not yours to turn. If you find one false, say at which input.
  Laid BY PROGRAM, IN A SANDBOX (cutbox-rows.mjs): the forced cells as the released guide's own fill.sh prints them over the translation 29a46a39038c9e70… (all of the seat's roots in one cut). By AI agents, Wed Nov 11 2026. No macro, syntax, notation, axiom, sorry.
-/
import Derived.Test.YtjgjdcikeagibaaChecked
import GoSem.Claim
import GoSem.ClaimJoined
import GoSem.ClaimMapViews
import Derived.JoinedTies
import Derived.KernelRfl
namespace Go.Proofs.Ytjgjdcikeagibaa
/- THE CELL 'sum', in the pinned program and in every row, IS THE sha256 OF THE DUMP (.gsa) THAT YtjgjdcikeagibaaProg.lean LOADS. Nothing in Lean hashes anything: it is a label: what it is worth is what the hold of that sum in a sandbox is worth. -/
noncomputable def Try.pinned : Pinned := { name := "ytjgjdcikeagibaa", sum := "29a46a39038c9e7053cc7b6984809ffb98a1583fabe94a4f1a417a7d7ccc6121", checked := Try.checked }
namespace Rows
def none {H : Type} : Left H := { results := [], args := [] }

/-- 'doorsteplaw07.ParamsReads': WHATEVER THE INPUT: true; the input reads as it did. -/
def paramsReadsSpec : ChangeSpec := { name := "paramsReads", fn := fun _ => fun
  | [d] => { results := [.lit (.bool true)], args := [d] }
  | _ => none }
def paramsReadsRow : OpenClaim := { program := "ytjgjdcikeagibaa", sum := "29a46a39038c9e7053cc7b6984809ffb98a1583fabe94a4f1a417a7d7ccc6121", func := "doorstep/doorsteplaw07.ParamsReads", spec := "paramsReads", inPlace := ["internal/abi.NoEscape", "internal/bytealg.MakeNoZero"], unfollowed := true, recurses := true, apart := false }
def ParamsReadsSaid : Prop := paramsReadsRow.holds Try.pinned (OpenSpec.ofChange paramsReadsSpec)

/-- ITS FALSE NEIGHBOUR: 'it returns false'. Refute it at one input. -/
def paramsReadsWrong : ChangeSpec := { name := "paramsReads", fn := fun _ => fun
  | [d] => { results := [.lit (.bool false)], args := [d] }
  | _ => none }
def ParamsReadsWrongFalsely : Prop := paramsReadsRow.holds Try.pinned (OpenSpec.ofChange paramsReadsWrong)

/-- 'doorsteplaw07.ParamsWrites': WHATEVER THE INPUT: true; the input reads as it did. -/
def paramsWritesSpec : ChangeSpec := { name := "paramsWrites", fn := fun _ => fun
  | [d] => { results := [.lit (.bool true)], args := [d] }
  | _ => none }
def paramsWritesRow : OpenClaim := { program := "ytjgjdcikeagibaa", sum := "29a46a39038c9e7053cc7b6984809ffb98a1583fabe94a4f1a417a7d7ccc6121", func := "doorstep/doorsteplaw07.ParamsWrites", spec := "paramsWrites", inPlace := ["internal/abi.NoEscape", "internal/bytealg.MakeNoZero"], unfollowed := true, recurses := true, apart := false }
def ParamsWritesSaid : Prop := paramsWritesRow.holds Try.pinned (OpenSpec.ofChange paramsWritesSpec)

/-- ITS FALSE NEIGHBOUR: 'it returns false'. Refute it at one input. -/
def paramsWritesWrong : ChangeSpec := { name := "paramsWrites", fn := fun _ => fun
  | [d] => { results := [.lit (.bool false)], args := [d] }
  | _ => none }
def ParamsWritesWrongFalsely : Prop := paramsWritesRow.holds Try.pinned (OpenSpec.ofChange paramsWritesWrong)

/-- 'doorsteplaw07.ParamsSets': WHATEVER THE INPUT: true; the input reads as it did. -/
def paramsSetsSpec : ChangeSpec := { name := "paramsSets", fn := fun _ => fun
  | [d1, d2, d3] => { results := [.lit (.bool true)], args := [d1, d2, d3] }
  | _ => none }
def paramsSetsRow : OpenClaim := { program := "ytjgjdcikeagibaa", sum := "29a46a39038c9e7053cc7b6984809ffb98a1583fabe94a4f1a417a7d7ccc6121", func := "doorstep/doorsteplaw07.ParamsSets", spec := "paramsSets", inPlace := ["internal/abi.NoEscape", "internal/bytealg.MakeNoZero"], unfollowed := true, recurses := true, apart := false }
def ParamsSetsSaid : Prop := paramsSetsRow.holds Try.pinned (OpenSpec.ofChange paramsSetsSpec)

/-- ITS FALSE NEIGHBOUR: 'it returns false'. Refute it at one input. -/
def paramsSetsWrong : ChangeSpec := { name := "paramsSets", fn := fun _ => fun
  | [d1, d2, d3] => { results := [.lit (.bool false)], args := [d1, d2, d3] }
  | _ => none }
def ParamsSetsWrongFalsely : Prop := paramsSetsRow.holds Try.pinned (OpenSpec.ofChange paramsSetsWrong)

/- THE SECOND FORM. 'bulk': how many values and letters a reading holds, each counted each time it is reached (what is shared counts as often as it is met; a slice's spare places count too). A statement '..UptoSaid' is the law's where the arguments, and the package variables that the reading takes, are together of bulk at most 1048576: NARROWER than '..Said'. Prove '..Said' where nothing that the law and all that it calls make is longer than what came in: it says more and counts as full. Else prove '..UptoSaid'. A law counts once. -/
mutual
def uptoBulk {H : Type} : DataW H → Nat
  | .lit (.string bytes) => bytes.length + 1
  | .lit _ => 1
  | .nil => 1
  | .ptr d => uptoBulk d + 1
  | .slice elems spare => uptoBulkAll elems + uptoBulkAll spare + 1
  | .agg parts => uptoBulkAll parts + 1
  | .iface _ d => uptoBulk d + 1
  | .map entries => uptoBulkEntries entries + 1
  | .held _ => 1
def uptoBulkAll {H : Type} : List (DataW H) → Nat
  | [] => 0
  | d :: r => uptoBulk d + uptoBulkAll r
def uptoBulkEntries {H : Type} : List (Lit × DataW H) → Nat
  | [] => 0
  | x :: r => uptoBulkEntry x + uptoBulkEntries r
def uptoBulkEntry {H : Type} : Lit × DataW H → Nat
  | (.string bytes, d) => bytes.length + uptoBulk d + 1
  | (_, d) => uptoBulk d + 1
 end
def uptoSmall : (H : Type) → List (DataW H) → Bool := fun _ ds => decide (uptoBulkAll ds ≤ 1048576)
def OpenSpec.upto (s : _root_.Go.ChangeSpec) : _root_.Go.OpenSpec := { _root_.Go.OpenSpec.ofChange s with cond := some uptoSmall }

/-- 'doorsteplaw07.ParamsReads', WHERE WHAT IT READS IS OF BULK AT MOST 1048576: true; the input reads as it did. -/
def paramsReadsUptoRow : OpenClaim := { program := "ytjgjdcikeagibaa", sum := "29a46a39038c9e7053cc7b6984809ffb98a1583fabe94a4f1a417a7d7ccc6121", func := "doorstep/doorsteplaw07.ParamsReads", spec := "paramsReads", inPlace := ["internal/abi.NoEscape", "internal/bytealg.MakeNoZero"], unfollowed := true, recurses := true, apart := false, narrowed := true }
def ParamsReadsUptoSaid : Prop := paramsReadsUptoRow.holds Try.pinned (OpenSpec.upto paramsReadsSpec)

/-- 'doorsteplaw07.ParamsWrites', WHERE WHAT IT READS IS OF BULK AT MOST 1048576: true; the input reads as it did. -/
def paramsWritesUptoRow : OpenClaim := { program := "ytjgjdcikeagibaa", sum := "29a46a39038c9e7053cc7b6984809ffb98a1583fabe94a4f1a417a7d7ccc6121", func := "doorstep/doorsteplaw07.ParamsWrites", spec := "paramsWrites", inPlace := ["internal/abi.NoEscape", "internal/bytealg.MakeNoZero"], unfollowed := true, recurses := true, apart := false, narrowed := true }
def ParamsWritesUptoSaid : Prop := paramsWritesUptoRow.holds Try.pinned (OpenSpec.upto paramsWritesSpec)

/-- 'doorsteplaw07.ParamsSets', WHERE WHAT IT READS IS OF BULK AT MOST 1048576: true; the input reads as it did. -/
def paramsSetsUptoRow : OpenClaim := { program := "ytjgjdcikeagibaa", sum := "29a46a39038c9e7053cc7b6984809ffb98a1583fabe94a4f1a417a7d7ccc6121", func := "doorstep/doorsteplaw07.ParamsSets", spec := "paramsSets", inPlace := ["internal/abi.NoEscape", "internal/bytealg.MakeNoZero"], unfollowed := true, recurses := true, apart := false, narrowed := true }
def ParamsSetsUptoSaid : Prop := paramsSetsUptoRow.holds Try.pinned (OpenSpec.upto paramsSetsSpec)

end Rows
end Go.Proofs.Ytjgjdcikeagibaa
