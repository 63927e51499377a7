/-
  No cell of these rows narrows 'for every input' (looked for: loops, veiled, ifaces, maps, wideKeys, modest, calm, conditions, laid).
  DERIVED. THE GIVEN ROWS OF THIS SEAT. 3 by the template 'for every input the law returns true; each argument reads behind the call as it read before'; 0 by the template 'total and deterministic' (their statements: YtnnhlkbjdfgcaaaTotals.lean).
  GIVEN WITH THE SEED: the statements are not yours to turn. If you find one false, say at which input.
  Laid BY PROGRAM, IN A SANDBOX (cutbox-rows.mjs): the forced cells as the released guide's own fill.sh prints them over the translation 398be5092a9874a2… (all of the seat's roots in one cut). By AI agents, Wed Nov 11 2026. No macro, syntax, notation, axiom, sorry.
-/
import Derived.Test.YtnnhlkbjdfgcaaaChecked
import GoSem.Claim
import GoSem.ClaimJoined
import GoSem.ClaimMapViews
import Derived.JoinedTies
import Derived.KernelRfl
namespace Go.Proofs.Ytnnhlkbjdfgcaaa
/- THE CELL 'sum', in the pinned program and in every row, IS THE sha256 OF THE DUMP (.gsa) THAT YtnnhlkbjdfgcaaaProg.lean LOADS. Nothing in Lean hashes anything: it is a label: what it is worth is what the hold of that sum in a sandbox is worth. -/
noncomputable def Try.pinned : Pinned := { name := "ytnnhlkbjdfgcaaa", sum := "398be5092a9874a2b2223f3cd8ffcddc2b4c799a00ee077820baa4b6c3b27c25", checked := Try.checked }
namespace Rows
def none {H : Type} : Left H := { results := [], args := [] }

/-- 'doorsteplaw11.RefReads': WHATEVER THE INPUT: true; the input reads as it did. -/
def refReadsSpec : ChangeSpec := { name := "refReads", fn := fun _ => fun
  | [d] => { results := [.lit (.bool true)], args := [d] }
  | _ => none }
def refReadsRow : OpenClaim := { program := "ytnnhlkbjdfgcaaa", sum := "398be5092a9874a2b2223f3cd8ffcddc2b4c799a00ee077820baa4b6c3b27c25", func := "doorstep/doorsteplaw11.RefReads", spec := "refReads", inPlace := ["internal/bytealg.IndexByteString", "internal/bytealg.IndexString", "internal/abi.NoEscape", "internal/bytealg.MakeNoZero"], unfollowed := true, recurses := true, named := ["internal/bytealg.MaxLen"], apart := false }
def RefReadsSaid : Prop := refReadsRow.holds Try.pinned (OpenSpec.ofChange refReadsSpec)

/-- ITS FALSE NEIGHBOUR: 'it returns false'. Refute it at one input. -/
def refReadsWrong : ChangeSpec := { name := "refReads", fn := fun _ => fun
  | [d] => { results := [.lit (.bool false)], args := [d] }
  | _ => none }
def RefReadsWrongFalsely : Prop := refReadsRow.holds Try.pinned (OpenSpec.ofChange refReadsWrong)

/-- 'doorsteplaw11.RefWrites': WHATEVER THE INPUT: true; the input reads as it did. -/
def refWritesSpec : ChangeSpec := { name := "refWrites", fn := fun _ => fun
  | [d] => { results := [.lit (.bool true)], args := [d] }
  | _ => none }
def refWritesRow : OpenClaim := { program := "ytnnhlkbjdfgcaaa", sum := "398be5092a9874a2b2223f3cd8ffcddc2b4c799a00ee077820baa4b6c3b27c25", func := "doorstep/doorsteplaw11.RefWrites", spec := "refWrites", inPlace := ["internal/bytealg.IndexByteString", "internal/bytealg.IndexString", "internal/abi.NoEscape", "internal/bytealg.MakeNoZero"], unfollowed := true, recurses := true, named := ["internal/bytealg.MaxLen"], apart := false }
def RefWritesSaid : Prop := refWritesRow.holds Try.pinned (OpenSpec.ofChange refWritesSpec)

/-- ITS FALSE NEIGHBOUR: 'it returns false'. Refute it at one input. -/
def refWritesWrong : ChangeSpec := { name := "refWrites", fn := fun _ => fun
  | [d] => { results := [.lit (.bool false)], args := [d] }
  | _ => none }
def RefWritesWrongFalsely : Prop := refWritesRow.holds Try.pinned (OpenSpec.ofChange refWritesWrong)

/-- 'doorsteplaw11.RefSwaps': WHATEVER THE INPUT: true; the input reads as it did. -/
def refSwapsSpec : ChangeSpec := { name := "refSwaps", fn := fun _ => fun
  | [d1, d2] => { results := [.lit (.bool true)], args := [d1, d2] }
  | _ => none }
def refSwapsRow : OpenClaim := { program := "ytnnhlkbjdfgcaaa", sum := "398be5092a9874a2b2223f3cd8ffcddc2b4c799a00ee077820baa4b6c3b27c25", func := "doorstep/doorsteplaw11.RefSwaps", spec := "refSwaps", inPlace := ["internal/bytealg.IndexByteString", "internal/bytealg.IndexString"], unfollowed := true, recurses := true, named := ["internal/bytealg.MaxLen"], apart := false }
def RefSwapsSaid : Prop := refSwapsRow.holds Try.pinned (OpenSpec.ofChange refSwapsSpec)

/-- ITS FALSE NEIGHBOUR: 'it returns false'. Refute it at one input. -/
def refSwapsWrong : ChangeSpec := { name := "refSwaps", fn := fun _ => fun
  | [d1, d2] => { results := [.lit (.bool false)], args := [d1, d2] }
  | _ => none }
def RefSwapsWrongFalsely : Prop := refSwapsRow.holds Try.pinned (OpenSpec.ofChange refSwapsWrong)

/- THE SECOND FORM. 'bulk': how many values and letters a reading holds, each counted each time it is reached (what is shared counts as often as it is met; a slice's spare places count too). A statement '..UptoSaid' is the law's where the arguments, and the package variables that the reading takes, are together of bulk at most 1048576: NARROWER than '..Said'. Prove '..Said' where nothing that the law and all that it calls make is longer than what came in: it says more and counts as full. Else prove '..UptoSaid'. A law counts once. -/
mutual
def uptoBulk {H : Type} : DataW H → Nat
  | .lit (.string bytes) => bytes.length + 1
  | .lit _ => 1
  | .nil => 1
  | .ptr d => uptoBulk d + 1
  | .slice elems spare => uptoBulkAll elems + uptoBulkAll spare + 1
  | .agg parts => uptoBulkAll parts + 1
  | .iface _ d => uptoBulk d + 1
  | .map entries => uptoBulkEntries entries + 1
  | .held _ => 1
def uptoBulkAll {H : Type} : List (DataW H) → Nat
  | [] => 0
  | d :: r => uptoBulk d + uptoBulkAll r
def uptoBulkEntries {H : Type} : List (Lit × DataW H) → Nat
  | [] => 0
  | x :: r => uptoBulkEntry x + uptoBulkEntries r
def uptoBulkEntry {H : Type} : Lit × DataW H → Nat
  | (.string bytes, d) => bytes.length + uptoBulk d + 1
  | (_, d) => uptoBulk d + 1
 end
def uptoSmall : (H : Type) → List (DataW H) → Bool := fun _ ds => decide (uptoBulkAll ds ≤ 1048576)
def OpenSpec.upto (s : _root_.Go.ChangeSpec) : _root_.Go.OpenSpec := { _root_.Go.OpenSpec.ofChange s with cond := some uptoSmall }

/-- 'doorsteplaw11.RefReads', WHERE WHAT IT READS IS OF BULK AT MOST 1048576: true; the input reads as it did. -/
def refReadsUptoRow : OpenClaim := { program := "ytnnhlkbjdfgcaaa", sum := "398be5092a9874a2b2223f3cd8ffcddc2b4c799a00ee077820baa4b6c3b27c25", func := "doorstep/doorsteplaw11.RefReads", spec := "refReads", inPlace := ["internal/bytealg.IndexByteString", "internal/bytealg.IndexString", "internal/abi.NoEscape", "internal/bytealg.MakeNoZero"], unfollowed := true, recurses := true, named := ["internal/bytealg.MaxLen"], apart := false, narrowed := true }
def RefReadsUptoSaid : Prop := refReadsUptoRow.holds Try.pinned (OpenSpec.upto refReadsSpec)

/-- 'doorsteplaw11.RefWrites', WHERE WHAT IT READS IS OF BULK AT MOST 1048576: true; the input reads as it did. -/
def refWritesUptoRow : OpenClaim := { program := "ytnnhlkbjdfgcaaa", sum := "398be5092a9874a2b2223f3cd8ffcddc2b4c799a00ee077820baa4b6c3b27c25", func := "doorstep/doorsteplaw11.RefWrites", spec := "refWrites", inPlace := ["internal/bytealg.IndexByteString", "internal/bytealg.IndexString", "internal/abi.NoEscape", "internal/bytealg.MakeNoZero"], unfollowed := true, recurses := true, named := ["internal/bytealg.MaxLen"], apart := false, narrowed := true }
def RefWritesUptoSaid : Prop := refWritesUptoRow.holds Try.pinned (OpenSpec.upto refWritesSpec)

/-- 'doorsteplaw11.RefSwaps', WHERE WHAT IT READS IS OF BULK AT MOST 1048576: true; the input reads as it did. -/
def refSwapsUptoRow : OpenClaim := { program := "ytnnhlkbjdfgcaaa", sum := "398be5092a9874a2b2223f3cd8ffcddc2b4c799a00ee077820baa4b6c3b27c25", func := "doorstep/doorsteplaw11.RefSwaps", spec := "refSwaps", inPlace := ["internal/bytealg.IndexByteString", "internal/bytealg.IndexString"], unfollowed := true, recurses := true, named := ["internal/bytealg.MaxLen"], apart := false, narrowed := true }
def RefSwapsUptoSaid : Prop := refSwapsUptoRow.holds Try.pinned (OpenSpec.upto refSwapsSpec)

end Rows
end Go.Proofs.Ytnnhlkbjdfgcaaa
