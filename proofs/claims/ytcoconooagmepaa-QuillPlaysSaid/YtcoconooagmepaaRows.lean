/-
  No cell of these rows narrows 'for every input' (looked for: loops, veiled, ifaces, maps, wideKeys, modest, calm, conditions, laid).
  DERIVED. THE GIVEN ROWS OF THIS SEAT. 3 by the template 'for every input the law returns true; each argument reads behind the call as it read before'; 0 by the template 'total and deterministic' (their statements: YtcoconooagmepaaTotals.lean).
  GIVEN WITH THE SEED: the statements are not yours to turn. If you find one false, say at which input.
  Laid BY PROGRAM, IN A SANDBOX (cutbox-rows.mjs): the forced cells as the released guide's own fill.sh prints them over the translation d5fab043f1ff9126… (all of the seat's roots in one cut). By AI agents, Wed Nov 11 2026. No macro, syntax, notation, axiom, sorry.
-/
import Derived.Test.YtcoconooagmepaaChecked
import GoSem.Claim
import GoSem.ClaimJoined
import GoSem.ClaimMapViews
import Derived.JoinedTies
import Derived.KernelRfl
namespace Go.Proofs.Ytcoconooagmepaa
/- THE CELL 'sum', in the pinned program and in every row, IS THE sha256 OF THE DUMP (.gsa) THAT YtcoconooagmepaaProg.lean LOADS. Nothing in Lean hashes anything: it is a label: what it is worth is what the hold of that sum in a sandbox is worth. -/
noncomputable def Try.pinned : Pinned := { name := "ytcoconooagmepaa", sum := "d5fab043f1ff91269c134f54a7711a5ce9e6673eae0e8801df06474626a3cc7f", checked := Try.checked }
namespace Rows
def none {H : Type} : Left H := { results := [], args := [] }

/-- 'doorsteplaw04.QuillPlays': WHATEVER THE INPUT: true; the input reads as it did. -/
def quillPlaysSpec : ChangeSpec := { name := "quillPlays", fn := fun _ => fun
  | [d1, d2] => { results := [.lit (.bool true)], args := [d1, d2] }
  | _ => none }
def quillPlaysRow : OpenClaim := { program := "ytcoconooagmepaa", sum := "d5fab043f1ff91269c134f54a7711a5ce9e6673eae0e8801df06474626a3cc7f", func := "doorstep/doorsteplaw04.QuillPlays", spec := "quillPlays", apart := false }
def QuillPlaysSaid : Prop := quillPlaysRow.holds Try.pinned (OpenSpec.ofChange quillPlaysSpec)

/-- ITS FALSE NEIGHBOUR: 'it returns false'. Refute it at one input. -/
def quillPlaysWrong : ChangeSpec := { name := "quillPlays", fn := fun _ => fun
  | [d1, d2] => { results := [.lit (.bool false)], args := [d1, d2] }
  | _ => none }
def QuillPlaysWrongFalsely : Prop := quillPlaysRow.holds Try.pinned (OpenSpec.ofChange quillPlaysWrong)

/-- 'doorsteplaw04.QuillJoins': WHATEVER THE INPUT: true; the input reads as it did. -/
def quillJoinsSpec : ChangeSpec := { name := "quillJoins", fn := fun _ => fun
  | [d1, d2] => { results := [.lit (.bool true)], args := [d1, d2] }
  | _ => none }
def quillJoinsRow : OpenClaim := { program := "ytcoconooagmepaa", sum := "d5fab043f1ff91269c134f54a7711a5ce9e6673eae0e8801df06474626a3cc7f", func := "doorstep/doorsteplaw04.QuillJoins", spec := "quillJoins", inPlace := ["internal/abi.NoEscape", "internal/bytealg.MakeNoZero"], apart := false }
def QuillJoinsSaid : Prop := quillJoinsRow.holds Try.pinned (OpenSpec.ofChange quillJoinsSpec)

/-- ITS FALSE NEIGHBOUR: 'it returns false'. Refute it at one input. -/
def quillJoinsWrong : ChangeSpec := { name := "quillJoins", fn := fun _ => fun
  | [d1, d2] => { results := [.lit (.bool false)], args := [d1, d2] }
  | _ => none }
def QuillJoinsWrongFalsely : Prop := quillJoinsRow.holds Try.pinned (OpenSpec.ofChange quillJoinsWrong)

/-- 'doorsteplaw04.QuillNone': WHATEVER THE INPUT: true; the input reads as it did. -/
def quillNoneSpec : ChangeSpec := { name := "quillNone", fn := fun _ => fun
  | [d1, d2] => { results := [.lit (.bool true)], args := [d1, d2] }
  | _ => none }
def quillNoneRow : OpenClaim := { program := "ytcoconooagmepaa", sum := "d5fab043f1ff91269c134f54a7711a5ce9e6673eae0e8801df06474626a3cc7f", func := "doorstep/doorsteplaw04.QuillNone", spec := "quillNone", apart := false }
def QuillNoneSaid : Prop := quillNoneRow.holds Try.pinned (OpenSpec.ofChange quillNoneSpec)

/-- ITS FALSE NEIGHBOUR: 'it returns false'. Refute it at one input. -/
def quillNoneWrong : ChangeSpec := { name := "quillNone", fn := fun _ => fun
  | [d1, d2] => { results := [.lit (.bool false)], args := [d1, d2] }
  | _ => none }
def QuillNoneWrongFalsely : Prop := quillNoneRow.holds Try.pinned (OpenSpec.ofChange quillNoneWrong)

/- THE SECOND FORM. 'bulk': how many values and letters a reading holds, each counted each time it is reached (what is shared counts as often as it is met; a slice's spare places count too). A statement '..UptoSaid' is the law's where the arguments, and the package variables that the reading takes, are together of bulk at most 1048576: NARROWER than '..Said'. Prove '..Said' where nothing that the law and all that it calls make is longer than what came in: it says more and counts as full. Else prove '..UptoSaid'. A law counts once. -/
mutual
def uptoBulk {H : Type} : DataW H → Nat
  | .lit (.string bytes) => bytes.length + 1
  | .lit _ => 1
  | .nil => 1
  | .ptr d => uptoBulk d + 1
  | .slice elems spare => uptoBulkAll elems + uptoBulkAll spare + 1
  | .agg parts => uptoBulkAll parts + 1
  | .iface _ d => uptoBulk d + 1
  | .map entries => uptoBulkEntries entries + 1
  | .held _ => 1
def uptoBulkAll {H : Type} : List (DataW H) → Nat
  | [] => 0
  | d :: r => uptoBulk d + uptoBulkAll r
def uptoBulkEntries {H : Type} : List (Lit × DataW H) → Nat
  | [] => 0
  | x :: r => uptoBulkEntry x + uptoBulkEntries r
def uptoBulkEntry {H : Type} : Lit × DataW H → Nat
  | (.string bytes, d) => bytes.length + uptoBulk d + 1
  | (_, d) => uptoBulk d + 1
 end
def uptoSmall : (H : Type) → List (DataW H) → Bool := fun _ ds => decide (uptoBulkAll ds ≤ 1048576)
def OpenSpec.upto (s : _root_.Go.ChangeSpec) : _root_.Go.OpenSpec := { _root_.Go.OpenSpec.ofChange s with cond := some uptoSmall }

/-- 'doorsteplaw04.QuillPlays', WHERE WHAT IT READS IS OF BULK AT MOST 1048576: true; the input reads as it did. -/
def quillPlaysUptoRow : OpenClaim := { program := "ytcoconooagmepaa", sum := "d5fab043f1ff91269c134f54a7711a5ce9e6673eae0e8801df06474626a3cc7f", func := "doorstep/doorsteplaw04.QuillPlays", spec := "quillPlays", apart := false, narrowed := true }
def QuillPlaysUptoSaid : Prop := quillPlaysUptoRow.holds Try.pinned (OpenSpec.upto quillPlaysSpec)

/-- 'doorsteplaw04.QuillJoins', WHERE WHAT IT READS IS OF BULK AT MOST 1048576: true; the input reads as it did. -/
def quillJoinsUptoRow : OpenClaim := { program := "ytcoconooagmepaa", sum := "d5fab043f1ff91269c134f54a7711a5ce9e6673eae0e8801df06474626a3cc7f", func := "doorstep/doorsteplaw04.QuillJoins", spec := "quillJoins", inPlace := ["internal/abi.NoEscape", "internal/bytealg.MakeNoZero"], apart := false, narrowed := true }
def QuillJoinsUptoSaid : Prop := quillJoinsUptoRow.holds Try.pinned (OpenSpec.upto quillJoinsSpec)

/-- 'doorsteplaw04.QuillNone', WHERE WHAT IT READS IS OF BULK AT MOST 1048576: true; the input reads as it did. -/
def quillNoneUptoRow : OpenClaim := { program := "ytcoconooagmepaa", sum := "d5fab043f1ff91269c134f54a7711a5ce9e6673eae0e8801df06474626a3cc7f", func := "doorstep/doorsteplaw04.QuillNone", spec := "quillNone", apart := false, narrowed := true }
def QuillNoneUptoSaid : Prop := quillNoneUptoRow.holds Try.pinned (OpenSpec.upto quillNoneSpec)

end Rows
end Go.Proofs.Ytcoconooagmepaa
