/- slices.Concat of a row and one text more, and Line: contracts. -/
import Derived.Test.YtnnhlkbjdfgcaaaQuilC
import Derived.Test.YtnnhlkbjdfgcaaaQuilF
namespace Go.Proofs.Ytnnhlkbjdfgcaaa
open Go.RowKit

/-- A row of texts that a call has made. -/
def Row_ (ss : List ByteArray) (w : World) (e : Ending) (w' : World) : Prop := ∃ a n c, e = .returned (.slice a n c) ∧ w'.ownsRow w.heap.size 9 1 (.slice a n c) n (ss.map Value.string) ∧ Below w.heap.size w w'

end Go.Proofs.Ytnnhlkbjdfgcaaa
