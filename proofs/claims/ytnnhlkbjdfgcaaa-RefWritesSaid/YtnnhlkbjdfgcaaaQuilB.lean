/- What reads a row of texts, or a quill: contracts. -/
import Derived.Test.YtnnhlkbjdfgcaaaQuilA
namespace Go.Proofs.Ytnnhlkbjdfgcaaa
open Go.RowKit

/-- Have the texts together at most so many bytes? -/
def fits (room : Int) (ss : List ByteArray) : Bool := decide (((flat ss).length : Int) ≤ room)
end Go.Proofs.Ytnnhlkbjdfgcaaa
