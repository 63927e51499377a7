/- slices.Concat of a row and one text more, and Line: contracts. -/
import Derived.Test.YtfjklhfmecjjkaaDoorQuilC
import Derived.Test.YtfjklhfmecjjkaaDoorQuilF
namespace Go.Proofs.YtfjklhfmecjjkaaDoor
open Go.RowKit

theorem info_string : (Tryd.prog.info? 9).map (fun i => (i.zero, i.size, i.bytes)) = some (some (.string ⟨#[]⟩), 1, 16) := by kernel_rfl
/-- A row of texts that a call has made. -/
def Row_ (ss : List ByteArray) (w : World) (e : Ending) (w' : World) : Prop := ∃ a n c, e = .returned (.slice a n c) ∧ w'.ownsRow w.heap.size 9 1 (.slice a n c) n (ss.map Value.string) ∧ Below w.heap.size w w'

end Go.Proofs.YtfjklhfmecjjkaaDoor
