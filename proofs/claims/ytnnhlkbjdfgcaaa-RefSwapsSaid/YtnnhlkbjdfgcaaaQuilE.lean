/- Line: its contract. -/
import Derived.Test.YtnnhlkbjdfgcaaaQuilD
namespace Go.Proofs.Ytnnhlkbjdfgcaaa
open Go.RowKit

/-- A line's end. -/
def crlf : ByteArray := ⟨#[13, 10]⟩
theorem flat_line (ss : List ByteArray) (t : ByteArray) : (flat (ss ++ [t])).length = (flat ss).length + t.size := by
  unfold flat
  rw [List.flatMap_append, List.length_append, List.flatMap_cons, List.flatMap_nil, List.append_nil]
  rfl

end Go.Proofs.Ytnnhlkbjdfgcaaa
