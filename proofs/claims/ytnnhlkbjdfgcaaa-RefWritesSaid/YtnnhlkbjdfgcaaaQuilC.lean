/- Put: its contract. -/
import Derived.Test.YtnnhlkbjdfgcaaaQuilB
import Derived.OwnWalk
namespace Go.Proofs.Ytnnhlkbjdfgcaaa
open Go.RowKit

/-- What Put does: the text behind it, and the error. -/
def putS (most : Int) (s : ByteArray) (ss : List ByteArray) : ByteArray := if fits (most - s.size) ss = true then s ++ cat ss else s
def putE (most : Int) (s : ByteArray) (ss : List ByteArray) : Int := if fits (most - s.size) ss = true then 0 else 10
theorem info_byte : (Try.prog.info? 5).map (fun i => (i.zero, i.size, i.bytes)) = some (some (.int .u8 0), 1, 1) := by kernel_rfl

end Go.Proofs.Ytnnhlkbjdfgcaaa
