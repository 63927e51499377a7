/- Contracts and lemmas that the claim rests on: TxK. -/
import Derived.Test.YtnpbnlphmngbdaaGreatDoorGNum
import Derived.Test.YtnpbnlphmngbdaaGreatDoorGHoJ
import Derived.Test.YtnpbnlphmngbdaaGreatDoorGMaxK
/- What a row's world gives a walk: the listed tables, and that internal/bytealg.MaxLen holds some number. -/
namespace Go.Proofs.YtnpbnlphmngbdaaGreatDoor
open Go.RowKit
theorem tx_of {W : World} (hL : laidMetH Tryz.prog laidL W) (h : W.ShapedOpen Tryz.prog) : Tx W := ⟨tabs_of hL, maxL_of h⟩
end Go.Proofs.YtnpbnlphmngbdaaGreatDoor
