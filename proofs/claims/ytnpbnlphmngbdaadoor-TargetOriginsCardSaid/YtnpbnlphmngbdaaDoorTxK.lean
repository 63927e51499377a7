/- What a row's world gives a walk: the listed tables, and that internal/bytealg.MaxLen holds some number. -/
import Derived.Test.YtnpbnlphmngbdaaDoorNumK8
import Derived.Test.YtnpbnlphmngbdaaDoorHoJ
import Derived.Test.YtnpbnlphmngbdaaDoorMaxK
namespace Go.Proofs.YtnpbnlphmngbdaaDoor
open Go.RowKit
theorem tx_of {W : World} (hL : laidMetH Tryd.prog laidL W) (h : W.ShapedOpen Tryd.prog) : Tx W := ⟨tabs_of hL, maxL_of h⟩
end Go.Proofs.YtnpbnlphmngbdaaDoor
