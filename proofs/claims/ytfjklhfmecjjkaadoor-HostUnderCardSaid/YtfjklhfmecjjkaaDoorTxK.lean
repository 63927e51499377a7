/- What a row's world gives a walk: the listed tables, and that internal/bytealg.MaxLen holds some number. -/
import Derived.Test.YtfjklhfmecjjkaaDoorNumK8
import Derived.Test.YtfjklhfmecjjkaaDoorHoJ
import Derived.Shelf.Vars
namespace Go.Proofs.YtfjklhfmecjjkaaDoor
open Go.RowKit
theorem maxL_of {W : World} (h : W.ShapedOpen Tryd.prog) : MaxL W :=
  cell_of_shapedOpen_int (g := 0) (t := 3) (zero := #[.int .i64 0]) h (of_decide_eq_true (by kernel_rfl)) (by kernel_rfl) rfl (by kernel_rfl) (by kernel_rfl) Tryd.underlying3
theorem tx_of {W : World} (hL : laidMetH Tryd.prog laidL W) (h : W.ShapedOpen Tryd.prog) : Tx W := ⟨tabs_of hL, maxL_of h⟩
end Go.Proofs.YtfjklhfmecjjkaaDoor
