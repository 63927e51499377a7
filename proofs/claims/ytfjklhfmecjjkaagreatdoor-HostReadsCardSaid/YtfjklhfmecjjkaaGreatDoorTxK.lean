/- What a row's world gives a walk: the listed tables, and that internal/bytealg.MaxLen holds some number. -/
import Derived.Test.YtfjklhfmecjjkaaGreatDoorNumK8
import Derived.Test.YtfjklhfmecjjkaaGreatDoorHoJ
import Derived.Shelf.Vars
namespace Go.Proofs.YtfjklhfmecjjkaaGreatDoor
open Go.RowKit
theorem maxL_of {W : World} (h : W.ShapedOpen Tryz.prog) : MaxL W :=
  cell_of_shapedOpen_int (g := 0) (t := 3) (zero := #[.int .i64 0]) h (of_decide_eq_true (by kernel_rfl)) (by kernel_rfl) rfl (by kernel_rfl) (by kernel_rfl) Tryz.underlying3
theorem tx_of {W : World} (hL : laidMetH Tryz.prog laidL W) (h : W.ShapedOpen Tryz.prog) : Tx W := ⟨tabs_of hL, maxL_of h⟩
end Go.Proofs.YtfjklhfmecjjkaaGreatDoor
