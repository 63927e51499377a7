/- Contracts and lemmas that the claim rests on: MaxK. -/
import Derived.Test.YtnpbnlphmngbdaaGreatDoorGHoF
import Derived.Shelf.Vars
/- What a world's shape gives a walk: internal/bytealg.MaxLen holds some number. -/
namespace Go.Proofs.YtnpbnlphmngbdaaGreatDoor
open Go.RowKit
theorem maxL_of {W : World} (h : W.ShapedOpen Tryz.prog) : MaxL W :=
  cell_of_shapedOpen_int (g := 0) (t := 3) (zero := #[.int .i64 0]) h (of_decide_eq_true (by kernel_rfl)) (by kernel_rfl) rfl (by kernel_rfl) (by kernel_rfl) Tryz.underlying3
end Go.Proofs.YtnpbnlphmngbdaaGreatDoor
