/- What a world's shape gives a walk: internal/bytealg.MaxLen holds some number. -/
import Derived.Test.YtnnhlkbjdfgcaaaHoF
import Derived.Shelf.Vars
namespace Go.Proofs.Ytnnhlkbjdfgcaaa
open Go.RowKit
theorem maxL_of {W : World} (h : W.ShapedOpen Try.prog) : MaxL W :=
  cell_of_shapedOpen_int (g := 0) (t := 3) (zero := #[.int .i64 0]) h (of_decide_eq_true (by kernel_rfl)) (by kernel_rfl) rfl (by kernel_rfl) (by kernel_rfl) Try.underlying3
end Go.Proofs.Ytnnhlkbjdfgcaaa
