/- strings.Join and slices.Grow by the shelf's contracts, laid at this program's numbers. -/
import Derived.Test.YtfjklhfmecjjkaaDoorScanA
import Derived.Shelf.Strings.OnBuilder
import Derived.Shelf.Spec.SlicesGrow
namespace Go.Proofs.YtfjklhfmecjjkaaDoor
open Go.RowKit

set_option maxRecDepth 100000
end Go.Proofs.YtfjklhfmecjjkaaDoor
