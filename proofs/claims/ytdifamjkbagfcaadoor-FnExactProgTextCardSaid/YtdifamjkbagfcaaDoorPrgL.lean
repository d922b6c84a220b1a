/- The law FnExactGoodProg: the walk. -/
import Derived.Test.YtdifamjkbagfcaaDoorPrgI
namespace Go.Proofs.YtdifamjkbagfcaaDoor
open Go.RowKit
open Rd Fl

end Go.Proofs.YtdifamjkbagfcaaDoor
