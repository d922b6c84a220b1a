/- spec.l1Put at a list that is there. -/
import Derived.Test.YtnmbkiajkpcmnaaDoorPt
namespace Go.Proofs.YtnmbkiajkpcmnaaDoor
open Go.RowKit
open Rd Fl

end Go.Proofs.YtnmbkiajkpcmnaaDoor
