/- spec.l1Put at a list that is there. -/
import Derived.Test.YtnmbkiajkpcmnaaPt
namespace Go.Proofs.Ytnmbkiajkpcmnaa
open Go.RowKit
open Rd Fl

end Go.Proofs.Ytnmbkiajkpcmnaa
