/- impl.pairsWhere, with each of its two closures. -/
import Derived.Test.YtbaknjfaplmaiaaQi
namespace Go.Proofs.Ytbaknjfaplmaiaa
open Go.RowKit
open Rd Fl

end Go.Proofs.Ytbaknjfaplmaiaa
