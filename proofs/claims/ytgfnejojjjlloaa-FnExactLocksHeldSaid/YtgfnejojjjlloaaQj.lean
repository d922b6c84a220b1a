/- impl.pairsWhere, with each of its two closures. -/
import Derived.Test.YtgfnejojjjlloaaQi
namespace Go.Proofs.Ytgfnejojjjlloaa
open Go.RowKit
open Rd Fl

end Go.Proofs.Ytgfnejojjjlloaa
