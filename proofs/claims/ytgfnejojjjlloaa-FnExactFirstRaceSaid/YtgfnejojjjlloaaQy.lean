/- SideBySide: the specification's side. -/
import Derived.Test.YtgfnejojjjlloaaQw
namespace Go.Proofs.Ytgfnejojjjlloaa
open Go.RowKit
open Rd Fl

end Go.Proofs.Ytgfnejojjjlloaa
