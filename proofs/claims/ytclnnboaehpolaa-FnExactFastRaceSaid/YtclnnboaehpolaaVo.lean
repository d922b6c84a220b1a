/- slices.Contains and slices.DeleteFunc at lists of ints, walked. -/
import Derived.Test.YtclnnboaehpolaaVr
import Derived.Test.YtclnnboaehpolaaQs
namespace Go.Proofs.Ytclnnboaehpolaa
open Go.RowKit Go.Maps
open Rd Fl

end Go.Proofs.Ytclnnboaehpolaa
