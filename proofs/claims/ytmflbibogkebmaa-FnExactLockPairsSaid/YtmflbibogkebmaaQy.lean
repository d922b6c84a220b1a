/- SideBySide: the specification's side. -/
import Derived.Test.YtmflbibogkebmaaQw
namespace Go.Proofs.Ytmflbibogkebmaa
open Go.RowKit
open Rd Fl

end Go.Proofs.Ytmflbibogkebmaa
