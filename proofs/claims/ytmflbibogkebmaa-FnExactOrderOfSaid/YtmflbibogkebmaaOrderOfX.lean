/- OrderOf of the code, the sort paid. -/
import Derived.Test.YtmflbibogkebmaaWm
import Derived.Test.YtmflbibogkebmaaVh
namespace Go.Proofs.Ytmflbibogkebmaa
open Go.RowKit
theorem iorder_all (A : Option Addr) (l : List EvD) (cap : Nat) (hcap : l.length ≤ cap) (hl : l.length ≤ 1048576) (w : World) (hA : EvsAt w A l) :
    Calls Try.prog 31 #[.slice A l.length cap] w fun e w' => (∃ v, e = .returned (.tuple #[v, .bool (okOrd l)]) ∧ ResI (ordR l) w' w.heap.size w'.heap.size v) ∧ Below w.heap.size w w' := iorder_any sort_says sort_nil A l cap hcap hl w hA
end Go.Proofs.Ytmflbibogkebmaa
