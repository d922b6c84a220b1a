/- UndersIn of the code, the sort paid. -/
import Derived.Test.YtmflbibogkebmaaUh
import Derived.Test.YtmflbibogkebmaaVh
namespace Go.Proofs.Ytmflbibogkebmaa
open Go.RowKit
theorem iunders_all (A : Option Addr) (l : List EvD) (cap : Nat) (hcap : l.length ≤ cap) (hl : l.length ≤ 1048576) (w : World) (hA : EvsAt w A l) :
    Calls Try.prog 24 #[.slice A l.length cap] w fun e w' => (∃ v, e = .returned (.tuple #[v, .bool (goodTr l)]) ∧ ResU (undersN l) w' w.heap.size w'.heap.size v) ∧ Below w.heap.size w w' := iunders_any sort_says sort_nil A l cap hcap hl w hA
end Go.Proofs.Ytmflbibogkebmaa
