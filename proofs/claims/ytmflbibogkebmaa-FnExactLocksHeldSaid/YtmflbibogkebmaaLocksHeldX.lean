/- LocksHeld of the code, the sort paid. -/
import Derived.Test.YtmflbibogkebmaaVv
import Derived.Test.YtmflbibogkebmaaVh
namespace Go.Proofs.Ytmflbibogkebmaa
open Go.RowKit
theorem ilheld_all (A : Option Addr) (l : List EvD) (cap : Nat) (a : Int) (hcap : l.length ≤ cap) (hl : l.length ≤ 1048576) (w : World) (hA : EvsAt w A l) :
    Calls Try.prog 12 #[.slice A l.length cap, .int .i64 a] w fun e w' => (∃ v, e = .returned (.tuple #[v, .bool (okLH l a)]) ∧ ResI (heldL l a) w' w.heap.size w'.heap.size v) ∧ Below w.heap.size w w' := islheld_any sort_says sort_nil A l cap a hcap hl w hA
end Go.Proofs.Ytmflbibogkebmaa
