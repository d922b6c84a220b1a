/- RacyCells of the code, the sort paid. -/
import Derived.Test.YtgfnejojjjlloaaVk
import Derived.Test.YtgfnejojjjlloaaVh
namespace Go.Proofs.Ytgfnejojjjlloaa
open Go.RowKit
theorem iracy_all (A : Option Addr) (l : List EvD) (cap : Nat) (hcap : l.length ≤ cap) (hl : l.length ≤ 1048576) (w : World) (hA : EvsAt w A l) :
    Calls Try.prog 24 #[.slice A l.length cap] w fun e w' => (∃ v, e = .returned (.tuple #[v, .bool (goodTr l)]) ∧ ResI (cellsR (racesN l)) w' w.heap.size w'.heap.size v) ∧ Below w.heap.size w w' := iracy_any sort_many sort_nil A l cap hcap hl w hA
end Go.Proofs.Ytgfnejojjjlloaa
