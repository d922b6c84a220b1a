/- States: comparisons of the exact laws. -/
import Derived.Test.YtclnnboaehpolaaSt
import Derived.Test.YtclnnboaehpolaaKind
import Derived.BigQuiet
import Derived.Deep.RegionWith
namespace Go.Proofs.Ytclnnboaehpolaa
open Go.RowKit
open Rd Fl

theorem first_below2 {w wr w1 : World} (h : Below w.heap.size w wr) (hb : Below wr.drew.heap.size wr.drew w1) : Below w.heap.size w w1 := h.drew.trans (hb.mono h.size)

/-- the numbers' words -/
structure StNums (s : StD) : Prop where
  k : ∀ t ∈ s.ts, ∀ x ∈ t.sk, x.2 < 9223372036854775808
  c : ∀ x ∈ s.cl, x.2 < 9223372036854775808

end Go.Proofs.Ytclnnboaehpolaa
