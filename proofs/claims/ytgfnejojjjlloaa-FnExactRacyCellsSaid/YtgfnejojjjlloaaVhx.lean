/- The library's sort, at long lists of ints. -/
import Derived.Test.YtgfnejojjjlloaaVrx
import Derived.Test.YtgfnejojjjlloaaVh
namespace Go.Proofs.Ytgfnejojjjlloaa
open Go.RowKit
open Rd Fl

theorem sort_many : SortMany := by
  intro l B g cap hl w h
  rcases h.2 with ⟨h0, -⟩ | ⟨g', cap', cur, h0, hb, hg, h1, h2, h3, h4⟩
  · cases h0
  · cases h0
    refine (Try.slices_Sort_int g 0 cap l w (holdsE hg h4) (Array.getElem?_eq_some_iff.1 hg).1 (by omega)).mono ?_
    rintro en w' ⟨rfl, nn, os, rfl⟩
    exact ⟨rfl, ownsRow_sortedI (List.length_mergeSort l) hb hg h1 h2 h3, grownBy_sortedI _⟩
end Go.Proofs.Ytgfnejojjjlloaa
