/- The library's sort, at lists of ints. The library's sort, at long lists of ints. -/
import Derived.Test.YtmflbibogkebmaaVr
import Derived.Test.YtmflbibogkebmaaShelf
import Derived.Sort.OwnSortedInts
namespace Go.Proofs.Ytmflbibogkebmaa
open Go.RowKit
open Rd Fl

theorem holdsE {w : World} {g : Nat} {e : TypeId} {cur : Array Value} {l : List Int} (hb : w.heap[g]? = some (.cells cur e (0, 0))) (ht : cur.toList.take (l.length * 1) = l.map iv) : Sort.Holds (Value.int .i64) w g 0 l.toArray := by
  intro j hj
  have hj' : j < l.length := by simpa using hj
  refine ⟨?_, by simp [World.frozen?, hb]⟩
  have h1 : (cur.toList.take (l.length * 1))[j]? = (l.map iv)[j]? := by rw [ht]
  rw [List.getElem?_take_of_lt (by omega)] at h1
  simp only [World.cell?, hb, Nat.zero_add]
  simp only [Option.isSome_none, Bool.false_eq_true, if_false]
  rw [← Array.getElem?_toList, h1]
  simp [hj', iv]
theorem sort_says : SortSays := by
  intro l B g cap hl w h
  rcases h.2 with ⟨h0, -⟩ | ⟨g', cap', cur, h0, hb, hg, h1, h2, h3, h4⟩
  · cases h0
  · cases h0
    refine (Try.slices_Sort_int g 0 cap l w (holdsE hg h4) (Array.getElem?_eq_some_iff.1 hg).1 (by omega)).mono ?_
    rintro en w' ⟨rfl, nn, os, rfl⟩
    exact ⟨rfl, ownsRow_sortedI (List.length_mergeSort l) hb hg h1 h2 h3, grownBy_sortedI _⟩
theorem sort_nil : SortNil := by
  intro w
  refine (Try.slices_Sort_int_none none 0 w).mono ?_
  rintro en w' ⟨rfl, rfl⟩
  exact ⟨rfl, Below.refl _ _⟩
end Go.Proofs.Ytmflbibogkebmaa
namespace Go.Proofs.Ytmflbibogkebmaa
open Go.RowKit
open Rd Fl

theorem sort_many : SortMany := by
  intro l B g cap hl w h
  rcases h.2 with ⟨h0, -⟩ | ⟨g', cap', cur, h0, hb, hg, h1, h2, h3, h4⟩
  · cases h0
  · cases h0
    refine (Try.slices_Sort_int g 0 cap l w (holdsE hg h4) (Array.getElem?_eq_some_iff.1 hg).1 (by omega)).mono ?_
    rintro en w' ⟨rfl, nn, os, rfl⟩
    exact ⟨rfl, ownsRow_sortedI (List.length_mergeSort l) hb hg h1 h2 h3, grownBy_sortedI _⟩
end Go.Proofs.Ytmflbibogkebmaa
