/- Programs: the copy as a struct, and comparisons. -/
import Derived.Test.YtgfnejojjjlloaaPrgD
import Derived.Test.YtgfnejojjjlloaaLeast
import Derived.Deep.RegionWith
namespace Go.Proofs.Ytgfnejojjjlloaa
open Go.RowKit
open Rd Fl

theorem OwnTo.setc {w : World} {N k : Nat} {rs : List (List OpD)} (h : OwnTo w N k rs) (b o : Nat) (v : Value) (hb : b < N) : OwnTo (w.setCell ⟨b, o, none⟩ v) N k rs := by
  intro i l hi hl
  obtain ⟨M, h1, h2, h3, h4⟩ := h i l hi hl
  refine ⟨M, h1, by rw [set_size]; exact h2, ?_, h4.set _ _ _ (by omega)⟩
  rw [World.cell?_setCell_other _ _ _ _ (by simp <;> omega)]
  exact h3
theorem first_below {w wr w1 : World} (h : Below w.heap.size w wr) (hb : Below wr.drew.heap.size wr.drew w1) : Below w.heap.size w w1 := h.drew.trans (hb.mono h.size)

end Go.Proofs.Ytgfnejojjjlloaa
