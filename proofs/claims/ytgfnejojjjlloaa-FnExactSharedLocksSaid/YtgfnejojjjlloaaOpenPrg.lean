/- A program that comes in: what lies where. -/
import Derived.Test.YtgfnejojjjlloaaOpenOp
import Derived.Test.YtgfnejojjjlloaaPrg
import Derived.Deep.Slices
namespace Go.Proofs.Ytgfnejojjjlloaa
open Go.ChangeShapes Go.WideShapes Go.ChangeAt Go.RowKit
open Fl

theorem pcells3 : Try.prog.cellsOf 3 = 1 := by kernel_rfl
/-- What one list that comes in is: a slice's value, and the ops that lie there. -/
def OpsIn (w : World) (v : Value) (l : List OpD) : Prop :=
  ∃ A cap, v = .slice A l.length cap ∧ OpsAt w A l ∧ (∀ o ∈ l, o.r < 9223372036854775808) ∧ l.length ≤ 9223372036854775807

theorem maxLen_le {n : Nat} (h : n ≤ maxLen) : n ≤ 9223372036854775807 := by unfold maxLen at h; omega

theorem getElem?_range_map {α : Type} {n i : Nat} {f : Nat → α} {x : α} (h : ((List.range n).map f)[i]? = some x) : i < n ∧ x = f i := by
  obtain ⟨hi, e⟩ := List.getElem?_eq_some_iff.1 h
  simp at hi e
  exact ⟨hi, e.symm⟩

end Go.Proofs.Ytgfnejojjjlloaa
