/- The law FnExactOpText: the walk. -/
import Derived.Test.YtdifamjkbagfcaaDoorFormsOf
namespace Go.Proofs.YtdifamjkbagfcaaDoor
open Go.RowKit
open Rd Fl

theorem plain_out (c a b : Int) (z : Bool) (h : c < 1 ∨ 17 < c) : plainB c a b z = false := by
  unfold plainB
  rw [decide_eq_false (by omega : ¬ (1 ≤ c ∧ c ≤ 17))]
  rfl

end Go.Proofs.YtdifamjkbagfcaaDoor
