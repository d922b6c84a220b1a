/- NextAfter: both sides. -/
import Derived.Test.YtgfnejojjjlloaaQe
import Derived.Test.YtgfnejojjjlloaaQi
namespace Go.Proofs.Ytgfnejojjjlloaa
open Go.RowKit
open Rd Fl

theorem good_len {l : List EvD} (h : goodTr l = true) : l.length ≤ 200 := by
  unfold goodTr at h; rw [Bool.and_eq_true] at h; exact of_decide_eq_true h.1
theorem good_ev {l : List EvD} (h : goodTr l = true) {i : Nat} (hi : i < l.length) : goodEv l[i] = true := by
  unfold goodTr at h; rw [Bool.and_eq_true] at h; exact List.all_eq_true.1 h.2 _ (List.getElem_mem hi)
theorem evA_get {l : List EvD} {i : Nat} (hi : i < l.length) : evA l i = l[i] := by
  unfold evA; rw [List.getD_eq_getElem?_getD, List.getElem?_eq_getElem hi]; rfl
theorem rgt_get {l : List EvD} {i j : Nat} (hi : i < l.length) (hj : j < l.length) : rgt l i j = rightB l[i] l[j] := by
  unfold rgt; rw [evA_get hi, evA_get hj]

/-- pairs of places, one right ahead of the other -/
def nextN (l : List EvD) : List (List Int) := if goodTr l = true then prAll (rgt l) l.length l.length else []
theorem nextN_len (l : List EvD) : (nextN l).length ≤ 40000 := by
  unfold nextN
  split
  · rename_i h
    have h1 := prAll_len (rgt l) l.length l.length
    have h2 := Nat.mul_le_mul (good_len h) (good_len h)
    omega
  · simp
theorem nextN_two (l : List EvD) : ∀ x ∈ nextN l, x.length ≤ 1000 := by
  unfold nextN
  split
  · exact prAll_two _ _ _
  · intro x h; cases h

end Go.Proofs.Ytgfnejojjjlloaa
