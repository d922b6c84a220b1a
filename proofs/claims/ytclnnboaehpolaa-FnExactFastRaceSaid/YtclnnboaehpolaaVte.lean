/- spec.SharedLocks: what its loops reckon. -/
import Derived.Test.YtclnnboaehpolaaVtb
import Derived.Test.YtclnnboaehpolaaVtd
import Derived.Test.YtclnnboaehpolaaVs
import Derived.Test.YtclnnboaehpolaaPv
namespace Go.Proofs.Ytclnnboaehpolaa
open Go.RowKit Go.Maps
open Rd Fl

/-- what the specification has gathered of a cell behind k places -/
def gath (t : List EvD) (k : Nat) (x : Int) : List Int := (shTo t k x).getD []
/-- its flag: nothing yet -/
def firstB (t : List EvD) (k : Nat) (x : Int) : Bool := (shTo t k x).isNone
theorem gath_no {t : List EvD} {k : Nat} {x : Int} (h : ¬ (tchB (evA t k) = true ∧ (evA t k).ob = x)) : gath t (k + 1) x = gath t k x ∧ firstB t (k + 1) x = firstB t k x := by
  unfold gath firstB
  rw [shTo_no h]
  exact ⟨rfl, rfl⟩
theorem gath_new {t : List EvD} {k : Nat} {x : Int} (h : tchB (evA t k) = true ∧ (evA t k).ob = x) (hn : firstB t k x = true) : gath t (k + 1) x = bothL (heldN t k) (heldN t k) ∧ firstB t (k + 1) x = false := by
  have hs : shTo t k x = none := by
    unfold firstB at hn
    cases h : shTo t k x with
    | none => rfl
    | some l => rw [h] at hn; cases hn
  unfold gath firstB
  rw [shTo_new h hs, bothL_self]
  exact ⟨rfl, rfl⟩
theorem gath_old {t : List EvD} {k : Nat} {x : Int} (h : tchB (evA t k) = true ∧ (evA t k).ob = x) (hn : firstB t k x = false) : gath t (k + 1) x = bothL (gath t k x) (heldN t k) ∧ firstB t (k + 1) x = false := by
  unfold firstB at hn
  cases hs : shTo t k x with
  | none => rw [hs] at hn; cases hn
  | some l =>
    unfold gath firstB
    rw [shTo_old h hs, hs]
    exact ⟨by simp only [Option.getD_some]; exact bothL_swap (heldN_rises t k) (shTo_rises t k x l hs), rfl⟩
theorem gath_len {t : List EvD} (k : Nat) (x : Int) : (gath t k x).length ≤ k := by
  unfold gath
  cases hs : shTo t k x with
  | none => simp
  | some l => exact shTo_len k x l hs
theorem bothL_no {l m : List Int} {k : Nat} (hk : k < l.length) (h : decide (l[k] ∈ m) = false) : bothL (l.take (k + 1)) m = bothL (l.take k) m := by
  unfold bothL
  rw [List.take_succ_eq_append_getElem hk, List.filter_append]
  simp at h
  simp [h]
theorem bothL_yes {l m : List Int} {k : Nat} (hk : k < l.length) (h : decide (l[k] ∈ m) = true) : bothL (l.take (k + 1)) m = bothL (l.take k) m ++ [l[k]] := by
  unfold bothL
  rw [List.take_succ_eq_append_getElem hk, List.filter_append]
  simp at h
  simp [h]

end Go.Proofs.Ytclnnboaehpolaa
