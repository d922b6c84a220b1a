/- What LeastNum and the laws' own sameFloat answer: contracts. -/
import Derived.Test.YtgfnejojjjlloaaOrder
namespace Go.Proofs.Ytgfnejojjjlloaa
open Go.RowKit
open Fl

def leastW (s : Bool) (r : Nat) (t : Bool) (q : Nat) : Nat := if cmpN s r t q ≤ 0 then wd s r else wd t q

theorem leastW_wd (s t : Bool) (r q : Nat) (hr : r < 9223372036854775808) (hq : q < 9223372036854775808) : ∃ u p, p < 9223372036854775808 ∧ leastW s r t q = wd u p := by
  unfold leastW
  split
  · exact ⟨s, r, hr, rfl⟩
  · exact ⟨t, q, hq, rfl⟩

theorem gt0 (s : Bool) (r : Nat) (hr : r ≤ 9218868437227405312) : (FloatKind.f64.format.order (wd s r) 0 == some Ordering.gt) = (!s && decide (0 < r)) := by
  have := cmp_gt s false r 0 hr (by omega)
  rw [← z_false] at this
  rw [this]
  cases s <;> simp [sr] <;> omega

/-- The laws' own test of two floats: what is the same passes. -/
theorem sameB_cases (s t : Bool) (r q : Nat) (h : sameB s r t q = true) : (9218868437227405312 < r ∧ 9218868437227405312 < q) ∨ (¬ 9218868437227405312 < r ∧ s = t ∧ r = q) := by
  unfold sameB at h
  split at h
  · exact .inl (by simpa using h)
  · rename_i hn
    exact .inr ⟨fun h1 => hn (.inl h1), by simpa using h⟩

theorem sameB_refl (s : Bool) (r : Nat) : sameB s r s r = true := by
  unfold sameB; split <;> simp_all
end Go.Proofs.Ytgfnejojjjlloaa
