/- What LeastNum and the laws' own sameFloat answer: contracts. -/
import Derived.Test.YtphcfhndgadkgaaDoorOrder
namespace Go.Proofs.YtphcfhndgadkgaaDoor
open Go.RowKit
open Fl

def leastW (s : Bool) (r : Nat) (t : Bool) (q : Nat) : Nat := if cmpN s r t q ≤ 0 then wd s r else wd t q

set_option maxHeartbeats 400000 in
theorem sleast_any (s t : Bool) (r q : Nat) (hr : r < 9223372036854775808) (hq : q < 9223372036854775808) (w : World) :
    Calls Tryd.prog 12 #[.float .f64 (wd s r), .float .f64 (wd t q)] w fun e w' => e = .returned (.float .f64 (leastW s r t q)) ∧ w' = w := by
  by_cases h : cmpN s r t q ≤ 0
  · rw [show leastW s r t q = wd s r by unfold leastW; rw [if_pos h]]
    go_enter Tryd.func12, Tryd.ntmps12
    go_wp2_with (go_at_call 9; refine (scmp_any s t r q hr hq _).mono ?_; rintro e w' ⟨rfl, rfl⟩)
    go_ret
    exact ⟨rfl, rfl⟩
  · rw [show leastW s r t q = wd t q by unfold leastW; rw [if_neg h]]
    go_enter Tryd.func12, Tryd.ntmps12
    go_wp2_with (go_at_call 9; refine (scmp_any s t r q hr hq _).mono ?_; rintro e w' ⟨rfl, rfl⟩)
    go_ret
    exact ⟨rfl, rfl⟩

set_option maxHeartbeats 400000 in
theorem ileast_any (s t : Bool) (r q : Nat) (hr : r < 9223372036854775808) (hq : q < 9223372036854775808) (w : World) :
    Calls Tryd.prog 8 #[.float .f64 (wd s r), .float .f64 (wd t q)] w fun e w' => e = .returned (.float .f64 (leastW s r t q)) ∧ w' = w := by
  by_cases h : cmpN s r t q ≤ 0
  · rw [show leastW s r t q = wd s r by unfold leastW; rw [if_pos h]]
    go_enter Tryd.func8, Tryd.ntmps8
    go_wp2_with (go_at_call 7; refine (icmp_any s t r q hr hq _).mono ?_; rintro e w' ⟨rfl, rfl⟩)
    go_ret
    exact ⟨rfl, rfl⟩
  · rw [show leastW s r t q = wd t q by unfold leastW; rw [if_neg h]]
    go_enter Tryd.func8, Tryd.ntmps8
    go_wp2_with (go_at_call 7; refine (icmp_any s t r q hr hq _).mono ?_; rintro e w' ⟨rfl, rfl⟩)
    go_ret
    exact ⟨rfl, rfl⟩

theorem leastW_wd (s t : Bool) (r q : Nat) (hr : r < 9223372036854775808) (hq : q < 9223372036854775808) : ∃ u p, p < 9223372036854775808 ∧ leastW s r t q = wd u p := by
  unfold leastW
  split
  · exact ⟨s, r, hr, rfl⟩
  · exact ⟨t, q, hq, rfl⟩

theorem gt0 (s : Bool) (r : Nat) (hr : r ≤ 9218868437227405312) : (FloatKind.f64.format.order (wd s r) 0 == some Ordering.gt) = (!s && decide (0 < r)) := by
  have := cmp_gt s false r 0 hr (by omega)
  rw [← z_false] at this
  rw [this]
  cases s <;> simp [sr] <;> omega

/-- The laws' own test of two floats: what is the same passes. -/
theorem sameB_cases (s t : Bool) (r q : Nat) (h : sameB s r t q = true) : (9218868437227405312 < r ∧ 9218868437227405312 < q) ∨ (¬ 9218868437227405312 < r ∧ s = t ∧ r = q) := by
  unfold sameB at h
  split at h
  · exact .inl (by simpa using h)
  · rename_i hn
    exact .inr ⟨fun h1 => hn (.inl h1), by simpa using h⟩

theorem sameB_refl (s : Bool) (r : Nat) : sameB s r s r = true := by
  unfold sameB; split <;> simp_all
end Go.Proofs.YtphcfhndgadkgaaDoor
