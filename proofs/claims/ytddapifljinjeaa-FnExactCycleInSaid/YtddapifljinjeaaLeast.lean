/- What LeastNum and the laws' own sameFloat answer: contracts. -/
import Derived.Test.YtddapifljinjeaaOrder
namespace Go.Proofs.Ytddapifljinjeaa
open Go.RowKit
open Fl

def leastW (s : Bool) (r : Nat) (t : Bool) (q : Nat) : Nat := if cmpN s r t q ≤ 0 then wd s r else wd t q

theorem leastW_wd (s t : Bool) (r q : Nat) (hr : r < 9223372036854775808) (hq : q < 9223372036854775808) : ∃ u p, p < 9223372036854775808 ∧ leastW s r t q = wd u p := by
  unfold leastW
  split
  · exact ⟨s, r, hr, rfl⟩
  · exact ⟨t, q, hq, rfl⟩

theorem gt0 (s : Bool) (r : Nat) (hr : r ≤ 9218868437227405312) : (FloatKind.f64.format.order (wd s r) 0 == some Ordering.gt) = (!s && decide (0 < r)) := by
  have := cmp_gt s false r 0 hr (by omega)
  rw [← z_false] at this
  rw [this]
  cases s <;> simp [sr] <;> omega

/-- The laws' own test of two floats: what is the same passes. -/
theorem sameB_cases (s t : Bool) (r q : Nat) (h : sameB s r t q = true) : (9218868437227405312 < r ∧ 9218868437227405312 < q) ∨ (¬ 9218868437227405312 < r ∧ s = t ∧ r = q) := by
  unfold sameB at h
  split at h
  · exact .inl (by simpa using h)
  · rename_i hn
    exact .inr ⟨fun h1 => hn (.inl h1), by simpa using h⟩

set_option maxHeartbeats 400000 in
theorem samefl_any (s t : Bool) (r q : Nat) (hr : r < 9223372036854775808) (hq : q < 9223372036854775808) (h : sameB s r t q = true) (w : World) :
    Calls Try.prog 51 #[.float .f64 (wd s r), .float .f64 (wd t q)] w fun e w' => e = .returned (.bool true) ∧ w' = w := by
  have h3 := neself s r hr
  have h4 := neself t q hq
  rcases sameB_cases s t r q h with ⟨h1, h2⟩ | ⟨h1, h2, h5⟩
  · rw [decide_eq_true h1] at h3
    rw [decide_eq_true h2] at h4
    clear h
    go_enter Try.func51, Try.ntmps51
    go_wp2
    go_ret
    exact ⟨rfl, rfl⟩
  · subst h2; subst h5
    rw [decide_eq_false h1] at h3
    clear h h4
    have h5 := eq0 s r (by omega)
    by_cases h0 : r = 0
    · subst h0
      simp only [decide_true] at h5
      have h6 := run_one_div s
      have h7 := gt0 s 9218868437227405312 (by omega)
      simp only [Nat.reduceLT, decide_true, Bool.and_true] at h7
      go_enter Try.func51, Try.ntmps51
      go_wp2
      go_ret
      refine ⟨?_, rfl⟩
      cases s <;> rfl
    · simp only [h0, decide_false] at h5
      have h6 := eqself s r (by omega)
      go_enter Try.func51, Try.ntmps51
      go_wp2
      go_ret
      exact ⟨rfl, rfl⟩

theorem sameB_refl (s : Bool) (r : Nat) : sameB s r s r = true := by
  unfold sameB; split <;> simp_all
end Go.Proofs.Ytddapifljinjeaa
